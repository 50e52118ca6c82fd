/- The walk of TokenJoin, given the landed code's contract. -/
import Derived.Test.YtgabeacpgmomhaaDoorTokAdd
namespace Go.Proofs.YtgabeacpgmomhaaDoor
open Go.RowKit

theorem toksV_app (file : Int) (x y : List TokV) : toksV file (x ++ y) = toksV file x ++ toksV file y := by
  unfold toksV
  rw [List.flatMap_append]

set_option maxRecDepth 100000 in
set_option maxHeartbeats 4000000 in
/-- The first text is none. -/
theorem tjoin_bad1 {Y : World → Prop} (R : TokSays Y) (s t : ByteArray) (w : World) (hY : Y w) (hs : s.size ≤ 500) (ht : t.size ≤ 500) (p : Nat × Nat) (hv : splitOf s.data.toList = .error (3, p)) :
    Calls Tryd.prog 6 #[.string s, .string t] w fun e w' => e = .returned (.bool true) ∧ Below w.heap.size w w' := by
  have H1 : Hid (∀ W : World, Below w.heap.size w W → Calls Tryd.prog 8 #[.string s, .int .i64 1] W (SplitRes 1 (splitOf s.data.toList) W)) := fun W hW => R.split s 1 W (R.keep _ _ hY hW) (by omega) (by decide) (by decide)
  have H2 : Hid (∀ W : World, Below w.heap.size w W → Calls Tryd.prog 8 #[.string t, .int .i64 1] W (SplitRes 1 (splitOf t.data.toList) W)) := fun W hW => R.split t 1 W (R.keep _ _ hY hW) (by omega) (by decide) (by decide)
  have hst := store_cx
  have hsI : (s.size : Int) ≤ 500 := by omega
  have htI : (t.size : Int) ≤ 500 := by omega
  rw [hv] at H1
  clear hs ht hv
  go_enter Tryd.func6, Tryd.ntmps6
  go_wp2_with fail
  refine (talive_any R _ hY).mono ?_
  rintro r w1 ⟨rfl, hb1⟩
  go_wp2_with fail
  refine (H1.out _ hb1).mono ?_
  intro r w2 h2
  obtain ⟨A2, c2, rfl, hb2⟩ := res_bad h2
  have hn2 := below_step hb1 (Nat.le_refl _) hb2
  have HBX := Lib.hid (Box.new w2 27 (faultCells 3 1 (fl p.1) (fl p.2)))
  have HN2 := Lib.hid (below_alloc hn2 (Nat.le_refl _) (.cells (faultCells 3 1 (fl p.1) (fl p.2)) 27))
  clear h2 hb1 hb2 hn2
  dsimp only [faultCells]
  unfold faultCells at HBX HN2
  go_wp2_with fail
  obtain ⟨g1, hg1⟩ : ∃ g1, g1 = w2.heap.size := ⟨_, rfl⟩
  generalize w2.alloc (.cells #[.int .i64 3, .int .i64 1, .complex .f64 (fl p.1) (fl p.2)] 27) = w3 at *
  rw [← hg1] at HBX ⊢
  clear hg1
  refine (H2.out _ HN2.out).mono ?_
  intro r w4 h4
  obtain ⟨A4, n4, c4, e4, f4, a4, b4, rfl, hb4⟩ := res_any h4
  have hn4 := below_step HN2.out (Nat.le_refl _) hb4
  have hx := HBX.out.step hb4
  have hn5 := below_alloc hn4 (Nat.le_refl _) (.cells (faultCells e4 f4 a4 b4) 27)
  unfold faultCells at hn5
  have u0 := hx.cell 0
  have u1 := hx.cell 1
  have u2 := hx.cell 2
  simp only [List.getElem?_toArray, List.getElem?_cons_zero, List.getElem?_cons_succ] at u0 u1 u2
  have ux := hx.lt
  clear h4 hb4 hx HBX
  dsimp only [faultCells]
  go_wp2
  go_ret
  exact ⟨by simp, hn5⟩

set_option maxRecDepth 100000 in
set_option maxHeartbeats 4000000 in
/-- The second text is none. -/
theorem tjoin_bad2 {Y : World → Prop} (R : TokSays Y) (s t : ByteArray) (w : World) (hY : Y w) (hs : s.size ≤ 500) (ht : t.size ≤ 500) (l : List TokV) (hv1 : splitOf s.data.toList = .ok l) (p : Nat × Nat) (hv : splitOf t.data.toList = .error (3, p)) :
    Calls Tryd.prog 6 #[.string s, .string t] w fun e w' => e = .returned (.bool true) ∧ Below w.heap.size w w' := by
  have H1 : Hid (∀ W : World, Below w.heap.size w W → Calls Tryd.prog 8 #[.string s, .int .i64 1] W (SplitRes 1 (splitOf s.data.toList) W)) := fun W hW => R.split s 1 W (R.keep _ _ hY hW) (by omega) (by decide) (by decide)
  have H2 : Hid (∀ W : World, Below w.heap.size w W → Calls Tryd.prog 8 #[.string t, .int .i64 1] W (SplitRes 1 (splitOf t.data.toList) W)) := fun W hW => R.split t 1 W (R.keep _ _ hY hW) (by omega) (by decide) (by decide)
  have hst := store_cx
  have hcx := fun W => eq_cx 0 0 W ord_0 ord_0
  have hsI : (s.size : Int) ≤ 500 := by omega
  have htI : (t.size : Int) ≤ 500 := by omega
  rw [hv1] at H1
  rw [hv] at H2
  obtain ⟨n, hn⟩ : ∃ n, n = l.length := ⟨_, rfl⟩
  clear hs ht hv hv1
  go_enter Tryd.func6, Tryd.ntmps6
  go_wp2_with fail
  refine (talive_any R _ hY).mono ?_
  rintro r w1 ⟨rfl, hb1⟩
  go_wp2_with fail
  refine (H1.out _ hb1).mono ?_
  intro r w2 h2
  obtain ⟨A2, c2, rfl, _, _, hb2⟩ := res_ok h2
  rw [← hn]
  have hn2 := below_step hb1 (Nat.le_refl _) hb2
  have HBX := Lib.hid (Box.new w2 27 (faultCells 0 0 0 0))
  have HN2 := Lib.hid (below_alloc hn2 (Nat.le_refl _) (.cells (faultCells 0 0 0 0) 27))
  clear h2 hb1 hb2 hn2 hn
  dsimp only [faultCells]
  unfold faultCells at HBX HN2
  go_wp2_with fail
  obtain ⟨g1, hg1⟩ : ∃ g1, g1 = w2.heap.size := ⟨_, rfl⟩
  generalize w2.alloc (.cells #[.int .i64 0, .int .i64 0, .complex .f64 0 0] 27) = w3 at *
  rw [← hg1] at HBX ⊢
  clear hg1
  refine (H2.out _ HN2.out).mono ?_
  intro r w4 h4
  obtain ⟨A4, c4, rfl, hb4⟩ := res_bad h4
  have hn4 := below_step HN2.out (Nat.le_refl _) hb4
  have hx := HBX.out.step hb4
  have hn5 := below_alloc hn4 (Nat.le_refl _) (.cells (faultCells 3 1 (fl p.1) (fl p.2)) 27)
  unfold faultCells at hn5
  have u0 := hx.cell 0
  have u1 := hx.cell 1
  have u2 := hx.cell 2
  simp only [List.getElem?_toArray, List.getElem?_cons_zero, List.getElem?_cons_succ] at u0 u1 u2
  have ux := hx.lt
  clear h4 hb4 hx HBX
  dsimp only [faultCells]
  go_wp2
  go_ret
  exact ⟨by simp, hn5⟩

end Go.Proofs.YtgabeacpgmomhaaDoor
