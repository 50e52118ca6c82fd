/- The walk of TokenJoin where both texts are tokens; and all of it. -/
import Derived.Test.YtgabeacpgmomhaaDoorTokJoin
import Derived.StillTailTactics
import Derived.Deep.DeepCutAuto
namespace Go.Proofs.YtgabeacpgmomhaaDoor
open Go.RowKit

set_option maxRecDepth 100000 in
set_option maxHeartbeats 8000000 in
theorem tjoin_good {Y : World → Prop} (R : TokSays Y) (s t : ByteArray) (w : World) (hY : Y w) (hs : s.size ≤ 500) (ht : t.size ≤ 500) (x y : List TokV) (hv1 : splitOf s.data.toList = .ok x) (hv2 : splitOf t.data.toList = .ok y) :
    Calls Tryd.prog 6 #[.string s, .string t] w fun e w' => e = .returned (.bool true) ∧ Below w.heap.size w w' := by
  have H1 : Hid (∀ W : World, Below w.heap.size w W → Calls Tryd.prog 8 #[.string s, .int .i64 1] W (SplitRes 1 (splitOf s.data.toList) W)) := fun W hW => R.split s 1 W (R.keep _ _ hY hW) (by omega) (by decide) (by decide)
  have H2 : Hid (∀ W : World, Below w.heap.size w W → Calls Tryd.prog 8 #[.string t, .int .i64 1] W (SplitRes 1 (splitOf t.data.toList) W)) := fun W hW => R.split t 1 W (R.keep _ _ hY hW) (by omega) (by decide) (by decide)
  rw [hv1] at H1
  rw [hv2] at H2
  have ls : s.data.toList.length = s.size := by simp
  have lt : t.data.toList.length = t.size := by simp
  obtain ⟨L, hL⟩ : ∃ L, L = (posFrom (1, 1) s.data.toList).1 := ⟨_, rfl⟩
  have hL1 : 1 ≤ L := by rw [hL]; exact (pos_ge _ _ (Nat.le_refl _) (Nat.le_refl _)).1
  have hL2 : L ≤ 501 := by
    have := (pos_le s.data.toList (1, 1)).1
    rw [← hL] at this
    simp only at this
    omega
  have H3 : Hid (∀ W : World, Below w.heap.size w W → Calls Tryd.prog 8 #[.string (s ++ ⟨#[10]⟩ ++ t), .int .i64 1] W (SplitRes 1 (.ok (x ++ y.map (shiftT L))) W)) := fun W hW => by
    have hsz : (s ++ (⟨#[10]⟩ : ByteArray) ++ t).size ≤ 1099511627776 := by
      rw [ByteArray.size_append, ByteArray.size_append]
      have : (⟨#[10]⟩ : ByteArray).size = 1 := rfl
      omega
    have := R.split (s ++ (⟨#[10]⟩ : ByteArray) ++ t) 1 W (R.keep _ _ hY hW) hsz (by decide) (by decide)
    have e : (s ++ (⟨#[10]⟩ : ByteArray) ++ t).data.toList = s.data.toList ++ 10 :: t.data.toList := by simp
    rw [e, splitOf_join hv1 hv2 (by omega), ← hL] at this
    exact this
  have HAT : Hid (∀ W : World, Calls Tryd.prog 11 #[.string s, .int .i64 (s.size : Int)] W fun e w' => (∃ C : Nat, e = .returned (.tuple #[.int .i64 (L : Int), .int .i64 (C : Int)])) ∧ W = w') := fun W => by
    have := refAt_any s (s.size : Int) W (by omega)
    rw [cut_at s s.size (Nat.le_refl _), ← ls, List.take_length, ← hL] at this
    rw [← ls]
    exact this.mono fun _ _ ⟨h1, h2⟩ => ⟨⟨_, h1⟩, h2⟩
  have hx5 := splitOf_few hv1
  have hy5 := splitOf_few hv2
  have HP : Hid (∀ q ∈ y, (1 ≤ q.place.1 ∧ q.place.1 ≤ 501) ∧ (1 ≤ q.place.2 ∧ q.place.2 ≤ 501)) := fun q hq => splitOf_place hv2 (by omega) hq
  have hst := store_cx
  have hcx := fun W => eq_cx 0 0 W ord_0 ord_0
  have hsI : (s.size : Int) ≤ 500 := by omega
  have htI : (t.size : Int) ≤ 500 := by omega
  have hz1 : (s ++ (⟨#[10]⟩ : ByteArray)).size ≤ 501 := by
    rw [ByteArray.size_append]
    have : (⟨#[10]⟩ : ByteArray).size = 1 := rfl
    omega
  have hz2 : (s ++ (⟨#[10]⟩ : ByteArray) ++ t).size ≤ 1001 := by
    rw [ByteArray.size_append]
    omega
  obtain ⟨nx, hnx⟩ : ∃ n, n = x.length := ⟨_, rfl⟩
  obtain ⟨ny, hny⟩ : ∃ n, n = y.length := ⟨_, rfl⟩
  obtain ⟨z, hz⟩ : ∃ z, z = x ++ y.map (shiftT L) := ⟨_, rfl⟩
  have hzl : z.length = nx + ny := by rw [hz, hnx, hny, List.length_append, List.length_map]
  have HZ := Lib.hid hz
  have HNX := Lib.hid hnx
  have HNY := Lib.hid hny
  rw [← hz] at H3
  have bx : (nx : Int) ≤ 500 := by omega
  have by' : (ny : Int) ≤ 500 := by omega
  clear hv1 hv2 ls lt hL hx5 hy5 hz hs ht hnx hny
  go_enter Tryd.func6, Tryd.ntmps6
  go_wp2_with fail
  refine (talive_any R _ hY).mono ?_
  rintro r w1 ⟨rfl, hb1⟩
  go_wp2_with fail
  refine (H1.out _ hb1).mono ?_
  intro r w2 h2
  obtain ⟨A2, c2, rfl, hc2, hl2, hb2⟩ := res_ok h2
  rw [← HNX.out] at hl2 hc2 ⊢
  have hn2 := below_step hb1 (Nat.le_refl _) hb2
  have HBX := Lib.hid (Box.new w2 27 (faultCells 0 0 0 0))
  have HN2 := Lib.hid (below_alloc hn2 (Nat.le_refl _) (.cells (faultCells 0 0 0 0) 27))
  have hbl2 : Below w2.heap.size w2 (w2.alloc (.cells (faultCells 0 0 0 0) 27)) := (Below.refl w2.heap.size w2).alloc (Nat.le_refl _) _
  have HX2 := Lib.hid ((hl2.below hbl2).wider hbl2.size)
  clear h2 hb1 hb2 hn2 hl2 hbl2
  dsimp only [faultCells]
  unfold faultCells at HBX HN2 HX2
  go_wp2_with fail
  obtain ⟨g1, hg1⟩ : ∃ g1, g1 = w2.heap.size := ⟨_, rfl⟩
  generalize w2.alloc (.cells #[.int .i64 0, .int .i64 0, .complex .f64 0 0] 27) = w3 at *
  rw [← hg1] at HBX ⊢
  clear hg1
  refine (H2.out _ HN2.out).mono ?_
  intro r w4 h4
  obtain ⟨A4, c4, rfl, hc4, hl4, hb4⟩ := res_ok h4
  rw [← HNY.out] at hl4 hc4 ⊢
  have hn4 := below_step HN2.out (Nat.le_refl _) hb4
  have hx := HBX.out.step hb4
  have hbl4 : Below w4.heap.size w4 (w4.alloc (.cells (faultCells 0 0 0 0) 27)) := (Below.refl w4.heap.size w4).alloc (Nat.le_refl _) _
  have HX4 := Lib.hid ((((HX2.out.below hb4).wider hb4.size).below hbl4).wider hbl4.size)
  have HY4 := Lib.hid ((hl4.below hbl4).wider hbl4.size)
  have HN4 := Lib.hid (below_alloc hn4 (Nat.le_refl _) (.cells (faultCells 0 0 0 0) 27))
  have u0 := hx.cell 0
  have u1 := hx.cell 1
  have u2 := hx.cell 2
  simp only [List.getElem?_toArray, List.getElem?_cons_zero, List.getElem?_cons_succ] at u0 u1 u2
  have ux := hx.lt
  clear h4 hb4 hx hn4 hl4 hbl4 HX2 HN2 HBX
  dsimp only [faultCells]
  unfold faultCells at HN4 HX4 HY4
  go_wp2_with fail
  clear u0 u1 u2 ux
  generalize w4.alloc (.cells #[.int .i64 0, .int .i64 0, .complex .f64 0 0] 27) = w5 at *
  refine (H3.out _ HN4.out).mono ?_
  intro r w6 h6
  obtain ⟨A6, c6, rfl, hc6, hl6, hb6⟩ := res_ok h6
  rw [hzl] at hl6 hc6 ⊢
  have hbl6 : Below w6.heap.size w6 (w6.alloc (.cells (faultCells 0 0 0 0) 27)) := (Below.refl w6.heap.size w6).alloc (Nat.le_refl _) _
  have HX6 := Lib.hid ((((HX4.out.below hb6).wider hb6.size).below hbl6).wider hbl6.size)
  have HY6 := Lib.hid ((((HY4.out.below hb6).wider hb6.size).below hbl6).wider hbl6.size)
  have HZ6 := Lib.hid ((hl6.below hbl6).wider hbl6.size)
  have hn6 := below_step HN4.out (Nat.le_refl _) hb6
  have HN6 := Lib.hid (below_alloc hn6 (Nat.le_refl _) (.cells (faultCells 0 0 0 0) 27))
  clear h6 hb6 hl6 hbl6 hn6 HX4 HY4 HN4
  dsimp only [faultCells]
  unfold faultCells at HN6 HX6 HY6 HZ6
  go_wp2_with fail
  generalize w6.alloc (.cells #[.int .i64 0, .int .i64 0, .complex .f64 0 0] 27) = w7 at *
  refine (HAT.out _).mono ?_
  rintro r w8 ⟨⟨C, rfl⟩, rfl⟩
  go_wp2_with fail
  clear hz1 hz2 hsI htI
  go_loopw [14, 15] (fun i _ wr => ∃ k : Nat, k ≤ nx + ny ∧ i = .int .i64 k ∧ Below w7.heap.size w7 wr) (fun i _ _ => nx + ny - (intOf i).toNat)
  case atStart => exact ⟨0, by omega, rfl, Below.refl _ _⟩
  case round =>
    obtain ⟨k, hk, rfl, hn⟩ := hrel
    by_cases hlt : k < nx
    · obtain ⟨q, hq⟩ : ∃ q, x[k]? = some q := ⟨_, List.getElem?_eq_getElem (by have := HNX.out; omega)⟩
      have hqz : z[k]? = some q := by
        rw [HZ.out, List.getElem?_append_left (by have := HNX.out; omega)]
        exact hq
      obtain ⟨a0, a1, a2, a3⟩ := tok_at 1 x k q hq
      obtain ⟨d0, d1, d2, d3⟩ := tok_at 1 z k q hqz
      obtain ⟨b1, o1, rfl, hb1, hc1⟩ := HX6.out.2 (by omega)
      obtain ⟨b2, o2, rfl, hb2, hc2⟩ := HZ6.out.2 (by omega)
      have e0 := (hn.cell (p := ⟨b1, o1 + k * 4, none⟩) hb1).trans (hc1 _ _ a0)
      have e1 := (hn.cell (p := ⟨b1, o1 + (k * 4 + 1), none⟩) hb1).trans (hc1 _ _ a1)
      have e2 := (hn.cell (p := ⟨b1, o1 + (k * 4 + 2), none⟩) hb1).trans (hc1 _ _ a2)
      have e3 := (hn.cell (p := ⟨b1, o1 + (k * 4 + 3), none⟩) hb1).trans (hc1 _ _ a3)
      have f0 := (hn.cell (p := ⟨b2, o2 + k * 4, none⟩) hb2).trans (hc2 _ _ d0)
      have f1 := (hn.cell (p := ⟨b2, o2 + (k * 4 + 1), none⟩) hb2).trans (hc2 _ _ d1)
      have f2 := (hn.cell (p := ⟨b2, o2 + (k * 4 + 2), none⟩) hb2).trans (hc2 _ _ d2)
      have f3 := (hn.cell (p := ⟨b2, o2 + (k * 4 + 3), none⟩) hb2).trans (hc2 _ _ d3)
      rw [← Nat.add_assoc] at e1 e2 e3 f1 f2 f3
      have hcx' := fun W => eq_cx (fl q.place.1) (fl q.place.2) W (ord_fl _) (ord_fl _)
      have k1 : (k : Int) < (nx : Int) := by omega
      have k2 : (k : Int) < (nx : Int) + (ny : Int) := by omega
      clear a0 a1 a2 a3 d0 d1 d2 d3 hc1 hc2 hq hqz
      go_wp2_with fail
      go_quiet (fail)
      go_wp2
      go_roundw
      case rel => exact ⟨k + 1, by omega, by go_num, below_drewN hn _⟩
      case measure => simp [intOf]; omega
    · by_cases hend : k < nx + ny
      · obtain ⟨j, hj⟩ : ∃ j, k = nx + j := ⟨k - nx, by omega⟩
        obtain ⟨q, hq⟩ : ∃ q, y[j]? = some q := ⟨_, List.getElem?_eq_getElem (by have := HNY.out; omega)⟩
        have hqz : z[k]? = some (shiftT L q) := by
          rw [HZ.out, List.getElem?_append_right (by have := HNX.out; omega), show k - x.length = j from by have := HNX.out; omega, List.getElem?_map, hq]
          rfl
        have hpl := HP.out q (List.mem_of_getElem? hq)
        obtain ⟨a0, a1, a2, a3⟩ := tok_at 1 y j q hq
        obtain ⟨d0, d1, d2, d3⟩ := tok_at 1 z k _ hqz
        unfold shiftT at d0 d1 d3
        dsimp only at d0 d1 d3
        obtain ⟨b1, o1, rfl, hb1, hc1⟩ := HY6.out.2 (by omega)
        obtain ⟨b2, o2, rfl, hb2, hc2⟩ := HZ6.out.2 (by omega)
        have e0 := (hn.cell (p := ⟨b1, o1 + j * 4, none⟩) hb1).trans (hc1 _ _ a0)
        have e1 := (hn.cell (p := ⟨b1, o1 + (j * 4 + 1), none⟩) hb1).trans (hc1 _ _ a1)
        have e2 := (hn.cell (p := ⟨b1, o1 + (j * 4 + 2), none⟩) hb1).trans (hc1 _ _ a2)
        have e3 := (hn.cell (p := ⟨b1, o1 + (j * 4 + 3), none⟩) hb1).trans (hc1 _ _ a3)
        have f0 := hc2 _ _ d0
        have f1 := hc2 _ _ d1
        have f2 := hc2 _ _ d2
        have f3 := hc2 _ _ d3
        rw [← Nat.add_assoc] at e1 e2 e3 f1 f2 f3
        have had := fun (T : TypeId) (W : World) => add_spot T q.place.1 q.place.2 L W hpl.1.1 hpl.2.1 hL1 (by omega) (by omega) (by omega)
        obtain ⟨Y, hY⟩ : ∃ Y, Y = L + q.place.1 := ⟨_, rfl⟩
        have hcx' := fun W => eq_cx (fl (Y : Int)) (fl q.place.2) W (ord_fl _) (ord_fl _)
        rw [← hY] at had f3
        have hadd : ∀ (T : TypeId) (W : World), (binOp .add T (.complex .f64 (fl q.place.1) (fl q.place.2)) (.complex .f64 (floatOfInt .f64 (L : Int)) 0)).run Tryd.prog W = .ok (.complex .f64 (fl (Y : Int)) (fl q.place.2)) W := had
        clear had
        have k1 : ¬ (k : Int) < (nx : Int) := by omega
        have k2 : (k : Int) < (nx : Int) + (ny : Int) := by omega
        have k3 : IntKind.i64.wrap ((k : Int) - (nx : Int)) = (j : Int) := by rw [IntWalk.i64_in _ (by omega)]; omega
        have k4 : (j : Int) < (ny : Int) := by omega
        have k5 : (j : Int).toNat = j := Int.toNat_natCast j
        have HBN : Hid (Below w7.heap.size w7 (wr.alloc (.cells #[.int .i64 q.kind, .string (strOf q.text), .int .i64 1, .complex .f64 (fl (Y : Int)) (fl q.place.2)] 35))) := below_alloc hn (Nat.le_refl _) _
        have HJ := Lib.hid hj
        have F0 := Lib.hid f0
        have F1 := Lib.hid f1
        have F2 := Lib.hid f2
        have F3 := Lib.hid f3
        clear a0 a1 a2 a3 d0 d1 d2 d3 hc1 hc2 hq hqz hpl hY hj f0 f1 f2 f3
        go_upto_region 19 with (fail)
        go_cut [] (fun wx => wx = wr.alloc (.cells #[.int .i64 q.kind, .string (strOf q.text), .int .i64 1, .complex .f64 (fl (Y : Int)) (fl q.place.2)] 35))
        case first =>
          clear k1 k2 k3 k4 k5 hk hlt hend
          go_wp2_with fail
          go_meet
          rfl
        case rest =>
          subst hcut
          obtain ⟨g, hg⟩ : ∃ g, g = wr.heap.size := ⟨_, rfl⟩
          have hbx := Box.new wr 35 #[.int .i64 q.kind, .string (strOf q.text), .int .i64 1, .complex .f64 (fl (Y : Int)) (fl q.place.2)]
          have hbn := HBN.out
          clear e0 e1 e2 e3 HBN
          generalize wr.alloc (.cells #[.int .i64 q.kind, .string (strOf q.text), .int .i64 1, .complex .f64 (fl (Y : Int)) (fl q.place.2)] 35) = wx at *
          rw [← hg] at hbx ⊢
          clear hg
          have e0 := hbx.cell 0
          have e1 := hbx.cell 1
          have e2 := hbx.cell 2
          have e3 := hbx.cell 3
          simp only [List.getElem?_toArray, List.getElem?_cons_zero, List.getElem?_cons_succ] at e0 e1 e2 e3
          have hgl := hbx.lt
          have f0 := (hbn.cell (p := ⟨b2, o2 + k * 4, none⟩) hb2).trans F0.out
          have f1 := (hbn.cell (p := ⟨b2, o2 + k * 4 + 1, none⟩) hb2).trans F1.out
          have f2 := (hbn.cell (p := ⟨b2, o2 + k * 4 + 2, none⟩) hb2).trans F2.out
          have f3 := (hbn.cell (p := ⟨b2, o2 + k * 4 + 3, none⟩) hb2).trans F3.out
          clear hbx
          go_wp2_with fail
          go_quiet (fail)
          go_wp2
          go_roundw
          case rel => exact ⟨k + 1, by omega, by go_num, below_drewN hbn _⟩
          case measure => simp [intOf]; omega
      · obtain rfl : k = nx + ny := by omega
        have k2 : ¬ ((nx + ny : Nat) : Int) < (nx : Int) + (ny : Int) := by omega
        go_wp2
        go_ret
        exact ⟨rfl, HN6.out.trans (hn.mono (Nat.le_trans HN6.out.size (Nat.le_refl _)))⟩

set_option maxRecDepth 100000 in
theorem tjoin_any {Y : World → Prop} (R : TokSays Y) (s t : ByteArray) (w : World) (hY : Y w) :
    Calls Tryd.prog 6 #[.string s, .string t] w fun e w' => e = .returned (.bool true) ∧ Below w.heap.size w w' := by
  by_cases h : s.size ≤ 500
  · by_cases h2 : t.size ≤ 500
    · have ls : s.data.toList.length = s.size := by simp
      have lt : t.data.toList.length = t.size := by simp
      cases hv1 : splitOf s.data.toList with
      | error ep =>
        obtain ⟨e, p⟩ := ep
        obtain rfl := splitOf_err hv1 (by omega)
        exact tjoin_bad1 R s t w hY h h2 p hv1
      | ok x =>
        cases hv2 : splitOf t.data.toList with
        | error ep =>
          obtain ⟨e, p⟩ := ep
          obtain rfl := splitOf_err hv2 (by omega)
          exact tjoin_bad2 R s t w hY h h2 x hv1 p hv2
        | ok y => exact tjoin_good R s t w hY h h2 x y hv1 hv2
    · have hsI : (s.size : Int) ≤ 500 := by omega
      have htI : (500 : Int) < (t.size : Int) := by omega
      clear h h2
      go_enter Tryd.func6, Tryd.ntmps6
      go_wp2_with fail
      refine (talive_any R _ hY).mono ?_
      rintro r w1 ⟨rfl, hb1⟩
      go_wp2
      go_ret
      exact ⟨rfl, hb1⟩
  · have hsI : (500 : Int) < (s.size : Int) := by omega
    clear h
    go_enter Tryd.func6, Tryd.ntmps6
    go_wp2_with fail
    refine (talive_any R _ hY).mono ?_
    rintro r w1 ⟨rfl, hb1⟩
    go_wp2
    go_ret
    exact ⟨rfl, hb1⟩

end Go.Proofs.YtgabeacpgmomhaaDoor
