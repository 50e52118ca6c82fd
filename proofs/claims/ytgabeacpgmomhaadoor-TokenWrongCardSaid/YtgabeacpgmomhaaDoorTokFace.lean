/- What package token's function says: to be shown of the code as it landed; the statements' own test of the document's example; the walk of TokenTells. -/
import Derived.Test.YtgabeacpgmomhaaDoorTokSplit
import Derived.Test.YtgabeacpgmomhaaDoorFloat
import Derived.Test.YtgabeacpgmomhaaDoorTokCx
import Derived.BigQuiet
namespace Go.Proofs.YtgabeacpgmomhaaDoor
open Go.RowKit

/-- The landed code's contract. -/
structure TokSays (Y : World → Prop) : Prop where
  keep : ∀ w w', Y w → Below w.heap.size w w' → Y w'
  split : ∀ (s : ByteArray) (file : Int) (w : World), Y w → s.size ≤ 1099511627776 → -9223372036854775808 ≤ file → file ≤ 9223372036854775807 →
    Calls Tryd.prog 8 #[.string s, .int .i64 file] w (SplitRes file (splitOf s.data.toList) w)

theorem split_none_ex : splitOf [] = .ok [] := rfl
theorem split_two_ex : splitOf [97, 32, 49, 50] = .ok [⟨1, [97], (1, 1)⟩, ⟨2, [49, 50], (1, 3)⟩] := by kernel_rfl

/-- What such a call gives, when it is told. -/
theorem res_ok {file : Int} {l : List TokV} {w : World} {r : Ending} {w' : World} (h : SplitRes file (.ok l) w r w') :
    ∃ (A : Option Addr) (c : Nat), r = .returned (.tuple #[.slice A l.length c, .agg (faultCells 0 0 0 0)]) ∧ l.length ≤ c ∧ Lies w' w'.heap.size 4 A l.length (toksV file l) ∧ Below w.heap.size w w' := by
  obtain ⟨h, hb⟩ := h
  rcases h with ⟨e, p, A, c, h1, _⟩ | ⟨m, A, c, h1, h2, h3, h4⟩
  · cases h1
  · have : l = m := by injection h1
    subst this
    exact ⟨A, c, h2, h3, h4, hb⟩
theorem res_bad {file e : Int} {p : Nat × Nat} {w : World} {r : Ending} {w' : World} (h : SplitRes file (.error (e, p)) w r w') :
    ∃ (A : Option Addr) (c : Nat), r = .returned (.tuple #[.slice A 0 c, .agg (faultCells e file (fl p.1) (fl p.2))]) ∧ Below w.heap.size w w' := by
  obtain ⟨h, hb⟩ := h
  rcases h with ⟨e', p', A, c, h1, h2⟩ | ⟨m, A, c, h1, _⟩
  · have h3 : (e, p) = (e', p') := by injection h1
    simp only [Prod.mk.injEq] at h3
    obtain ⟨rfl, rfl⟩ := h3
    exact ⟨A, c, h2, hb⟩
  · cases h1

set_option maxRecDepth 100000 in
set_option maxHeartbeats 2000000 in
theorem talive_any {Y : World → Prop} (R : TokSays Y) (w : World) (hY : Y w) : Calls Tryd.prog 7 #[] w fun e w' => e = .returned (.bool true) ∧ Below w.heap.size w w' := by
  have H1 : Hid (∀ W : World, Below w.heap.size w W → Calls Tryd.prog 8 #[.string ⟨#[]⟩, .int .i64 3] W (SplitRes 3 (.ok []) W)) := fun W hW => by
    have := R.split ⟨#[]⟩ 3 W (R.keep _ _ hY hW) (by decide) (by decide) (by decide)
    exact this
  have H2 : Hid (∀ W : World, Below w.heap.size w W → Calls Tryd.prog 8 #[.string ⟨#[97, 32, 49, 50]⟩, .int .i64 3] W (SplitRes 3 (.ok [⟨1, [97], (1, 1)⟩, ⟨2, [49, 50], (1, 3)⟩]) W)) := fun W hW => by
    have := R.split (strOf [97, 32, 49, 50]) 3 W (R.keep _ _ hY hW) (by decide) (by decide) (by decide)
    have e : (strOf [97, 32, 49, 50]).data.toList = [97, 32, 49, 50] := rfl
    rw [e, split_two_ex] at this
    exact this
  have o0 := ord_0
  have o1 := ord_1
  have o3 := ord_3
  have hst := store_cx
  have hcx := fun W => eq_cx 0 0 W ord_0 ord_0
  go_enter Tryd.func7, Tryd.ntmps7
  go_wp2_with fail
  refine (H1.out _ (Below.refl _ _)).mono ?_
  intro r w1 h1
  obtain ⟨A, c, rfl, _, _, hb1⟩ := res_ok h1
  have hbx := Box.new w1 27 (faultCells 0 0 0 0)
  have HBX := Lib.hid hbx
  have HN1 := Lib.hid (below_alloc hb1 (Nat.le_refl _) (.cells (faultCells 0 0 0 0) 27))
  clear h1 hb1 hbx
  dsimp only [faultCells]
  unfold faultCells at HBX HN1
  go_wp2_with fail
  generalize hw1 : w1.alloc (.cells #[.int .i64 0, .int .i64 0, .complex .f64 0 0] 27) = w2 at *
  clear hw1
  refine (H2.out _ HN1.out).mono ?_
  intro r w3 h3
  obtain ⟨A3, c3, rfl, hc3, hl3, hb3⟩ := res_ok h3
  have hbx3 := HBX.out.step hb3
  have hn3 := below_step HN1.out (Nat.le_refl _) hb3
  have hl3' : Lies w3 w3.heap.size 4 A3 2 (toksV 3 [⟨1, [97], (1, 1)⟩, ⟨2, [49, 50], (1, 3)⟩]) := hl3
  obtain ⟨b, o, rfl, hb, hcc⟩ := hl3'.2 (by omega)
  have e6 := hcc 6 (.int .i64 3) rfl
  have e7 := hcc 7 (.complex .f64 (fl 1) (fl 3)) rfl
  rw [fl_one, fl_3] at e7
  have c0 := hbx3.cell 0
  have c1 := hbx3.cell 1
  have c2 := hbx3.cell 2
  simp only [List.getElem?_toArray, List.getElem?_cons_zero, List.getElem?_cons_succ] at c0 c1 c2
  have g1 := hbx3.lt
  clear h3 hl3 hl3' hb3 hbx3 HBX hcc
  dsimp only [faultCells, List.length_cons, List.length_nil]
  go_wp2
  go_ret
  exact ⟨by simp, below_alloc hn3 (Nat.le_refl _) _⟩

theorem tok_at (file : Int) : ∀ (l : List TokV) (k : Nat) (t : TokV), l[k]? = some t →
    (toksV file l)[k * 4]? = some (.int .i64 t.kind) ∧ (toksV file l)[k * 4 + 1]? = some (.string (strOf t.text)) ∧ (toksV file l)[k * 4 + 2]? = some (.int .i64 file) ∧ (toksV file l)[k * 4 + 3]? = some (.complex .f64 (fl t.place.1) (fl t.place.2))
  | [], k, t, h => by simp at h
  | q :: l, 0, t, h => by
    obtain rfl : q = t := by simpa using h
    exact ⟨rfl, rfl, rfl, rfl⟩
  | q :: l, k + 1, t, h => by
    obtain ⟨h0, h1, h2, h3⟩ := tok_at file l k t (by simpa using h)
    have e : ∀ j, (toksV file (q :: l))[(k + 1) * 4 + j]? = (toksV file l)[k * 4 + j]? := fun j => by
      unfold toksV
      rw [List.flatMap_cons, List.getElem?_append_right (by simp [tokVals]; omega)]
      congr 1
      simp [tokVals]
      omega
    exact ⟨(e 0).trans h0, (e 1).trans h1, (e 2).trans h2, (e 3).trans h3⟩

set_option maxRecDepth 100000 in
set_option maxHeartbeats 2000000 in
/-- The same tokens, wherever they lie. -/
theorem sametoks_yes (file : Int) (l : List TokV) (A B : Option Addr) (c d : Nat) (w : World) (ha : Lies w w.heap.size 4 A l.length (toksV file l)) (hb : Lies w w.heap.size 4 B l.length (toksV file l)) (hle : l.length ≤ 4398046511104) :
    Calls Tryd.prog 10 #[.slice A l.length c, .slice B l.length d] w (Quietly (.bool true) w) := by
  have HA := Lib.hid ha
  have HB := Lib.hid hb
  obtain ⟨n, hn⟩ : ∃ n, n = l.length := ⟨_, rfl⟩
  rw [← hn] at HA HB hle ⊢
  have HN := Lib.hid hn
  clear ha hb hn
  go_enter Tryd.func10, Tryd.ntmps10
  go_wp2_with fail
  go_loopw [5] (fun i wr => ∃ k : Nat, k ≤ n ∧ i = .int .i64 k ∧ Below w.heap.size w wr) (fun i _ => n - (intOf i).toNat)
  case atStart => exact ⟨0, by omega, rfl, Below.refl _ _⟩
  case round =>
    obtain ⟨k, hk, rfl, hnx⟩ := hrel
    by_cases hlt : k < n
    · obtain ⟨t, ht⟩ : ∃ t, l[k]? = some t := ⟨_, List.getElem?_eq_getElem (by have := HN.out; omega)⟩
      obtain ⟨a0, a1, a2, a3⟩ := tok_at file l k t ht
      obtain ⟨b1, o1, rfl, hb1, hc1⟩ := HA.out.2 (by omega)
      obtain ⟨b2, o2, rfl, hb2, hc2⟩ := HB.out.2 (by omega)
      have e0 := (hnx.cell (p := ⟨b1, o1 + k * 4, none⟩) hb1).trans (hc1 _ _ a0)
      have e1 := (hnx.cell (p := ⟨b1, o1 + (k * 4 + 1), none⟩) hb1).trans (hc1 _ _ a1)
      have e2 := (hnx.cell (p := ⟨b1, o1 + (k * 4 + 2), none⟩) hb1).trans (hc1 _ _ a2)
      have e3 := (hnx.cell (p := ⟨b1, o1 + (k * 4 + 3), none⟩) hb1).trans (hc1 _ _ a3)
      have f0 := (hnx.cell (p := ⟨b2, o2 + k * 4, none⟩) hb2).trans (hc2 _ _ a0)
      have f1 := (hnx.cell (p := ⟨b2, o2 + (k * 4 + 1), none⟩) hb2).trans (hc2 _ _ a1)
      have f2 := (hnx.cell (p := ⟨b2, o2 + (k * 4 + 2), none⟩) hb2).trans (hc2 _ _ a2)
      have f3 := (hnx.cell (p := ⟨b2, o2 + (k * 4 + 3), none⟩) hb2).trans (hc2 _ _ a3)
      rw [← Nat.add_assoc] at e1 e2 e3 f1 f2 f3
      have hcx := fun W => eq_cx (fl t.place.1) (fl t.place.2) W (ord_fl _) (ord_fl _)
      clear a0 a1 a2 a3 hc1 hc2 ht
      go_wp2_with fail
      go_quiet (fail)
      go_wp2
      go_roundw
      case rel => exact ⟨k + 1, by omega, by go_num, below_drewN hnx _⟩
      case measure => simp [intOf]; omega
    · obtain rfl : k = n := by omega
      go_wp2
      go_ret
      exact ⟨rfl, hnx⟩

theorem splitL_len : ∀ (f : Nat) (p : Nat × Nat) (r : List UInt8) (l : List TokV), splitL f p r = .ok l → l.length ≤ f
  | 0, p, r, l, h => by
    have : [] = l := by injection h
    subst this
    exact Nat.le_refl _
  | f + 1, p, [], l, h => by
    have : [] = l := by injection h
    subst this
    exact Nat.zero_le _
  | f + 1, p, c :: t, l, h => by
    cases hs : skipL (c :: t) with
    | none => rw [split_far (by simp) hs] at h; cases h
    | some n =>
      by_cases hn : 0 < n
      · rw [split_skip (by simp) hs hn] at h
        have := splitL_len f _ _ l h
        omega
      · obtain rfl : n = 0 := by omega
        cases ho : oneL (c :: t) with
        | none => rw [split_bad (by simp) hs ho] at h; cases h
        | some v =>
          rw [split_tok (by simp) hs ho] at h
          cases hr : splitL f (posFrom p ((c :: t).take v.2.2)) ((c :: t).drop v.2.2) with
          | error e => rw [hr] at h; cases h
          | ok m =>
            rw [hr] at h
            have hm : (⟨v.1, v.2.1, p⟩ : TokV) :: m = l := by injection h
            subst hm
            have := splitL_len f _ _ m hr
            rw [List.length_cons]
            omega
theorem splitOf_len {s : List UInt8} {l : List TokV} (h : splitOf s = .ok l) : l.length ≤ 20000 := by
  unfold splitOf at h
  by_cases hl : 20000 < s.length
  · rw [if_pos hl] at h
    cases h
  · rw [if_neg hl] at h
    cases hs : splitL s.length (1, 1) s with
    | error e => rw [hs] at h; cases h
    | ok m =>
      rw [hs] at h
      have hm : m = l := by injection h
      subst hm
      have := splitL_len _ _ _ _ hs
      omega

set_option maxRecDepth 100000 in
set_option maxHeartbeats 4000000 in
theorem ttells_in {Y : World → Prop} (R : TokSays Y) (s : ByteArray) (file : Int) (w : World) (hY : Y w) (hs : s.size ≤ 3000) (f0 : -9223372036854775808 ≤ file) (f1 : file ≤ 9223372036854775807) :
    Calls Tryd.prog 3 #[.string s, .int .i64 file] w fun e w' => e = .returned (.bool true) ∧ Below w.heap.size w w' := by
  have H1 : Hid (∀ W : World, Below w.heap.size w W → Calls Tryd.prog 8 #[.string s, .int .i64 file] W (SplitRes file (splitOf s.data.toList) W)) := fun W hW => R.split s file W (R.keep _ _ hY hW) (by omega) f0 f1
  have H2 : Hid (∀ W : World, Calls Tryd.prog 9 #[.string s, .int .i64 file] W (SplitRes file (splitOf s.data.toList) W)) := fun W => split_any s file W
  have hst := store_cx
  have hsI : (s.size : Int) ≤ 3000 := by omega
  clear hs f0 f1
  cases hv : splitOf s.data.toList with
  | error ep =>
    obtain ⟨e, p⟩ := ep
    rw [hv] at H1 H2
    have hcx := fun W => eq_cx (fl p.1) (fl p.2) W (ord_fl _) (ord_fl _)
    have HST : Hid (∀ (A B : Option Addr) (c d : Nat) (W : World), Calls Tryd.prog 10 #[.slice A 0 c, .slice B 0 d] W (Quietly (.bool true) W)) := fun A B c d W => sametoks_yes file [] A B c d W (Lies.empty _ _ _ _) (Lies.empty _ _ _ _) (by decide)
    clear hv
    go_enter Tryd.func3, Tryd.ntmps3
    go_wp2_with fail
    refine (talive_any R _ hY).mono ?_
    rintro r w1 ⟨rfl, hb1⟩
    go_wp2_with fail
    refine (H1.out _ hb1).mono ?_
    intro r w2 h2
    obtain ⟨A2, c2, rfl, hb2⟩ := res_bad h2
    have hn2 := below_step hb1 (Nat.le_refl _) hb2
    have HBX := Lib.hid (Box.new w2 27 (faultCells e file (fl p.1) (fl p.2)))
    have HN2 := Lib.hid (below_alloc hn2 (Nat.le_refl _) (.cells (faultCells e file (fl p.1) (fl p.2)) 27))
    clear h2 hb1 hb2 hn2
    dsimp only [faultCells]
    unfold faultCells at HBX HN2
    go_wp2_with fail
    obtain ⟨g1, hg1⟩ : ∃ g1, g1 = w2.heap.size := ⟨_, rfl⟩
    generalize w2.alloc (.cells #[.int .i64 e, .int .i64 file, .complex .f64 (fl p.1) (fl p.2)] 27) = w3 at *
    rw [← hg1] at HBX ⊢
    clear hg1
    refine (H2.out _).mono ?_
    intro r w4 h4
    obtain ⟨A4, c4, rfl, hb4⟩ := res_bad h4
    have HN4 := Lib.hid (below_step HN2.out (Nat.le_refl _) hb4)
    have HBX4 := Lib.hid (HBX.out.step hb4)
    have HBY := Lib.hid (Box.new w4 27 (faultCells e file (fl p.1) (fl p.2)))
    have HBX5 := Lib.hid (HBX4.out.alloc (.cells (faultCells e file (fl p.1) (fl p.2)) 27))
    have HN5 := Lib.hid (below_alloc HN4.out (Nat.le_refl _) (.cells (faultCells e file (fl p.1) (fl p.2)) 27))
    clear h4 hb4 HBX HBX4 HN4 HN2
    dsimp only [faultCells]
    unfold faultCells at HBX5 HN5 HBY
    go_wp2_with fail
    obtain ⟨g2, hg2⟩ : ∃ g2, g2 = w4.heap.size := ⟨_, rfl⟩
    generalize w4.alloc (.cells #[.int .i64 e, .int .i64 file, .complex .f64 (fl p.1) (fl p.2)] 27) = w5 at *
    rw [← hg2] at HBY ⊢
    clear hg2
    refine (HST.out A2 A4 c2 c4 _).mono ?_
    rintro r w6 ⟨rfl, hb6⟩
    have hx := HBX5.out.step hb6
    have hy := HBY.out.step hb6
    have hn6 := below_step HN5.out (Nat.le_refl _) hb6
    have u0 := hx.cell 0
    have u1 := hx.cell 1
    have u2 := hx.cell 2
    have v0 := hy.cell 0
    have v1 := hy.cell 1
    have v2 := hy.cell 2
    simp only [List.getElem?_toArray, List.getElem?_cons_zero, List.getElem?_cons_succ] at u0 u1 u2 v0 v1 v2
    have ux := hx.lt
    have vx := hy.lt
    clear hx hy hb6
    go_wp2
    go_ret
    exact ⟨by simp, hn6⟩
  | ok l =>
    rw [hv] at H1 H2
    have hll := splitOf_len hv
    have hcx := fun W => eq_cx 0 0 W ord_0 ord_0
    clear hv
    go_enter Tryd.func3, Tryd.ntmps3
    go_wp2_with fail
    refine (talive_any R _ hY).mono ?_
    rintro r w1 ⟨rfl, hb1⟩
    go_wp2_with fail
    refine (H1.out _ hb1).mono ?_
    intro r w2 h2
    obtain ⟨A2, c2, rfl, hc2, hl2, hb2⟩ := res_ok h2
    have hn2 := below_step hb1 (Nat.le_refl _) hb2
    have HBX := Lib.hid (Box.new w2 27 (faultCells 0 0 0 0))
    have HN2 := Lib.hid (below_alloc hn2 (Nat.le_refl _) (.cells (faultCells 0 0 0 0) 27))
    have hl3 := (hl2.below ((Below.refl w2.heap.size w2).alloc (Nat.le_refl _) (.cells (faultCells 0 0 0 0) 27))).wider (B' := (w2.alloc (.cells (faultCells 0 0 0 0) 27)).heap.size) (by simp)
    have HL3 := Lib.hid hl3
    clear h2 hb1 hb2 hn2 hl2 hl3
    dsimp only [faultCells]
    unfold faultCells at HBX HN2 HL3
    go_wp2_with fail
    obtain ⟨g1, hg1⟩ : ∃ g1, g1 = w2.heap.size := ⟨_, rfl⟩
    generalize w2.alloc (.cells #[.int .i64 0, .int .i64 0, .complex .f64 0 0] 27) = w3 at *
    rw [← hg1] at HBX ⊢
    clear hg1
    refine (H2.out _).mono ?_
    intro r w4 h4
    obtain ⟨A4, c4, rfl, hc4, hl4, hb4⟩ := res_ok h4
    have HN4 := Lib.hid (below_step HN2.out (Nat.le_refl _) hb4)
    have HBX4 := Lib.hid (HBX.out.step hb4)
    have hbel : Below w4.heap.size w4 (w4.alloc (.cells (faultCells 0 0 0 0) 27)) := (Below.refl w4.heap.size w4).alloc (Nat.le_refl _) _
    have hla := (((HL3.out.below hb4).wider hb4.size).below hbel).wider hbel.size
    have hlb := (hl4.below hbel).wider hbel.size
    have HLA := Lib.hid hla
    have HLB := Lib.hid hlb
    have HBY := Lib.hid (Box.new w4 27 (faultCells 0 0 0 0))
    have HBX5 := Lib.hid (HBX4.out.alloc (.cells (faultCells 0 0 0 0) 27))
    have HN5 := Lib.hid (below_alloc HN4.out (Nat.le_refl _) (.cells (faultCells 0 0 0 0) 27))
    clear h4 hb4 HBX HBX4 HN4 HN2 HL3 hl4 hla hlb hbel
    dsimp only [faultCells]
    unfold faultCells at HBX5 HN5 HBY HLA HLB
    go_wp2_with fail
    obtain ⟨g2, hg2⟩ : ∃ g2, g2 = w4.heap.size := ⟨_, rfl⟩
    generalize w4.alloc (.cells #[.int .i64 0, .int .i64 0, .complex .f64 0 0] 27) = w5 at *
    rw [← hg2] at HBY ⊢
    clear hg2
    refine (sametoks_yes file l A2 A4 c2 c4 _ HLA.out HLB.out (by omega)).mono ?_
    rintro r w6 ⟨rfl, hb6⟩
    have hx := HBX5.out.step hb6
    have hy := HBY.out.step hb6
    have hn6 := below_step HN5.out (Nat.le_refl _) hb6
    have u0 := hx.cell 0
    have u1 := hx.cell 1
    have u2 := hx.cell 2
    have v0 := hy.cell 0
    have v1 := hy.cell 1
    have v2 := hy.cell 2
    simp only [List.getElem?_toArray, List.getElem?_cons_zero, List.getElem?_cons_succ] at u0 u1 u2 v0 v1 v2
    have ux := hx.lt
    have vx := hy.lt
    clear hx hy hb6
    go_wp2
    go_ret
    exact ⟨by simp, hn6⟩

set_option maxRecDepth 100000 in
theorem ttells_any {Y : World → Prop} (R : TokSays Y) (s : ByteArray) (file : Int) (w : World) (hY : Y w) (f0 : -9223372036854775808 ≤ file) (f1 : file ≤ 9223372036854775807) :
    Calls Tryd.prog 3 #[.string s, .int .i64 file] w fun e w' => e = .returned (.bool true) ∧ Below w.heap.size w w' := by
  by_cases h : s.size ≤ 3000
  · exact ttells_in R s file w hY h f0 f1
  · have hsI : (3000 : Int) < (s.size : Int) := by omega
    clear h f0 f1
    go_enter Tryd.func3, Tryd.ntmps3
    go_wp2_with fail
    refine (talive_any R _ hY).mono ?_
    rintro r w1 ⟨rfl, hb1⟩
    go_wp2
    go_ret
    exact ⟨rfl, hb1⟩

end Go.Proofs.YtgabeacpgmomhaaDoor
