/- What the landed token's first gives. No condition. -/
import Derived.Test.YtdjhpgpekomjeaaDoorPart8
import Derived.Test.YtdjhpgpekomjeaaDoorPart9
import Derived.Test.YtdjhpgpekomjeaaDoorPart10
namespace Go.Proofs.YtdjhpgpekomjeaaDoor
open Go.RowKit

/-! ### Plain -/
theorem skip_none {c : UInt8} {t : List UInt8} (h : blankB c = false) (h47 : ¬ c = 47) : skipL (c :: t) = some 0 := by
  have hb : ∀ d : UInt8, beginsL [47, d] (c :: t) = false := fun d => by
    cases hp : beginsL [47, d] (c :: t)
    · rfl
    · have := eq_of_beq hp
      cases t with
      | nil => simp at this
      | cons x r =>
        simp only [List.length_cons, List.length_nil, List.take_succ_cons, List.take_zero, List.cons.injEq] at this
        exact absurd this.1 h47
  exact skip_no h (hb 47) (hb 42)
theorem piece_blank {c : UInt8} {t : List UInt8} (h : blankB c = true) : pieceL (c :: t) = some (0, [], runLen blankB (c :: t)) := by
  unfold pieceL
  dsimp only
  rw [if_pos h]
theorem piece_one {c : UInt8} {t : List UInt8} (h : blankB c = false) (h47 : ¬ c = 47) : pieceL (c :: t) = oneL (c :: t) := by
  unfold pieceL
  dsimp only
  rw [if_neg (by rw [h]; decide), skip_none h h47]
  rfl
theorem piece_slash {c : UInt8} {t : List UInt8} (h : c = 47) : pieceL (c :: t) = remarkL (c :: t) := by
  subst h
  have hb : blankB 47 = false := by decide
  have ho : oneL (47 :: t) = none := by
    unfold oneL
    dsimp only
    rw [if_neg (by decide), if_neg (by decide), if_neg (by decide), if_neg (by decide)]
    refine if_pos ?_
    unfold signL
    have : twoSigns.contains ((47 :: t).take 2) = false := by
      cases t with
      | nil => rfl
      | cons x r => simp [twoSigns]
    rw [this]
    rfl
  unfold pieceL remarkL
  dsimp only
  rw [if_neg (by rw [hb]; decide)]
  cases h1 : beginsL [47, 47] (47 :: t)
  · cases h2 : beginsL [47, 42] (47 :: t)
    · rw [skip_no hb h1 h2, if_neg (by decide), if_neg (by decide)]
      exact ho
    · rw [skip_far hb h1 h2, if_neg (by decide), if_pos rfl]
      cases endOf ((47 :: t).drop 2) with
      | none => rfl
      | some n =>
        show (if 0 < n + 2 then _ else _) = _
        rw [if_pos (by omega)]
        rfl
  · rw [skip_line hb h1, if_pos rfl]
    have h3 : 0 < runLen (fun x => !(x == 10)) (47 :: t) := by
      rw [runLen, if_pos (by decide)]
      omega
    show (if 0 < runLen (fun x => !(x == 10)) (47 :: t) then _ else _) = _
    rw [if_pos h3]

theorem one_let {c : UInt8} {t : List UInt8} (h : letterB c = true) : oneL (c :: t) = some (1, (c :: t).take (runLen wordB (c :: t)), runLen wordB (c :: t)) := by
  unfold oneL
  dsimp only
  rw [if_pos h]
theorem one_dig {c : UInt8} {t : List UInt8} (h : letterB c = false) (h1 : digB c = true) : oneL (c :: t) = (numL (c :: t)).map fun v => ((2 : Int), (c :: t).take v.2, v.2) := by
  unfold oneL
  dsimp only
  rw [if_neg (by rw [h]; decide), if_pos h1]
theorem one_quote {c : UInt8} {t : List UInt8} (h : c = 34) : oneL (c :: t) = quotedL t := by
  subst h
  unfold oneL quotedL
  dsimp only
  rw [if_neg (by decide), if_neg (by decide), if_pos rfl]
  rfl
theorem one_hsh {c : UInt8} {t : List UInt8} (h : c = 35) : oneL (c :: t) = hashL (c :: t) := by
  subst h
  unfold oneL hashL
  dsimp only
  rw [if_neg (by decide), if_neg (by decide), if_neg (by decide), if_pos rfl]
theorem one_sig {c : UInt8} {t : List UInt8} (h : letterB c = false) (h1 : digB c = false) (h34 : ¬ c = 34) (h35 : ¬ c = 35) : oneL (c :: t) = (signIn (c :: t) signTab).map fun x => (3, x, x.length) := by
  unfold oneL
  dsimp only
  rw [if_neg (by rw [h]; decide), if_neg (by rw [h1]; decide), if_neg h34, if_neg h35, sign_is]
  by_cases h0 : signL (c :: t) = 0
  · rw [if_pos h0, if_pos h0]
    rfl
  · rw [if_neg h0, if_neg h0]
    have hl := sign_len (r := c :: t)
    simp only [Option.map_some]
    rw [List.length_take, Nat.min_eq_left hl]

/-- The same as one value. -/
def pieceV (t : Option (Int × List UInt8 × Nat)) : Value := match t with
  | none => .tuple #[.agg (pcCells 0 ⟨#[]⟩ 0), .bool false]
  | some v => .tuple #[.agg (pcCells v.1 (strOf v.2.1) (v.2.2 : Nat)), .bool true]
/-- What such a call hands back, part by part. -/
theorem PieceRes.parts {t : Option (Int × List UInt8 × Nat)} {w : World} {r : Ending} {w' : World} (h : PieceRes t w r w') :
    ∃ (k : Int) (x : ByteArray) (n : Int) (b : Bool), r = .returned (.tuple #[.agg #[.int .i64 k, .string x, .int .i64 n], .bool b]) ∧ Hid ((.tuple #[.agg #[.int .i64 k, .string x, .int .i64 n], .bool b] : Value) = pieceV t) ∧ Below w.heap.size w w' := by
  obtain ⟨h1, h2⟩ := h
  cases t with
  | none => exact ⟨0, ⟨#[]⟩, 0, false, h1, rfl, h2⟩
  | some v => exact ⟨v.1, strOf v.2.1, (v.2.2 : Nat), true, h1, rfl, h2⟩

/-! ### The walk -/
theorem run_blank (s : ByteArray) (hs : s.size ≤ 1000000) (w : World) : Calls Tryd.prog 32 #[.string s, .string ⟨#[32, 9, 10, 13]⟩] w (Quietly (.int .i64 (runLen blankB s.data.toList : Nat)) w) :=
  run_any s ⟨#[32, 9, 10, 13]⟩ blankB set_blank (by decide) (by decide) hs w

theorem at_blank (C : ByteArray) (c : UInt8) (hC : C = ⟨#[c]⟩) (w : World) : Calls Tryd.prog 31 #[.string ⟨#[32, 9, 10, 13]⟩, .string C] w fun e w' => e = .returned (.bool (blankB c)) ∧ w = w' := by
  have := contains_any ⟨#[32, 9, 10, 13]⟩ c w
  rw [hC, ← set_blank]
  exact this
theorem at_let (C : ByteArray) (c : UInt8) (hC : C = ⟨#[c]⟩) (w : World) : Calls Tryd.prog 31 #[.string ⟨#[97, 98, 99, 100, 101, 102, 103, 104, 105, 106, 107, 108, 109, 110, 111, 112, 113, 114, 115, 116, 117, 118, 119, 120, 121, 122, 65, 66, 67, 68, 69, 70, 71, 72, 73, 74, 75, 76, 77, 78, 79, 80, 81, 82, 83, 84, 85, 86, 87, 88, 89, 90, 95]⟩, .string C] w fun e w' => e = .returned (.bool (letterB c)) ∧ w = w' := by
  have := contains_any ⟨#[97, 98, 99, 100, 101, 102, 103, 104, 105, 106, 107, 108, 109, 110, 111, 112, 113, 114, 115, 116, 117, 118, 119, 120, 121, 122, 65, 66, 67, 68, 69, 70, 71, 72, 73, 74, 75, 76, 77, 78, 79, 80, 81, 82, 83, 84, 85, 86, 87, 88, 89, 90, 95]⟩ c w
  rw [hC, ← set_let]
  exact this
theorem at_dig (C : ByteArray) (c : UInt8) (hC : C = ⟨#[c]⟩) (w : World) : Calls Tryd.prog 31 #[.string ⟨#[48, 49, 50, 51, 52, 53, 54, 55, 56, 57]⟩, .string C] w fun e w' => e = .returned (.bool (digB c)) ∧ w = w' := by
  have := contains_any ⟨#[48, 49, 50, 51, 52, 53, 54, 55, 56, 57]⟩ c w
  rw [hC, ← set_dig]
  exact this
theorem is_byte (C : ByteArray) (c d : UInt8) (hC : C = ⟨#[c]⟩) : (C.toList == [d]) = decide (c = d) := by
  rw [Lib.toList_data, hC]
  show ([c] == [d]) = _
  simp [Bool.beq_eq_decide_eq]

set_option maxRecDepth 100000 in
set_option maxHeartbeats 4000000 in
theorem first_blank (s : ByteArray) (c : UInt8) (t : List UInt8) (ht : s.data.toList = c :: t) (hs : s.size ≤ 1000000) (w : World) (hb : blankB c = true) :
    Calls Tryd.prog 23 #[.string s] w (PieceRes (pieceL s.data.toList) w) := by
  have h1 : (1 : Int) ≤ (s.size : Int) := by
    have := congrArg List.length ht
    rw [← Lib.size_eq, List.length_cons] at this
    omega
  have hC : s.extract 0 1 = ⟨#[c]⟩ := by
    have e := ext_take s 1
    rw [ht] at e
    have e2 := strOf_of (s.extract 0 1)
    rw [e] at e2
    exact e2.symm
  have HCB : Hid (∀ W : World, Calls Tryd.prog 31 #[.string ⟨#[32, 9, 10, 13]⟩, .string (s.extract 0 1)] W fun e w' => e = .returned (.bool true) ∧ W = w') := fun W => by
    have := at_blank _ c hC W
    rwa [hb] at this
  have HR : Hid (∀ W : World, Calls Tryd.prog 32 #[.string s, .string ⟨#[32, 9, 10, 13]⟩] W (Quietly (.int .i64 (runLen blankB s.data.toList : Nat)) W)) := fun W => run_blank s hs W
  have HP : Hid (pieceL s.data.toList = some (0, [], runLen blankB s.data.toList)) := by
    unfold Hid
    rw [ht]
    exact piece_blank hb
  obtain ⟨hbx0, hn0⟩ := piece_start w
  have HBX := Lib.hid hbx0
  have HN0 := Lib.hid hn0
  clear hbx0 hn0
  clear ht hC
  go_enter Tryd.func23, Tryd.ntmps23
  go_wp2_with fail
  generalize hw0 : w.alloc (.cells #[.int .i64 0, .string ⟨#[]⟩, .int .i64 0] 67) = w0 at *
  clear hw0
  refine (HCB.out _).mono ?_
  rintro r w1 ⟨rfl, rfl⟩
  go_wp2_with fail
  refine (HR.out _).mono ?_
  rintro r w2 ⟨rfl, hb2⟩
  have HBX2 := Lib.hid (HBX.out.step hb2)
  have HN2 := Lib.hid (below_step HN0.out (Nat.le_refl _) hb2)
  obtain ⟨c0, c1, c2, f0, f1, f2, g0⟩ := box_cells HBX2.out
  clear hb2
  go_wp2_with fail
  exact bodyPost_ret (results_box_tmp rfl _ _ w.heap.size 67 _ rfl (box_trio HBX2.out) _ Tryd.underlying67 rfl pieceSize) rfl ⟨by rw [HP.out]; rfl, set3_below (Nat.le_refl _) HN2.out _ _ _⟩

set_option maxRecDepth 100000 in
set_option maxHeartbeats 4000000 in
theorem first_let (s : ByteArray) (c : UInt8) (t : List UInt8) (ht : s.data.toList = c :: t) (hs : s.size ≤ 1000000) (w : World) (hb : blankB c = false) (hl : letterB c = true) :
    Calls Tryd.prog 23 #[.string s] w (PieceRes (pieceL s.data.toList) w) := by
  have h1 : (1 : Int) ≤ (s.size : Int) := by
    have := congrArg List.length ht
    rw [← Lib.size_eq, List.length_cons] at this
    omega
  have hC : s.extract 0 1 = ⟨#[c]⟩ := by
    have e := ext_take s 1
    rw [ht] at e
    have e2 := strOf_of (s.extract 0 1)
    rw [e] at e2
    exact e2.symm
  have HCB : Hid (∀ W : World, Calls Tryd.prog 31 #[.string ⟨#[32, 9, 10, 13]⟩, .string (s.extract 0 1)] W fun e w' => e = .returned (.bool false) ∧ W = w') := fun W => by
    have := at_blank _ c hC W
    rwa [hb] at this
  have HCL : Hid (∀ W : World, Calls Tryd.prog 31 #[.string ⟨#[97, 98, 99, 100, 101, 102, 103, 104, 105, 106, 107, 108, 109, 110, 111, 112, 113, 114, 115, 116, 117, 118, 119, 120, 121, 122, 65, 66, 67, 68, 69, 70, 71, 72, 73, 74, 75, 76, 77, 78, 79, 80, 81, 82, 83, 84, 85, 86, 87, 88, 89, 90, 95]⟩, .string (s.extract 0 1)] W fun e w' => e = .returned (.bool true) ∧ W = w') := fun W => by
    have := at_let _ c hC W
    rwa [hl] at this
  have hlen : s.data.toList.length = s.size := (Lib.size_eq s).symm
  have hle := run_le wordB s.data.toList
  rw [hlen] at hle
  have HP0 : Hid (pieceL s.data.toList = some (1, s.data.toList.take (runLen wordB s.data.toList), runLen wordB s.data.toList)) := by
    unfold Hid
    rw [ht, piece_one hb (fun e => by rw [e] at hl; revert hl; decide)]
    exact one_let hl
  have HR0 : Hid (∀ W : World, Calls Tryd.prog 32 #[.string s, .string ⟨#[97, 98, 99, 100, 101, 102, 103, 104, 105, 106, 107, 108, 109, 110, 111, 112, 113, 114, 115, 116, 117, 118, 119, 120, 121, 122, 65, 66, 67, 68, 69, 70, 71, 72, 73, 74, 75, 76, 77, 78, 79, 80, 81, 82, 83, 84, 85, 86, 87, 88, 89, 90, 95, 48, 49, 50, 51, 52, 53, 54, 55, 56, 57]⟩] W (Quietly (.int .i64 (runLen wordB s.data.toList : Nat)) W)) := fun W => run_word s hs W
  obtain ⟨n, hn⟩ : ∃ n, n = runLen wordB s.data.toList := ⟨_, rfl⟩
  rw [← hn] at HP0 HR0 hle
  have HP := HP0
  have HR := HR0
  have hleI : (n : Int) ≤ (s.size : Int) := by omega
  have HWH := Lib.hid fun W => whole_any 1 (s.extract 0 n) W
  have HXT : Hid (s.extract 0 n = strOf (s.data.toList.take n)) := take_str s 0 n
  have HXM : Hid (min n s.size = n) := by unfold Hid; omega
  clear HP0 HR0 hn hlen
  obtain ⟨hbx0, hn0⟩ := piece_start w
  have HBX := Lib.hid hbx0
  have HN0 := Lib.hid hn0
  clear hbx0 hn0
  clear ht hC
  go_enter Tryd.func23, Tryd.ntmps23
  go_wp2_with fail
  generalize hw0 : w.alloc (.cells #[.int .i64 0, .string ⟨#[]⟩, .int .i64 0] 67) = w0 at *
  clear hw0
  refine (HCB.out _).mono ?_
  rintro r w1 ⟨rfl, rfl⟩
  go_wp2_with fail
  refine (HCL.out _).mono ?_
  rintro r w1 ⟨rfl, rfl⟩
  go_wp2_with fail
  refine (HR.out _).mono ?_
  rintro r w2 ⟨rfl, hb2⟩
  have HBX2 := Lib.hid (HBX.out.step hb2)
  have HN2 := Lib.hid (below_step HN0.out (Nat.le_refl _) hb2)
  clear hb2
  go_wp2_with fail
  refine (HWH.out _).mono ?_
  rintro r w3 ⟨rfl, hb3⟩
  have HBX3 := Lib.hid (HBX2.out.step hb3)
  have HN3 := Lib.hid (below_step HN2.out (Nat.le_refl _) hb3)
  obtain ⟨c0, c1, c2, f0, f1, f2, g0⟩ := box_cells HBX3.out
  clear hb3
  unfold pcCells
  go_wp2_with fail
  exact bodyPost_ret (results_box_tmp rfl _ _ w.heap.size 67 _ rfl (box_trio HBX3.out) _ Tryd.underlying67 rfl pieceSize) rfl ⟨by rw [HP.out]; dsimp only [pcCells]; rw [← HXT.out]; first | rfl | (simp only [HXM.out]; rfl), set3_below (Nat.le_refl _) HN3.out _ _ _⟩

set_option maxRecDepth 100000 in
set_option maxHeartbeats 4000000 in
theorem first_dig (s : ByteArray) (c : UInt8) (t : List UInt8) (ht : s.data.toList = c :: t) (hs : s.size ≤ 1000000) (w : World) (hL : Laid w) (hb : blankB c = false) (hl : letterB c = false) (hd : digB c = true) :
    Calls Tryd.prog 23 #[.string s] w (PieceRes (pieceL s.data.toList) w) := by
  have h1 : (1 : Int) ≤ (s.size : Int) := by
    have := congrArg List.length ht
    rw [← Lib.size_eq, List.length_cons] at this
    omega
  have hC : s.extract 0 1 = ⟨#[c]⟩ := by
    have e := ext_take s 1
    rw [ht] at e
    have e2 := strOf_of (s.extract 0 1)
    rw [e] at e2
    exact e2.symm
  have HCB : Hid (∀ W : World, Calls Tryd.prog 31 #[.string ⟨#[32, 9, 10, 13]⟩, .string (s.extract 0 1)] W fun e w' => e = .returned (.bool false) ∧ W = w') := fun W => by
    have := at_blank _ c hC W
    rwa [hb] at this
  have HCL : Hid (∀ W : World, Calls Tryd.prog 31 #[.string ⟨#[97, 98, 99, 100, 101, 102, 103, 104, 105, 106, 107, 108, 109, 110, 111, 112, 113, 114, 115, 116, 117, 118, 119, 120, 121, 122, 65, 66, 67, 68, 69, 70, 71, 72, 73, 74, 75, 76, 77, 78, 79, 80, 81, 82, 83, 84, 85, 86, 87, 88, 89, 90, 95]⟩, .string (s.extract 0 1)] W fun e w' => e = .returned (.bool false) ∧ W = w') := fun W => by
    have := at_let _ c hC W
    rwa [hl] at this
  have HCD : Hid (∀ W : World, Calls Tryd.prog 31 #[.string ⟨#[48, 49, 50, 51, 52, 53, 54, 55, 56, 57]⟩, .string (s.extract 0 1)] W fun e w' => e = .returned (.bool true) ∧ W = w') := fun W => by
    have := at_dig _ c hC W
    rwa [hd] at this
  have HP : Hid (pieceL s.data.toList = (numL s.data.toList).map fun v => ((2 : Int), s.data.toList.take v.2, v.2)) := by
    unfold Hid
    rw [ht, piece_one hb (fun e => by rw [e] at hd; revert hd; decide)]
    exact one_dig hl hd
  have HF : Hid (∀ W : World, Below w.heap.size w W → Calls Tryd.prog 34 #[.string s] W (PieceRes ((numL s.data.toList).map fun v => ((2 : Int), s.data.toList.take v.2, v.2)) W)) := fun W hW => number_any s hs W (hL.below hW)
  obtain ⟨hbx0, hn0⟩ := piece_start w
  have HBX := Lib.hid hbx0
  have HN0 := Lib.hid hn0
  clear hbx0 hn0
  clear hL ht hC
  go_enter Tryd.func23, Tryd.ntmps23
  go_wp2_with fail
  generalize hw0 : w.alloc (.cells #[.int .i64 0, .string ⟨#[]⟩, .int .i64 0] 67) = w0 at *
  clear hw0
  refine (HCB.out _).mono ?_
  rintro r w1 ⟨rfl, rfl⟩
  go_wp2_with fail
  refine (HCL.out _).mono ?_
  rintro r w1 ⟨rfl, rfl⟩
  go_wp2_with fail
  refine (HCD.out _).mono ?_
  rintro r w1 ⟨rfl, rfl⟩
  go_wp2_with fail
  refine (HF.out _ HN0.out).mono ?_
  intro r w2 hr
  obtain ⟨k, x, n, b, rfl, HE, hb2⟩ := hr.parts
  have HBX2 := Lib.hid (HBX.out.step hb2)
  have HN2 := Lib.hid (below_step HN0.out (Nat.le_refl _) hb2)
  obtain ⟨c0, c1, c2, f0, f1, f2, g0⟩ := box_cells HBX2.out
  clear hb2 hr
  go_wp2_with fail
  exact bodyPost_ret (results_box_tmp rfl _ _ w.heap.size 67 _ rfl (box_trio HBX2.out) _ Tryd.underlying67 rfl pieceSize) rfl ⟨by rw [HP.out]; exact congrArg Ending.returned HE.out, set3_below (Nat.le_refl _) HN2.out _ _ _⟩

set_option maxRecDepth 100000 in
set_option maxHeartbeats 4000000 in
theorem first_slash (s : ByteArray) (c : UInt8) (t : List UInt8) (ht : s.data.toList = c :: t) (hs : s.size ≤ 1000000) (w : World) (hL : Laid w) (hb : blankB c = false) (hl : letterB c = false) (hd : digB c = false) (hq : c = 47) :
    Calls Tryd.prog 23 #[.string s] w (PieceRes (pieceL s.data.toList) w) := by
  have h1 : (1 : Int) ≤ (s.size : Int) := by
    have := congrArg List.length ht
    rw [← Lib.size_eq, List.length_cons] at this
    omega
  have hC : s.extract 0 1 = ⟨#[c]⟩ := by
    have e := ext_take s 1
    rw [ht] at e
    have e2 := strOf_of (s.extract 0 1)
    rw [e] at e2
    exact e2.symm
  have HCB : Hid (∀ W : World, Calls Tryd.prog 31 #[.string ⟨#[32, 9, 10, 13]⟩, .string (s.extract 0 1)] W fun e w' => e = .returned (.bool false) ∧ W = w') := fun W => by
    have := at_blank _ c hC W
    rwa [hb] at this
  have HCL : Hid (∀ W : World, Calls Tryd.prog 31 #[.string ⟨#[97, 98, 99, 100, 101, 102, 103, 104, 105, 106, 107, 108, 109, 110, 111, 112, 113, 114, 115, 116, 117, 118, 119, 120, 121, 122, 65, 66, 67, 68, 69, 70, 71, 72, 73, 74, 75, 76, 77, 78, 79, 80, 81, 82, 83, 84, 85, 86, 87, 88, 89, 90, 95]⟩, .string (s.extract 0 1)] W fun e w' => e = .returned (.bool false) ∧ W = w') := fun W => by
    have := at_let _ c hC W
    rwa [hl] at this
  have HCD : Hid (∀ W : World, Calls Tryd.prog 31 #[.string ⟨#[48, 49, 50, 51, 52, 53, 54, 55, 56, 57]⟩, .string (s.extract 0 1)] W fun e w' => e = .returned (.bool false) ∧ W = w') := fun W => by
    have := at_dig _ c hC W
    rwa [hd] at this
  have q47 : ((s.extract 0 1).toList == [47]) = true := by rw [is_byte _ c 47 hC]; exact decide_eq_true hq
  have HP : Hid (pieceL s.data.toList = remarkL s.data.toList) := by
    unfold Hid
    rw [ht]
    exact piece_slash hq
  have HF : Hid (∀ W : World, Below w.heap.size w W → Calls Tryd.prog 35 #[.string s] W (PieceRes (remarkL s.data.toList) W)) := fun W hW => remark_any s hs W (hL.below hW)
  obtain ⟨hbx0, hn0⟩ := piece_start w
  have HBX := Lib.hid hbx0
  have HN0 := Lib.hid hn0
  clear hbx0 hn0
  clear hL ht hC
  go_enter Tryd.func23, Tryd.ntmps23
  go_wp2_with fail
  generalize hw0 : w.alloc (.cells #[.int .i64 0, .string ⟨#[]⟩, .int .i64 0] 67) = w0 at *
  clear hw0
  refine (HCB.out _).mono ?_
  rintro r w1 ⟨rfl, rfl⟩
  go_wp2_with fail
  refine (HCL.out _).mono ?_
  rintro r w1 ⟨rfl, rfl⟩
  go_wp2_with fail
  refine (HCD.out _).mono ?_
  rintro r w1 ⟨rfl, rfl⟩
  go_wp2_with fail
  refine (HF.out _ HN0.out).mono ?_
  intro r w2 hr
  obtain ⟨k, x, n, b, rfl, HE, hb2⟩ := hr.parts
  have HBX2 := Lib.hid (HBX.out.step hb2)
  have HN2 := Lib.hid (below_step HN0.out (Nat.le_refl _) hb2)
  obtain ⟨c0, c1, c2, f0, f1, f2, g0⟩ := box_cells HBX2.out
  clear hb2 hr
  go_wp2_with fail
  exact bodyPost_ret (results_box_tmp rfl _ _ w.heap.size 67 _ rfl (box_trio HBX2.out) _ Tryd.underlying67 rfl pieceSize) rfl ⟨by rw [HP.out]; exact congrArg Ending.returned HE.out, set3_below (Nat.le_refl _) HN2.out _ _ _⟩

set_option maxRecDepth 100000 in
set_option maxHeartbeats 4000000 in
theorem first_quote (s : ByteArray) (c : UInt8) (t : List UInt8) (ht : s.data.toList = c :: t) (hs : s.size ≤ 1000000) (w : World) (hb : blankB c = false) (hl : letterB c = false) (hd : digB c = false) (h47 : ¬ c = 47) (hq : c = 34) :
    Calls Tryd.prog 23 #[.string s] w (PieceRes (pieceL s.data.toList) w) := by
  have h1 : (1 : Int) ≤ (s.size : Int) := by
    have := congrArg List.length ht
    rw [← Lib.size_eq, List.length_cons] at this
    omega
  have hC : s.extract 0 1 = ⟨#[c]⟩ := by
    have e := ext_take s 1
    rw [ht] at e
    have e2 := strOf_of (s.extract 0 1)
    rw [e] at e2
    exact e2.symm
  have HCB : Hid (∀ W : World, Calls Tryd.prog 31 #[.string ⟨#[32, 9, 10, 13]⟩, .string (s.extract 0 1)] W fun e w' => e = .returned (.bool false) ∧ W = w') := fun W => by
    have := at_blank _ c hC W
    rwa [hb] at this
  have HCL : Hid (∀ W : World, Calls Tryd.prog 31 #[.string ⟨#[97, 98, 99, 100, 101, 102, 103, 104, 105, 106, 107, 108, 109, 110, 111, 112, 113, 114, 115, 116, 117, 118, 119, 120, 121, 122, 65, 66, 67, 68, 69, 70, 71, 72, 73, 74, 75, 76, 77, 78, 79, 80, 81, 82, 83, 84, 85, 86, 87, 88, 89, 90, 95]⟩, .string (s.extract 0 1)] W fun e w' => e = .returned (.bool false) ∧ W = w') := fun W => by
    have := at_let _ c hC W
    rwa [hl] at this
  have HCD : Hid (∀ W : World, Calls Tryd.prog 31 #[.string ⟨#[48, 49, 50, 51, 52, 53, 54, 55, 56, 57]⟩, .string (s.extract 0 1)] W fun e w' => e = .returned (.bool false) ∧ W = w') := fun W => by
    have := at_dig _ c hC W
    rwa [hd] at this
  have q47 : ((s.extract 0 1).toList == [47]) = false := by rw [is_byte _ c 47 hC]; exact decide_eq_false h47
  have q34 : ((s.extract 0 1).toList == [34]) = true := by rw [is_byte _ c 34 hC]; exact decide_eq_true hq
  have HP : Hid (pieceL s.data.toList = quotedL (s.data.toList.drop 1)) := by
    unfold Hid
    rw [ht, piece_one hb h47]
    exact one_quote hq
  have HF : Hid (∀ W : World, Below w.heap.size w W → Calls Tryd.prog 36 #[.string s] W (PieceRes (quotedL (s.data.toList.drop 1)) W)) := fun W _ => quoted_any s (by omega) hs W
  obtain ⟨hbx0, hn0⟩ := piece_start w
  have HBX := Lib.hid hbx0
  have HN0 := Lib.hid hn0
  clear hbx0 hn0
  clear ht hC
  go_enter Tryd.func23, Tryd.ntmps23
  go_wp2_with fail
  generalize hw0 : w.alloc (.cells #[.int .i64 0, .string ⟨#[]⟩, .int .i64 0] 67) = w0 at *
  clear hw0
  refine (HCB.out _).mono ?_
  rintro r w1 ⟨rfl, rfl⟩
  go_wp2_with fail
  refine (HCL.out _).mono ?_
  rintro r w1 ⟨rfl, rfl⟩
  go_wp2_with fail
  refine (HCD.out _).mono ?_
  rintro r w1 ⟨rfl, rfl⟩
  go_wp2_with fail
  refine (HF.out _ HN0.out).mono ?_
  intro r w2 hr
  obtain ⟨k, x, n, b, rfl, HE, hb2⟩ := hr.parts
  have HBX2 := Lib.hid (HBX.out.step hb2)
  have HN2 := Lib.hid (below_step HN0.out (Nat.le_refl _) hb2)
  obtain ⟨c0, c1, c2, f0, f1, f2, g0⟩ := box_cells HBX2.out
  clear hb2 hr
  go_wp2_with fail
  exact bodyPost_ret (results_box_tmp rfl _ _ w.heap.size 67 _ rfl (box_trio HBX2.out) _ Tryd.underlying67 rfl pieceSize) rfl ⟨by rw [HP.out]; exact congrArg Ending.returned HE.out, set3_below (Nat.le_refl _) HN2.out _ _ _⟩

set_option maxRecDepth 100000 in
set_option maxHeartbeats 4000000 in
theorem first_hash (s : ByteArray) (c : UInt8) (t : List UInt8) (ht : s.data.toList = c :: t) (hs : s.size ≤ 1000000) (w : World) (hb : blankB c = false) (hl : letterB c = false) (hd : digB c = false) (h47 : ¬ c = 47) (h34 : ¬ c = 34) (hq : c = 35) :
    Calls Tryd.prog 23 #[.string s] w (PieceRes (pieceL s.data.toList) w) := by
  have h1 : (1 : Int) ≤ (s.size : Int) := by
    have := congrArg List.length ht
    rw [← Lib.size_eq, List.length_cons] at this
    omega
  have hC : s.extract 0 1 = ⟨#[c]⟩ := by
    have e := ext_take s 1
    rw [ht] at e
    have e2 := strOf_of (s.extract 0 1)
    rw [e] at e2
    exact e2.symm
  have HCB : Hid (∀ W : World, Calls Tryd.prog 31 #[.string ⟨#[32, 9, 10, 13]⟩, .string (s.extract 0 1)] W fun e w' => e = .returned (.bool false) ∧ W = w') := fun W => by
    have := at_blank _ c hC W
    rwa [hb] at this
  have HCL : Hid (∀ W : World, Calls Tryd.prog 31 #[.string ⟨#[97, 98, 99, 100, 101, 102, 103, 104, 105, 106, 107, 108, 109, 110, 111, 112, 113, 114, 115, 116, 117, 118, 119, 120, 121, 122, 65, 66, 67, 68, 69, 70, 71, 72, 73, 74, 75, 76, 77, 78, 79, 80, 81, 82, 83, 84, 85, 86, 87, 88, 89, 90, 95]⟩, .string (s.extract 0 1)] W fun e w' => e = .returned (.bool false) ∧ W = w') := fun W => by
    have := at_let _ c hC W
    rwa [hl] at this
  have HCD : Hid (∀ W : World, Calls Tryd.prog 31 #[.string ⟨#[48, 49, 50, 51, 52, 53, 54, 55, 56, 57]⟩, .string (s.extract 0 1)] W fun e w' => e = .returned (.bool false) ∧ W = w') := fun W => by
    have := at_dig _ c hC W
    rwa [hd] at this
  have q47 : ((s.extract 0 1).toList == [47]) = false := by rw [is_byte _ c 47 hC]; exact decide_eq_false h47
  have q34 : ((s.extract 0 1).toList == [34]) = false := by rw [is_byte _ c 34 hC]; exact decide_eq_false h34
  have q35 : ((s.extract 0 1).toList == [35]) = true := by rw [is_byte _ c 35 hC]; exact decide_eq_true hq
  have HP : Hid (pieceL s.data.toList = hashL s.data.toList) := by
    unfold Hid
    rw [ht, piece_one hb h47]
    exact one_hsh hq
  have HF : Hid (∀ W : World, Below w.heap.size w W → Calls Tryd.prog 37 #[.string s] W (PieceRes (hashL s.data.toList) W)) := fun W _ => hash_any s t (by rw [ht, hq]) hs W
  obtain ⟨hbx0, hn0⟩ := piece_start w
  have HBX := Lib.hid hbx0
  have HN0 := Lib.hid hn0
  clear hbx0 hn0
  clear ht hC
  go_enter Tryd.func23, Tryd.ntmps23
  go_wp2_with fail
  generalize hw0 : w.alloc (.cells #[.int .i64 0, .string ⟨#[]⟩, .int .i64 0] 67) = w0 at *
  clear hw0
  refine (HCB.out _).mono ?_
  rintro r w1 ⟨rfl, rfl⟩
  go_wp2_with fail
  refine (HCL.out _).mono ?_
  rintro r w1 ⟨rfl, rfl⟩
  go_wp2_with fail
  refine (HCD.out _).mono ?_
  rintro r w1 ⟨rfl, rfl⟩
  go_wp2_with fail
  refine (HF.out _ HN0.out).mono ?_
  intro r w2 hr
  obtain ⟨k, x, n, b, rfl, HE, hb2⟩ := hr.parts
  have HBX2 := Lib.hid (HBX.out.step hb2)
  have HN2 := Lib.hid (below_step HN0.out (Nat.le_refl _) hb2)
  obtain ⟨c0, c1, c2, f0, f1, f2, g0⟩ := box_cells HBX2.out
  clear hb2 hr
  go_wp2_with fail
  exact bodyPost_ret (results_box_tmp rfl _ _ w.heap.size 67 _ rfl (box_trio HBX2.out) _ Tryd.underlying67 rfl pieceSize) rfl ⟨by rw [HP.out]; exact congrArg Ending.returned HE.out, set3_below (Nat.le_refl _) HN2.out _ _ _⟩

set_option maxRecDepth 100000 in
set_option maxHeartbeats 4000000 in
theorem first_sign (s : ByteArray) (c : UInt8) (t : List UInt8) (ht : s.data.toList = c :: t) (hs : s.size ≤ 1000000) (w : World) (hb : blankB c = false) (hl : letterB c = false) (hd : digB c = false) (h47 : ¬ c = 47) (h34 : ¬ c = 34) (h35 : ¬ c = 35) :
    Calls Tryd.prog 23 #[.string s] w (PieceRes (pieceL s.data.toList) w) := by
  have h1 : (1 : Int) ≤ (s.size : Int) := by
    have := congrArg List.length ht
    rw [← Lib.size_eq, List.length_cons] at this
    omega
  have hC : s.extract 0 1 = ⟨#[c]⟩ := by
    have e := ext_take s 1
    rw [ht] at e
    have e2 := strOf_of (s.extract 0 1)
    rw [e] at e2
    exact e2.symm
  have HCB : Hid (∀ W : World, Calls Tryd.prog 31 #[.string ⟨#[32, 9, 10, 13]⟩, .string (s.extract 0 1)] W fun e w' => e = .returned (.bool false) ∧ W = w') := fun W => by
    have := at_blank _ c hC W
    rwa [hb] at this
  have HCL : Hid (∀ W : World, Calls Tryd.prog 31 #[.string ⟨#[97, 98, 99, 100, 101, 102, 103, 104, 105, 106, 107, 108, 109, 110, 111, 112, 113, 114, 115, 116, 117, 118, 119, 120, 121, 122, 65, 66, 67, 68, 69, 70, 71, 72, 73, 74, 75, 76, 77, 78, 79, 80, 81, 82, 83, 84, 85, 86, 87, 88, 89, 90, 95]⟩, .string (s.extract 0 1)] W fun e w' => e = .returned (.bool false) ∧ W = w') := fun W => by
    have := at_let _ c hC W
    rwa [hl] at this
  have HCD : Hid (∀ W : World, Calls Tryd.prog 31 #[.string ⟨#[48, 49, 50, 51, 52, 53, 54, 55, 56, 57]⟩, .string (s.extract 0 1)] W fun e w' => e = .returned (.bool false) ∧ W = w') := fun W => by
    have := at_dig _ c hC W
    rwa [hd] at this
  have q47 : ((s.extract 0 1).toList == [47]) = false := by rw [is_byte _ c 47 hC]; exact decide_eq_false h47
  have q34 : ((s.extract 0 1).toList == [34]) = false := by rw [is_byte _ c 34 hC]; exact decide_eq_false h34
  have q35 : ((s.extract 0 1).toList == [35]) = false := by rw [is_byte _ c 35 hC]; exact decide_eq_false h35
  have HP : Hid (pieceL s.data.toList = (signIn s.data.toList signTab).map fun x => (3, x, x.length)) := by
    unfold Hid
    rw [ht, piece_one hb h47]
    exact one_sig hl hd h34 h35
  have HF : Hid (∀ W : World, Below w.heap.size w W → Calls Tryd.prog 38 #[.string s] W (PieceRes ((signIn s.data.toList signTab).map fun x => (3, x, x.length)) W)) := fun W _ => sgn_any s W
  obtain ⟨hbx0, hn0⟩ := piece_start w
  have HBX := Lib.hid hbx0
  have HN0 := Lib.hid hn0
  clear hbx0 hn0
  clear ht hC
  go_enter Tryd.func23, Tryd.ntmps23
  go_wp2_with fail
  generalize hw0 : w.alloc (.cells #[.int .i64 0, .string ⟨#[]⟩, .int .i64 0] 67) = w0 at *
  clear hw0
  refine (HCB.out _).mono ?_
  rintro r w1 ⟨rfl, rfl⟩
  go_wp2_with fail
  refine (HCL.out _).mono ?_
  rintro r w1 ⟨rfl, rfl⟩
  go_wp2_with fail
  refine (HCD.out _).mono ?_
  rintro r w1 ⟨rfl, rfl⟩
  go_wp2_with fail
  refine (HF.out _ HN0.out).mono ?_
  intro r w2 hr
  obtain ⟨k, x, n, b, rfl, HE, hb2⟩ := hr.parts
  have HBX2 := Lib.hid (HBX.out.step hb2)
  have HN2 := Lib.hid (below_step HN0.out (Nat.le_refl _) hb2)
  obtain ⟨c0, c1, c2, f0, f1, f2, g0⟩ := box_cells HBX2.out
  clear hb2 hr
  go_wp2_with fail
  exact bodyPost_ret (results_box_tmp rfl _ _ w.heap.size 67 _ rfl (box_trio HBX2.out) _ Tryd.underlying67 rfl pieceSize) rfl ⟨by rw [HP.out]; exact congrArg Ending.returned HE.out, set3_below (Nat.le_refl _) HN2.out _ _ _⟩

theorem first_any (s : ByteArray) (h0 : ¬ s.size = 0) (hs : s.size ≤ 1000000) (w : World) (hL : Laid w) :
    Calls Tryd.prog 23 #[.string s] w (PieceRes (pieceL s.data.toList) w) := by
  obtain ⟨c, t, ht⟩ : ∃ c t, s.data.toList = c :: t := by
    cases h : s.data.toList with
    | nil => exact absurd (by rw [Lib.size_eq, h]; rfl) h0
    | cons c t => exact ⟨c, t, rfl⟩
  cases hb : blankB c
  · cases hl : letterB c
    · cases hd : digB c
      · by_cases h47 : c = 47
        · exact first_slash s c t ht hs w hL hb hl hd h47
        · by_cases h34 : c = 34
          · exact first_quote s c t ht hs w hb hl hd h47 h34
          · by_cases h35 : c = 35
            · exact first_hash s c t ht hs w hb hl hd h47 h34 h35
            · exact first_sign s c t ht hs w hb hl hd h47 h34 h35
      · exact first_dig s c t ht hs w hL hb hl hd
    · exact first_let s c t ht hs w hb hl
  · exact first_blank s c t ht hs w hb

end Go.Proofs.YtdjhpgpekomjeaaDoor
