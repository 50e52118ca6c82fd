/- What the document's own one gives: the token that begins at a place. -/
import Derived.Test.YtfklajkmikanbaaGreatDoorTokNum
import Derived.Test.YtfklajkmikanbaaGreatDoorTokSkip
import Derived.Test.YtfklajkmikanbaaGreatDoorTokSign
import Derived.Test.YtfklajkmikanbaaGreatDoorPart5
namespace Go.Proofs.YtfklajkmikanbaaGreatDoor
open Go.RowKit

def tokCells (k : Int) (x : ByteArray) (f : Int) (re im : Nat) : Array Value := #[.int .i64 k, .string x, .int .i64 f, .complex .f64 re im]
/-- What a function that hands back a token, a place and a bool gives. -/
def TokAt (t : Option (Int × List UInt8 × Nat)) (at0 : Nat) (w : World) : Ending → World → Prop := fun r w' => r = .returned (match t with
  | none => .tuple #[.agg (tokCells 0 ⟨#[]⟩ 0 0 0), .int .i64 0, .bool false]
  | some v => .tuple #[.agg (tokCells v.1 (strOf v.2.1) 0 0 0), .int .i64 ((at0 + v.2.2 : Nat) : Int), .bool true]) ∧ Below w.heap.size w w'

theorem store_cx (re im : Nat) (a : Addr) (W : World) (m : Mode) : (store a (.complex .f64 re im) m).run Tryz.prog W = stored Tryz.prog W a (.complex .f64 re im) m := run_store _ W a _ m rfl

theorem tokSize : (Tryz.prog.info? 62).map (·.size) = some 4 := by kernel_rfl

/-- The end of each way: the token is stored, then all comes back. -/
theorem one_end (w w' : World) (hb : Below w.heap.size w w') (g : Nat) (hg : g = w.heap.size) (t : Option (Int × List UInt8 × Nat)) (at0 : Nat) (k : Int) (x : ByteArray) (e : Int) (b : Bool)
    (h : (match t with
      | none => Value.tuple #[.agg (tokCells 0 ⟨#[]⟩ 0 0 0), .int .i64 0, .bool false]
      | some v => .tuple #[.agg (tokCells v.1 (strOf v.2.1) 0 0 0), .int .i64 ((at0 + v.2.2 : Nat) : Int), .bool true]) = .tuple #[.agg #[.int .i64 k, .string x, .int .i64 0, .complex .f64 0 0], .int .i64 e, .bool b]) :
    TokAt t at0 w (.returned (.tuple #[.agg #[.int .i64 k, .string x, .int .i64 0, .complex .f64 0 0], .int .i64 e, .bool b])) ((((w'.setCell ⟨g, 0, none⟩ (.int .i64 k)).setCell ⟨g, 1, none⟩ (.string x)).setCell ⟨g, 2, none⟩ (.int .i64 0)).setCell ⟨g, 3, none⟩ (.complex .f64 0 0)) := by
  subst hg
  refine ⟨by rw [h], ?_⟩
  iterate 4 (with_reducible refine below_set (Nat.le_refl _) ?_)
  exact hb

set_option maxRecDepth 100000 in
set_option maxHeartbeats 8000000 in
theorem one_word (s : ByteArray) (i : Nat) (w : World) (hi : i < s.size) (hs : s.size ≤ 1099511627776) (hl : letterB (s[i]'hi) = true) :
    Calls Tryz.prog 16 #[.string s, .int .i64 i] w (TokAt (oneL (s.data.toList.drop i)) i w) := by
  have HLE : Hid (∀ (c : UInt8) (W : World), Calls Tryz.prog 22 #[.int .u8 (c.toNat : Int)] W (Plainly (.bool (letterB c)) W)) := letter_any
  have HDI : Hid (∀ (c : UInt8) (W : World), Calls Tryz.prog 23 #[.int .u8 (c.toNat : Int)] W (Plainly (.bool (digB c)) W)) := digit_any
  have hd := drop_at s i hi
  have b0 := byte_lt (s[i]'hi)
  have hiI : (i : Int) < (s.size : Int) := by omega
  have HBX := Lib.hid (Box.new w 62 (tokCells 0 ⟨#[]⟩ 0 0 0))
  have HN0 : Hid (Below w.heap.size w (w.alloc (.cells (tokCells 0 ⟨#[]⟩ 0 0 0) 62))) := below_alloc (Below.refl _ _) (Nat.le_refl _) _
  obtain ⟨V, hV⟩ : ∃ V, V = oneL (s.data.toList.drop i) := ⟨_, rfl⟩
  have hv := hV
  rw [hd] at hv
  unfold oneL at hv
  dsimp only at hv
  rw [← hV]
  unfold tokCells at HBX HN0
  have hst := store_cx 0 0
  clear hV
  rw [if_pos hl, ← hd] at hv
  have HV := Lib.hid hv
  have HC : Hid (∀ W : World, Calls Tryz.prog 22 #[.int .u8 ((s[i]'hi).toNat : Int)] W (Plainly (.bool true) W)) := fun W => by
    have := HLE.out (s[i]'hi) W
    rw [hl] at this
    exact this
  clear hv hd hl
  go_enter Tryz.func16, Tryz.ntmps16
  go_wp2_with fail
  generalize hw0 : w.alloc (.cells #[.int .i64 0, .string ⟨#[]⟩, .int .i64 0, .complex .f64 0 0] 62) = w0 at *
  refine (HC.out _).mono ?_
  rintro r w1 ⟨rfl, rfl⟩
  go_upto_block 1 with (fail)
  go_cut [8] (fun v wx => ∃ k : Nat, i ≤ k ∧ k ≤ s.size ∧ v = .int .i64 k ∧ Hid (runLen wordB (s.data.toList.drop i) = k - i) ∧ wx = w0)
  case first =>
    go_wp2_with fail
    go_loop [8] (fun v => ∃ k : Nat, i ≤ k ∧ k ≤ s.size ∧ v = .int .i64 k ∧ Hid (runLen wordB (s.data.toList.drop i) = runLen wordB (s.data.toList.drop k) + (k - i))) (fun v => s.size - (intOf v).toNat)
    case atStart => exact ⟨i, Nat.le_refl _, by omega, rfl, by unfold Hid; omega⟩
    case round =>
      obtain ⟨k, hk1, hk2, rfl, HE⟩ := hrel
      by_cases hlt : k < s.size
      · have hltI : (k : Int) < (s.size : Int) := by omega
        have hdk := drop_at s k hlt
        have HL1 : Hid (∀ W : World, Calls Tryz.prog 22 #[.int .u8 ((s[k]'hlt).toNat : Int)] W (Plainly (.bool (letterB (s[k]'hlt))) W)) := fun W => HLE.out _ W
        have HD1 : Hid (∀ W : World, Calls Tryz.prog 23 #[.int .u8 ((s[k]'hlt).toNat : Int)] W (Plainly (.bool (digB (s[k]'hlt))) W)) := fun W => HDI.out _ W
        have HNO : Hid (wordB (s[k]'hlt) = false → runLen wordB (s.data.toList.drop i) = k - i) := fun h => by
          rw [HE.out, hdk, run_no _ h, Nat.zero_add]
        have HYES : Hid (wordB (s[k]'hlt) = true → runLen wordB (s.data.toList.drop i) = runLen wordB (s.data.toList.drop (k + 1)) + (k + 1 - i)) := fun h => by
          rw [HE.out, hdk, run_on _ h]
          omega
        have HW : Hid (wordB (s[k]'hlt) = (letterB (s[k]'hlt) || digB (s[k]'hlt))) := rfl
        clear hdk
        cases hl : letterB (s[k]'hlt)
        · rw [hl] at HL1 HW
          cases hdg : digB (s[k]'hlt)
          · rw [hdg] at HD1 HW
            have HN := Lib.hid (HNO.out HW.out)
            clear hl hdg
            go_wp2_with fail
            refine (HL1.out _).mono ?_
            rintro r w1 ⟨rfl, rfl⟩
            go_wp2_with fail
            refine (HD1.out _).mono ?_
            rintro r w1 ⟨rfl, rfl⟩
            go_wp2
            go_meet
            exact ⟨k, hk1, hk2, rfl, HN, rfl⟩
          · rw [hdg] at HD1 HW
            have HN := Lib.hid (HYES.out HW.out)
            clear hl hdg
            go_wp2_with fail
            refine (HL1.out _).mono ?_
            rintro r w1 ⟨rfl, rfl⟩
            go_wp2_with fail
            refine (HD1.out _).mono ?_
            rintro r w1 ⟨rfl, rfl⟩
            go_wp2
            go_round
            case rel => exact ⟨k + 1, by omega, by omega, by go_num, HN⟩
            case measure => simp [intOf]; omega
        · rw [hl] at HL1 HW
          have HN := Lib.hid (HYES.out HW.out)
          clear hl
          go_wp2_with fail
          refine (HL1.out _).mono ?_
          rintro r w1 ⟨rfl, rfl⟩
          go_wp2
          go_round
          case rel => exact ⟨k + 1, by omega, by omega, by go_num, HN⟩
          case measure => simp [intOf]; omega
      · obtain rfl : k = s.size := by omega
        have HN : Hid (runLen wordB (s.data.toList.drop i) = s.size - i) := by
          unfold Hid
          rw [HE.out, drop_end s s.size (Nat.le_refl _), runLen, Nat.zero_add]
        go_wp2
        go_meet
        exact ⟨s.size, hk1, hk2, rfl, HN, rfl⟩
  case rest =>
    obtain ⟨k, hk1, hk2, rfl, HR, rfl⟩ := hcut
    have hVs : V = some (1, (s.data.toList.drop i).take (k - i), k - i) := by rw [HV.out, HR.out]
    subst hVs
    have n1 : ((k : Int)).toNat = k := by omega
    have n2 : ((i : Int)).toNat = i := by omega
    have n3 : (i : Int) ≤ (k : Int) := by omega
    have n4 : (k : Int) ≤ (s.size : Int) := by omega
    have gl := HBX.out.lt
    have r0 := HBX.out.cell 0
    have r1 := HBX.out.cell 1
    have r2 := HBX.out.cell 2
    have r3 := HBX.out.cell 3
    simp only [List.getElem?_toArray, List.getElem?_cons_zero, List.getElem?_cons_succ] at r0 r1 r2 r3
    have f0 := HBX.out.free 0
    have f1 := HBX.out.free 1
    have f2 := HBX.out.free 2
    have f3 := HBX.out.free 3
    clear hw0
    go_wp2_with fail
    try simp only [Exit.inBlock, Exit.then]
    have hbx := box_four (a := .int .i64 1) (b := .string (s.extract i k)) (c := .int .i64 0) (d := .complex .f64 0 0) HBX.out
    refine bodyPost_ret (results_box_tmp2 rfl _ _ w.heap.size 62 _ ?e1_1 hbx _ Tryz.underlying62 ?e1_2 ?e1_3) ?e1_4 ?e1_5
    case e1_2 => rfl
    case e1_3 => exact tokSize
    case e1_1 => rfl
    case e1_4 => rfl
    case e1_5 => exact one_end w _ HN0.out _ rfl _ i _ _ _ true (by
      show Value.tuple #[.agg #[.int .i64 1, .string (strOf ((s.data.toList.drop i).take (k - i))), .int .i64 0, .complex .f64 0 0], .int .i64 ((i + (k - i) : Nat) : Int), .bool true] = _
      rw [← take_str, show i + (k - i) = k by omega])
theorem digits_len (base : Nat) : ∀ (r : List UInt8) (n v k : Nat), digitsOf base n r = some (v, k) → k ≤ r.length
  | [], n, v, k, h => by
    simp [digitsOf] at h
    omega
  | c :: r, n, v, k, h => by
    rw [digitsOf] at h
    split at h
    · split at h
      · cases h
      · cases hd : digitsOf base (n * base + (hexOf c).toNat) r with
        | none => rw [hd] at h; cases h
        | some t =>
          rw [hd] at h
          have := digits_len base r _ t.1 t.2 hd
          simp only [Option.map_some, Option.some.injEq, Prod.mk.injEq] at h
          rw [List.length_cons]
          omega
    · simp only [Option.some.injEq, Prod.mk.injEq] at h
      omega
theorem num_len {r : List UInt8} {v : Nat × Nat} (h : numL r = some v) : v.2 ≤ r.length := by
  rw [num_is] at h
  cases hf : numFrom (if hexAhead r then 16 else 10) (r.drop (if hexAhead r then 2 else 0)) with
  | none => rw [hf] at h; cases h
  | some t =>
    rw [hf] at h
    simp only [Option.map_some, Option.some.injEq] at h
    have h1 : t.2 ≤ (r.drop (if hexAhead r then 2 else 0)).length := by
      unfold numFrom at hf
      cases hd : digitsOf (if hexAhead r then 16 else 10) 0 (r.drop (if hexAhead r then 2 else 0)) with
      | none => rw [hd] at hf; cases hf
      | some u =>
        obtain ⟨v1, k1⟩ := u
        rw [hd] at hf
        dsimp only at hf
        by_cases hk : k1 = 0 ∨ goesOn ((r.drop (if hexAhead r then 2 else 0)).drop k1) = true
        · rw [if_pos hk] at hf
          cases hf
        · rw [if_neg hk] at hf
          simp only [Option.some.injEq] at hf
          rw [← hf]
          exact digits_len _ _ _ _ _ hd
    have h2 : (if hexAhead r then 2 else 0) ≤ r.length := by
      split
      · rename_i hx
        cases r with
        | nil => cases hx
        | cons a r =>
          cases r with
          | nil => cases hx
          | cons b r => simp
      · omega
    rw [← h]
    rw [List.length_drop] at h1
    show (if hexAhead r then 2 else 0) + t.2 ≤ _
    omega
theorem sign_len {r : List UInt8} : signL r ≤ r.length := by
  unfold signL
  split
  · rename_i h
    have hm : r.take 2 ∈ twoSigns := by simpa using h
    have hlen : (r.take 2).length = 2 := by
      simp only [twoSigns, List.mem_cons, List.not_mem_nil, or_false] at hm
      rcases hm with e | e | e | e | e | e <;> rw [e] <;> rfl
    rw [List.length_take] at hlen
    omega
  · cases r with
    | nil => exact Nat.le_refl _
    | cons c r =>
      dsimp only
      split <;> simp

set_option maxRecDepth 100000 in
set_option maxHeartbeats 8000000 in
theorem one_num (s : ByteArray) (i : Nat) (w : World) (hi : i < s.size) (hs : s.size ≤ 1099511627776) (hl : letterB (s[i]'hi) = false) (hg : digB (s[i]'hi) = true) :
    Calls Tryz.prog 16 #[.string s, .int .i64 i] w (TokAt (oneL (s.data.toList.drop i)) i w) := by
  have HLE : Hid (∀ (c : UInt8) (W : World), Calls Tryz.prog 22 #[.int .u8 (c.toNat : Int)] W (Plainly (.bool (letterB c)) W)) := letter_any
  have HDI : Hid (∀ (c : UInt8) (W : World), Calls Tryz.prog 23 #[.int .u8 (c.toNat : Int)] W (Plainly (.bool (digB c)) W)) := digit_any
  have hd := drop_at s i hi
  have b0 := byte_lt (s[i]'hi)
  have hiI : (i : Int) < (s.size : Int) := by omega
  have HBX := Lib.hid (Box.new w 62 (tokCells 0 ⟨#[]⟩ 0 0 0))
  have HN0 : Hid (Below w.heap.size w (w.alloc (.cells (tokCells 0 ⟨#[]⟩ 0 0 0) 62))) := below_alloc (Below.refl _ _) (Nat.le_refl _) _
  obtain ⟨V, hV⟩ : ∃ V, V = oneL (s.data.toList.drop i) := ⟨_, rfl⟩
  have hv := hV
  rw [hd] at hv
  unfold oneL at hv
  dsimp only at hv
  rw [← hV]
  unfold tokCells at HBX HN0
  have hst := store_cx 0 0
  clear hV
  rw [if_neg (by rw [hl]; decide), if_pos hg, ← hd] at hv
  have HNUM : Hid (∀ W : World, Calls Tryz.prog 24 #[.string s, .int .i64 i] W (NumPlace (numL (s.data.toList.drop i)) i W)) := fun W => num_any s i W hi hs
  have HC : Hid (∀ W : World, Calls Tryz.prog 22 #[.int .u8 ((s[i]'hi).toNat : Int)] W (Plainly (.bool false) W)) := fun W => by
    have := HLE.out (s[i]'hi) W
    rw [hl] at this
    exact this
  have HC2 : Hid (∀ W : World, Calls Tryz.prog 23 #[.int .u8 ((s[i]'hi).toNat : Int)] W (Plainly (.bool true) W)) := fun W => by
    have := HDI.out (s[i]'hi) W
    rw [hg] at this
    exact this
  have hln : ∀ v : Nat × Nat, numL (s.data.toList.drop i) = some v → i + v.2 ≤ s.size := fun v h => by
    have := num_len h
    rw [List.length_drop, Array.length_toList] at this
    have h3 : s.data.size = s.size := rfl
    omega
  clear hd hl hg
  cases hn : numL (s.data.toList.drop i) with
  | none =>
    rw [hn] at HNUM hv
    have hVs : V = none := hv
    subst hVs
    clear hv hn hln
    go_enter Tryz.func16, Tryz.ntmps16
    go_wp2_with fail
    generalize hw0 : w.alloc (.cells #[.int .i64 0, .string ⟨#[]⟩, .int .i64 0, .complex .f64 0 0] 62) = w0 at *
    refine (HC.out _).mono ?_
    rintro r w1 ⟨rfl, rfl⟩
    go_wp2_with fail
    refine (HC2.out _).mono ?_
    rintro r w1 ⟨rfl, rfl⟩
    go_wp2_with fail
    refine (HNUM.out _).mono ?_
    rintro r w1 ⟨rfl, rfl⟩
    have gl := HBX.out.lt
    have r0 := HBX.out.cell 0
    have r1 := HBX.out.cell 1
    have r2 := HBX.out.cell 2
    have r3 := HBX.out.cell 3
    simp only [List.getElem?_toArray, List.getElem?_cons_zero, List.getElem?_cons_succ] at r0 r1 r2 r3
    have f0 := HBX.out.free 0
    have f1 := HBX.out.free 1
    have f2 := HBX.out.free 2
    have f3 := HBX.out.free 3
    clear hw0
    go_wp2_with fail
    try simp only [Exit.inBlock, Exit.then]
    have hbx := box_four (a := .int .i64 0) (b := .string ⟨#[]⟩) (c := .int .i64 0) (d := .complex .f64 0 0) HBX.out
    refine bodyPost_ret (results_box_tmp2 rfl _ _ w.heap.size 62 _ ?e2_1 hbx _ Tryz.underlying62 ?e2_2 ?e2_3) ?e2_4 ?e2_5
    case e2_2 => rfl
    case e2_3 => exact tokSize
    case e2_1 => rfl
    case e2_4 => rfl
    case e2_5 => exact one_end w _ HN0.out _ rfl _ i _ _ _ false (rfl)
  | some t =>
    rw [hn] at HNUM hv
    have hVs : V = some (2, (s.data.toList.drop i).take t.2, t.2) := hv
    subst hVs
    have hle := hln t hn
    clear hv hn hln
    have n1 : ((i : Int) + (t.2 : Int)).toNat = i + t.2 := by omega
    have n3 : (i : Int) ≤ (i : Int) + (t.2 : Int) := by omega
    have n5 : (0 : Int) ≤ (i : Int) + (t.2 : Int) := by omega
    have n4 : (i : Int) + (t.2 : Int) ≤ (s.size : Int) := by omega
    go_enter Tryz.func16, Tryz.ntmps16
    go_wp2_with fail
    generalize hw0 : w.alloc (.cells #[.int .i64 0, .string ⟨#[]⟩, .int .i64 0, .complex .f64 0 0] 62) = w0 at *
    refine (HC.out _).mono ?_
    rintro r w1 ⟨rfl, rfl⟩
    go_wp2_with fail
    refine (HC2.out _).mono ?_
    rintro r w1 ⟨rfl, rfl⟩
    go_wp2_with fail
    refine (HNUM.out _).mono ?_
    rintro r w1 ⟨rfl, rfl⟩
    have gl := HBX.out.lt
    have r0 := HBX.out.cell 0
    have r1 := HBX.out.cell 1
    have r2 := HBX.out.cell 2
    have r3 := HBX.out.cell 3
    simp only [List.getElem?_toArray, List.getElem?_cons_zero, List.getElem?_cons_succ] at r0 r1 r2 r3
    have f0 := HBX.out.free 0
    have f1 := HBX.out.free 1
    have f2 := HBX.out.free 2
    have f3 := HBX.out.free 3
    clear hw0
    go_wp2_with fail
    try simp only [Exit.inBlock, Exit.then]
    have hbx := box_four (a := .int .i64 2) (b := .string (s.extract i (i + t.2))) (c := .int .i64 0) (d := .complex .f64 0 0) HBX.out
    refine bodyPost_ret (results_box_tmp2 rfl _ _ w.heap.size 62 _ ?e3_1 hbx _ Tryz.underlying62 ?e3_2 ?e3_3) ?e3_4 ?e3_5
    case e3_2 => rfl
    case e3_3 => exact tokSize
    case e3_1 => rfl
    case e3_4 => rfl
    case e3_5 => exact one_end w _ HN0.out _ rfl _ i _ _ _ true (by
      show Value.tuple #[.agg #[.int .i64 2, .string (strOf ((s.data.toList.drop i).take t.2)), .int .i64 0, .complex .f64 0 0], .int .i64 ((i + t.2 : Nat) : Int), .bool true] = _
      rw [take_str, Nat.add_sub_cancel_left]
      rfl)

set_option maxRecDepth 100000 in
set_option maxHeartbeats 8000000 in
theorem one_sign (s : ByteArray) (i : Nat) (w : World) (hi : i < s.size) (hs : s.size ≤ 1099511627776) (hl : letterB (s[i]'hi) = false) (hg : digB (s[i]'hi) = false) (h34 : ¬ s[i]'hi = 34) (h35 : ¬ s[i]'hi = 35) :
    Calls Tryz.prog 16 #[.string s, .int .i64 i] w (TokAt (oneL (s.data.toList.drop i)) i w) := by
  have HLE : Hid (∀ (c : UInt8) (W : World), Calls Tryz.prog 22 #[.int .u8 (c.toNat : Int)] W (Plainly (.bool (letterB c)) W)) := letter_any
  have HDI : Hid (∀ (c : UInt8) (W : World), Calls Tryz.prog 23 #[.int .u8 (c.toNat : Int)] W (Plainly (.bool (digB c)) W)) := digit_any
  have hd := drop_at s i hi
  have b0 := byte_lt (s[i]'hi)
  have hiI : (i : Int) < (s.size : Int) := by omega
  have HBX := Lib.hid (Box.new w 62 (tokCells 0 ⟨#[]⟩ 0 0 0))
  have HN0 : Hid (Below w.heap.size w (w.alloc (.cells (tokCells 0 ⟨#[]⟩ 0 0 0) 62))) := below_alloc (Below.refl _ _) (Nat.le_refl _) _
  obtain ⟨V, hV⟩ : ∃ V, V = oneL (s.data.toList.drop i) := ⟨_, rfl⟩
  have hv := hV
  rw [hd] at hv
  unfold oneL at hv
  dsimp only at hv
  rw [← hV]
  unfold tokCells at HBX HN0
  have hst := store_cx 0 0
  clear hV
  rw [if_neg (by rw [hl]; decide), if_neg (by rw [hg]; decide), if_neg h34, if_neg h35, ← hd] at hv
  have HSG : Hid (∀ W : World, Calls Tryz.prog 25 #[.string s, .int .i64 i] W (Quietly (.int .i64 (signL (s.data.toList.drop i))) W)) := fun W => sign_any s i W hi hs
  have HC : Hid (∀ W : World, Calls Tryz.prog 22 #[.int .u8 ((s[i]'hi).toNat : Int)] W (Plainly (.bool false) W)) := fun W => by
    have := HLE.out (s[i]'hi) W
    rw [hl] at this
    exact this
  have HC2 : Hid (∀ W : World, Calls Tryz.prog 23 #[.int .u8 ((s[i]'hi).toNat : Int)] W (Plainly (.bool false) W)) := fun W => by
    have := HDI.out (s[i]'hi) W
    rw [hg] at this
    exact this
  have hle : i + signL (s.data.toList.drop i) ≤ s.size := by
    have := sign_len (r := s.data.toList.drop i)
    rw [List.length_drop, Array.length_toList] at this
    have h3 : s.data.size = s.size := rfl
    omega
  have q1 : (((s[i]'hi).toNat : Int) == 34) = false := by
    rw [beq_eq_false_iff_ne]
    exact fun e => h34 (UInt8.toNat_inj.1 (by rw [show (34 : UInt8).toNat = 34 from rfl]; omega))
  have q2 : (((s[i]'hi).toNat : Int) == 35) = false := by
    rw [beq_eq_false_iff_ne]
    exact fun e => h35 (UInt8.toNat_inj.1 (by rw [show (35 : UInt8).toNat = 35 from rfl]; omega))
  obtain ⟨n, hn⟩ : ∃ n, n = signL (s.data.toList.drop i) := ⟨_, rfl⟩
  rw [← hn] at hv HSG hle
  clear hd hl hg h34 h35 hn
  by_cases h0 : n = 0
  · subst h0
    have hVs : V = none := hv
    subst hVs
    clear hv
    go_enter Tryz.func16, Tryz.ntmps16
    go_wp2_with fail
    generalize hw0 : w.alloc (.cells #[.int .i64 0, .string ⟨#[]⟩, .int .i64 0, .complex .f64 0 0] 62) = w0 at *
    refine (HC.out _).mono ?_
    rintro r w1 ⟨rfl, rfl⟩
    go_wp2_with fail
    refine (HC2.out _).mono ?_
    rintro r w1 ⟨rfl, rfl⟩
    go_wp2_with fail
    refine (HSG.out _).mono ?_
    rintro r w1 ⟨rfl, hb1⟩
    have HN1 := Lib.hid (below_step HN0.out (Nat.le_refl _) hb1)
    have HBX1 := Lib.hid (HBX.out.step hb1)
    clear hb1
    have gl := HBX1.out.lt
    have r0 := HBX1.out.cell 0
    have r1 := HBX1.out.cell 1
    have r2 := HBX1.out.cell 2
    have r3 := HBX1.out.cell 3
    simp only [List.getElem?_toArray, List.getElem?_cons_zero, List.getElem?_cons_succ] at r0 r1 r2 r3
    have f0 := HBX1.out.free 0
    have f1 := HBX1.out.free 1
    have f2 := HBX1.out.free 2
    have f3 := HBX1.out.free 3
    clear hw0
    go_wp2_with fail
    try simp only [Exit.inBlock, Exit.then]
    have hbx := box_four (a := .int .i64 0) (b := .string ⟨#[]⟩) (c := .int .i64 0) (d := .complex .f64 0 0) HBX1.out
    refine bodyPost_ret (results_box_tmp2 rfl _ _ w.heap.size 62 _ ?e4_1 hbx _ Tryz.underlying62 ?e4_2 ?e4_3) ?e4_4 ?e4_5
    case e4_2 => rfl
    case e4_3 => exact tokSize
    case e4_1 => rfl
    case e4_4 => rfl
    case e4_5 => exact one_end w _ HN1.out _ rfl _ i _ _ _ false (rfl)
  · have hVs : V = some (3, (s.data.toList.drop i).take n, n) := by rw [hv, if_neg h0]
    subst hVs
    have z0 : ((n : Int) == 0) = false := by rw [beq_eq_false_iff_ne]; omega
    have z1 : (n == 0) = false := by rw [beq_eq_false_iff_ne]; omega
    clear hv h0
    have n1 : ((i : Int) + (n : Int)).toNat = i + n := by omega
    have n3 : (i : Int) ≤ (i : Int) + (n : Int) := by omega
    have n5 : (0 : Int) ≤ (i : Int) + (n : Int) := by omega
    have n4 : (i : Int) + (n : Int) ≤ (s.size : Int) := by omega
    go_enter Tryz.func16, Tryz.ntmps16
    go_wp2_with fail
    generalize hw0 : w.alloc (.cells #[.int .i64 0, .string ⟨#[]⟩, .int .i64 0, .complex .f64 0 0] 62) = w0 at *
    refine (HC.out _).mono ?_
    rintro r w1 ⟨rfl, rfl⟩
    go_wp2_with fail
    refine (HC2.out _).mono ?_
    rintro r w1 ⟨rfl, rfl⟩
    go_wp2_with fail
    refine (HSG.out _).mono ?_
    rintro r w1 ⟨rfl, hb1⟩
    have HN1 := Lib.hid (below_step HN0.out (Nat.le_refl _) hb1)
    have HBX1 := Lib.hid (HBX.out.step hb1)
    clear hb1
    have gl := HBX1.out.lt
    have r0 := HBX1.out.cell 0
    have r1 := HBX1.out.cell 1
    have r2 := HBX1.out.cell 2
    have r3 := HBX1.out.cell 3
    simp only [List.getElem?_toArray, List.getElem?_cons_zero, List.getElem?_cons_succ] at r0 r1 r2 r3
    have f0 := HBX1.out.free 0
    have f1 := HBX1.out.free 1
    have f2 := HBX1.out.free 2
    have f3 := HBX1.out.free 3
    clear hw0
    go_wp2_with fail
    try simp only [Exit.inBlock, Exit.then]
    have hbx := box_four (a := .int .i64 3) (b := .string (s.extract i (i + n))) (c := .int .i64 0) (d := .complex .f64 0 0) HBX1.out
    refine bodyPost_ret (results_box_tmp2 rfl _ _ w.heap.size 62 _ ?e5_1 hbx _ Tryz.underlying62 ?e5_2 ?e5_3) ?e5_4 ?e5_5
    case e5_2 => rfl
    case e5_3 => exact tokSize
    case e5_1 => rfl
    case e5_4 => rfl
    case e5_5 => exact one_end w _ HN1.out _ rfl _ i _ _ _ true (by
      show Value.tuple #[.agg #[.int .i64 3, .string (strOf ((s.data.toList.drop i).take n)), .int .i64 0, .complex .f64 0 0], .int .i64 ((i + n : Nat) : Int), .bool true] = _
      rw [take_str, Nat.add_sub_cancel_left]
      rfl)

end Go.Proofs.YtfklajkmikanbaaGreatDoor
