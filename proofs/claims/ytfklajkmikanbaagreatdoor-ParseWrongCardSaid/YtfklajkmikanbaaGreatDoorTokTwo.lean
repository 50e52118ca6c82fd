/- What the document's own one gives: texts and words with '#'; all ways together. -/
import Derived.Test.YtfklajkmikanbaaGreatDoorTokOne
namespace Go.Proofs.YtfklajkmikanbaaGreatDoor
open Go.RowKit

set_option maxRecDepth 100000 in
set_option maxHeartbeats 8000000 in
theorem one_str (s : ByteArray) (i : Nat) (w : World) (hi : i < s.size) (hs : s.size ≤ 1099511627776) (hl : letterB (s[i]'hi) = false) (hg : digB (s[i]'hi) = false) (h34 : s[i]'hi = 34) :
    Calls Tryz.prog 16 #[.string s, .int .i64 i] w (TokAt (oneL (s.data.toList.drop i)) i w) := by
  have HLE : Hid (∀ (c : UInt8) (W : World), Calls Tryz.prog 22 #[.int .u8 (c.toNat : Int)] W (Plainly (.bool (letterB c)) W)) := letter_any
  have HDI : Hid (∀ (c : UInt8) (W : World), Calls Tryz.prog 23 #[.int .u8 (c.toNat : Int)] W (Plainly (.bool (digB c)) W)) := digit_any
  have hd := drop_at s i hi
  have b0 := byte_lt (s[i]'hi)
  have hiI : (i : Int) < (s.size : Int) := by omega
  have HBX := Lib.hid (Box.new w 62 (tokCells 0 ⟨#[]⟩ 0 0 0))
  have HN0 : Hid (Below w.heap.size w (w.alloc (.cells (tokCells 0 ⟨#[]⟩ 0 0 0) 62))) := below_alloc (Below.refl _ _) (Nat.le_refl _) _
  obtain ⟨V, hV⟩ : ∃ V, V = oneL (s.data.toList.drop i) := ⟨_, rfl⟩
  have hv := hV
  rw [hd] at hv
  unfold oneL at hv
  dsimp only at hv
  rw [← hV]
  unfold tokCells at HBX HN0
  have hst := store_cx 0 0
  clear hV
  rw [if_neg (by rw [hl]; decide), if_neg (by rw [hg]; decide), if_pos h34] at hv
  have HC : Hid (∀ W : World, Calls Tryz.prog 22 #[.int .u8 ((s[i]'hi).toNat : Int)] W (Plainly (.bool false) W)) := fun W => by
    have := HLE.out (s[i]'hi) W
    rw [hl] at this
    exact this
  have HC2 : Hid (∀ W : World, Calls Tryz.prog 23 #[.int .u8 ((s[i]'hi).toNat : Int)] W (Plainly (.bool false) W)) := fun W => by
    have := HDI.out (s[i]'hi) W
    rw [hg] at this
    exact this
  have q1 : (((s[i]'hi).toNat : Int) == 34) = true := by rw [h34]; rfl
  have HV := Lib.hid hv
  clear hd hl hg h34 hv
  go_enter Tryz.func16, Tryz.ntmps16
  go_wp2_with fail
  generalize hw0 : w.alloc (.cells #[.int .i64 0, .string ⟨#[]⟩, .int .i64 0, .complex .f64 0 0] 62) = w0 at *
  refine (HC.out _).mono ?_
  rintro r w1 ⟨rfl, rfl⟩
  go_wp2_with fail
  refine (HC2.out _).mono ?_
  rintro r w1 ⟨rfl, rfl⟩
  go_upto_block 3 with (fail)
  go_cut [8] (fun v wx => ∃ k : Nat, i + 1 ≤ k ∧ k ≤ s.size ∧ v = .int .i64 k ∧ Hid (runLen (fun x => !(x == 34) && !(x == 10)) (s.data.toList.drop (i + 1)) = k - (i + 1)) ∧ Hid (∀ h : k < s.size, s[k]'h = 34 ∨ s[k]'h = 10) ∧ wx = w0)
  case first =>
    go_wp2_with fail
    go_loop [8] (fun v => ∃ k : Nat, i + 1 ≤ k ∧ k ≤ s.size ∧ v = .int .i64 k ∧ Hid (runLen (fun x => !(x == 34) && !(x == 10)) (s.data.toList.drop (i + 1)) = runLen (fun x => !(x == 34) && !(x == 10)) (s.data.toList.drop k) + (k - (i + 1)))) (fun v => s.size - (intOf v).toNat)
    case atStart => exact ⟨i + 1, Nat.le_refl _, by omega, by go_num, by unfold Hid; omega⟩
    case round =>
      obtain ⟨k, hk1, hk2, rfl, HE⟩ := hrel
      by_cases hlt : k < s.size
      · have hltI : (k : Int) < (s.size : Int) := by omega
        have hdk := drop_at s k hlt
        have bk := byte_lt (s[k]'hlt)
        by_cases c1 : s[k]'hlt = 34
        · have f1 : (((s[k]'hlt).toNat : Int) == 34) = true := by rw [c1]; rfl
          have f1b : (((s[k]'hlt).toNat : Int) != 34) = false := by rw [c1]; rfl
          have HN : Hid (runLen (fun x => !(x == 34) && !(x == 10)) (s.data.toList.drop (i + 1)) = k - (i + 1)) := by
            unfold Hid
            rw [HE.out, hdk, run_no _ (by rw [c1]; rfl), Nat.zero_add]
          have HS : Hid (∀ h : k < s.size, s[k]'h = 34 ∨ s[k]'h = 10) := fun _ => .inl c1
          clear hdk c1
          go_wp2
          go_meet
          exact ⟨k, hk1, hk2, rfl, HN, HS, rfl⟩
        · have f1 : (((s[k]'hlt).toNat : Int) == 34) = false := by
            rw [beq_eq_false_iff_ne]
            exact fun e => c1 (UInt8.toNat_inj.1 (by rw [show (34 : UInt8).toNat = 34 from rfl]; omega))
          have f1b : (((s[k]'hlt).toNat : Int) != 34) = true := by rw [bne, f1]; rfl
          by_cases c2 : s[k]'hlt = 10
          · have f2 : (((s[k]'hlt).toNat : Int) == 10) = true := by rw [c2]; rfl
            have f2b : (((s[k]'hlt).toNat : Int) != 10) = false := by rw [c2]; rfl
            have HN : Hid (runLen (fun x => !(x == 34) && !(x == 10)) (s.data.toList.drop (i + 1)) = k - (i + 1)) := by
              unfold Hid
              rw [HE.out, hdk, run_no _ (by rw [c2]; rfl), Nat.zero_add]
            have HS : Hid (∀ h : k < s.size, s[k]'h = 34 ∨ s[k]'h = 10) := fun _ => .inr c2
            clear hdk c1 c2
            go_wp2
            go_meet
            exact ⟨k, hk1, hk2, rfl, HN, HS, rfl⟩
          · have f2 : (((s[k]'hlt).toNat : Int) == 10) = false := by
              rw [beq_eq_false_iff_ne]
              exact fun e => c2 (UInt8.toNat_inj.1 (by rw [show (10 : UInt8).toNat = 10 from rfl]; omega))
            have f2b : (((s[k]'hlt).toNat : Int) != 10) = true := by rw [bne, f2]; rfl
            have HN : Hid (runLen (fun x => !(x == 34) && !(x == 10)) (s.data.toList.drop (i + 1)) = runLen (fun x => !(x == 34) && !(x == 10)) (s.data.toList.drop (k + 1)) + (k + 1 - (i + 1))) := by
              unfold Hid
              rw [HE.out, hdk, run_on _ (by simp [c1, c2])]
              omega
            clear hdk c1 c2
            go_wp2
            go_round
            case rel => exact ⟨k + 1, by omega, by omega, by go_num, HN⟩
            case measure => simp [intOf]; omega
      · obtain rfl : k = s.size := by omega
        have HN : Hid (runLen (fun x => !(x == 34) && !(x == 10)) (s.data.toList.drop (i + 1)) = s.size - (i + 1)) := by
          unfold Hid
          rw [HE.out, drop_end s s.size (Nat.le_refl _), runLen, Nat.zero_add]
        have HS : Hid (∀ h : s.size < s.size, s[s.size]'h = 34 ∨ s[s.size]'h = 10) := fun h => absurd h (by omega)
        go_wp2
        go_meet
        exact ⟨s.size, hk1, hk2, rfl, HN, HS, rfl⟩
  case rest =>
    obtain ⟨k, hk1, hk2, rfl, HR, HS, rfl⟩ := hcut
    have hdr : (s.data.toList.drop (i + 1)).drop (k - (i + 1)) = s.data.toList.drop k := by
      rw [List.drop_drop]
      congr 1
      omega
    have hv := HV.out
    rw [HR.out, hdr] at hv
    clear HV hdr
    by_cases he : k = s.size
    · have hVs : V = none := by
        rw [hv, drop_end s k (by omega)]
      subst hVs
      have z0 : ((k : Int) == (s.size : Int)) = true := by rw [he]; simp
      have z1 : (k == s.size) = true := by rw [he]; simp
      clear hv he
      have gl := HBX.out.lt
      have r0 := HBX.out.cell 0
      have r1 := HBX.out.cell 1
      have r2 := HBX.out.cell 2
      have r3 := HBX.out.cell 3
      simp only [List.getElem?_toArray, List.getElem?_cons_zero, List.getElem?_cons_succ] at r0 r1 r2 r3
      have f0 := HBX.out.free 0
      have f1 := HBX.out.free 1
      have f2 := HBX.out.free 2
      have f3 := HBX.out.free 3
      clear hw0
      go_wp2_with fail
      try simp only [Exit.inBlock, Exit.then]
      have hbx := box_four (a := .int .i64 0) (b := .string ⟨#[]⟩) (c := .int .i64 0) (d := .complex .f64 0 0) HBX.out
      refine bodyPost_ret (results_box_tmp2 rfl _ _ w.heap.size 62 _ ?e6_1 hbx _ Tryz.underlying62 ?e6_2 ?e6_3) ?e6_4 ?e6_5
      case e6_2 => rfl
      case e6_3 => exact tokSize
      case e6_1 => rfl
      case e6_4 => rfl
      case e6_5 => exact one_end w _ HN0.out _ rfl _ i _ _ _ false (rfl)
    · have hlt : k < s.size := by omega
      have hltI : (k : Int) < (s.size : Int) := by omega
      have z0 : ((k : Int) == (s.size : Int)) = false := by rw [beq_eq_false_iff_ne]; omega
      have z1 : (k == s.size) = false := by rw [beq_eq_false_iff_ne]; omega
      have bk := byte_lt (s[k]'hlt)
      have hdk := drop_at s k hlt
      rcases HS.out hlt with hc | hc
      · have hVs : V = some (4, (s.data.toList.drop (i + 1)).take (k - (i + 1)), k - (i + 1) + 2) := by
          rw [hv, hdk, hc]
          rfl
        subst hVs
        have f2 : (((s[k]'hlt).toNat : Int) == 10) = false := by rw [hc]; rfl
        clear hv hdk hc he
        have n1 : ((i : Int) + 1).toNat = i + 1 := by omega
        have n2 : ((k : Int)).toNat = k := by omega
        have n3 : (i : Int) + 1 ≤ (k : Int) := by omega
        have n4 : (k : Int) ≤ (s.size : Int) := by omega
        have n5 : (0 : Int) ≤ (i : Int) + 1 := by omega
        have gl := HBX.out.lt
        have r0 := HBX.out.cell 0
        have r1 := HBX.out.cell 1
        have r2 := HBX.out.cell 2
        have r3 := HBX.out.cell 3
        simp only [List.getElem?_toArray, List.getElem?_cons_zero, List.getElem?_cons_succ] at r0 r1 r2 r3
        have f0 := HBX.out.free 0
        have f1 := HBX.out.free 1
        have f2 := HBX.out.free 2
        have f3 := HBX.out.free 3
        clear hw0
        go_wp2_with fail
        try simp only [Exit.inBlock, Exit.then]
        have hbx := box_four (a := .int .i64 4) (b := .string (s.extract (i + 1) k)) (c := .int .i64 0) (d := .complex .f64 0 0) HBX.out
        refine bodyPost_ret (results_box_tmp2 rfl _ _ w.heap.size 62 _ ?e7_1 hbx _ Tryz.underlying62 ?e7_2 ?e7_3) ?e7_4 ?e7_5
        case e7_2 => rfl
        case e7_3 => exact tokSize
        case e7_1 => rfl
        case e7_4 => rfl
        case e7_5 => exact one_end w _ HN0.out _ rfl _ i _ _ _ true (by
          show Value.tuple #[.agg #[.int .i64 4, .string (strOf ((s.data.toList.drop (i + 1)).take (k - (i + 1)))), .int .i64 0, .complex .f64 0 0], .int .i64 ((i + (k - (i + 1) + 2) : Nat) : Int), .bool true] = _
          rw [← take_str, show i + (k - (i + 1) + 2) = k + 1 by omega]
          rfl)
      · have hVs : V = none := by
          rw [hv, hdk, hc]
          rfl
        subst hVs
        have f2 : (((s[k]'hlt).toNat : Int) == 10) = true := by rw [hc]; rfl
        clear hv hdk hc he
        have gl := HBX.out.lt
        have r0 := HBX.out.cell 0
        have r1 := HBX.out.cell 1
        have r2 := HBX.out.cell 2
        have r3 := HBX.out.cell 3
        simp only [List.getElem?_toArray, List.getElem?_cons_zero, List.getElem?_cons_succ] at r0 r1 r2 r3
        have f0 := HBX.out.free 0
        have f1 := HBX.out.free 1
        have f2 := HBX.out.free 2
        have f3 := HBX.out.free 3
        clear hw0
        go_wp2_with fail
        try simp only [Exit.inBlock, Exit.then]
        have hbx := box_four (a := .int .i64 0) (b := .string ⟨#[]⟩) (c := .int .i64 0) (d := .complex .f64 0 0) HBX.out
        refine bodyPost_ret (results_box_tmp2 rfl _ _ w.heap.size 62 _ ?e8_1 hbx _ Tryz.underlying62 ?e8_2 ?e8_3) ?e8_4 ?e8_5
        case e8_2 => rfl
        case e8_3 => exact tokSize
        case e8_1 => rfl
        case e8_4 => rfl
        case e8_5 => exact one_end w _ HN0.out _ rfl _ i _ _ _ false (rfl)

set_option maxRecDepth 100000 in
set_option maxHeartbeats 8000000 in
theorem one_hash (s : ByteArray) (i : Nat) (w : World) (hi : i < s.size) (hs : s.size ≤ 1099511627776) (hl : letterB (s[i]'hi) = false) (hg : digB (s[i]'hi) = false) (h35 : s[i]'hi = 35) :
    Calls Tryz.prog 16 #[.string s, .int .i64 i] w (TokAt (oneL (s.data.toList.drop i)) i w) := by
  have HLE : Hid (∀ (c : UInt8) (W : World), Calls Tryz.prog 22 #[.int .u8 (c.toNat : Int)] W (Plainly (.bool (letterB c)) W)) := letter_any
  have HDI : Hid (∀ (c : UInt8) (W : World), Calls Tryz.prog 23 #[.int .u8 (c.toNat : Int)] W (Plainly (.bool (digB c)) W)) := digit_any
  have hd := drop_at s i hi
  have b0 := byte_lt (s[i]'hi)
  have hiI : (i : Int) < (s.size : Int) := by omega
  have HBX := Lib.hid (Box.new w 62 (tokCells 0 ⟨#[]⟩ 0 0 0))
  have HN0 : Hid (Below w.heap.size w (w.alloc (.cells (tokCells 0 ⟨#[]⟩ 0 0 0) 62))) := below_alloc (Below.refl _ _) (Nat.le_refl _) _
  obtain ⟨V, hV⟩ : ∃ V, V = oneL (s.data.toList.drop i) := ⟨_, rfl⟩
  have hv := hV
  rw [hd] at hv
  unfold oneL at hv
  dsimp only at hv
  rw [← hV]
  unfold tokCells at HBX HN0
  have hst := store_cx 0 0
  clear hV
  rw [if_neg (by rw [hl]; decide), if_neg (by rw [hg]; decide), if_neg (by rw [h35]; decide), if_pos h35, ← hd] at hv
  have HC : Hid (∀ W : World, Calls Tryz.prog 22 #[.int .u8 ((s[i]'hi).toNat : Int)] W (Plainly (.bool false) W)) := fun W => by
    have := HLE.out (s[i]'hi) W
    rw [hl] at this
    exact this
  have HC2 : Hid (∀ W : World, Calls Tryz.prog 23 #[.int .u8 ((s[i]'hi).toNat : Int)] W (Plainly (.bool false) W)) := fun W => by
    have := HDI.out (s[i]'hi) W
    rw [hg] at this
    exact this
  have q1 : (((s[i]'hi).toNat : Int) == 34) = false := by rw [h35]; rfl
  have q2 : (((s[i]'hi).toNat : Int) == 35) = true := by rw [h35]; rfl
  simp only [List.drop_drop] at hv
  have HV := Lib.hid hv
  have HBG : Hid (∀ (t : ByteArray) (W : World), t.size ≤ 1000 → 1 ≤ t.size → Calls Tryz.prog 21 #[.string s, .int .i64 i, .string t] W (Plainly (.bool (beginsL t.data.toList (s.data.toList.drop i))) W)) := fun t W h1 h2 => begins_any s t i W (by omega) hs h1 h2
  have hle : ∀ t : List UInt8, beginsL t (s.data.toList.drop i) = true → i + t.length ≤ s.size := fun t h => by
    have := congrArg List.length (eq_of_beq h)
    rw [List.length_take, List.length_drop, Array.length_toList] at this
    have h4 : min t.length (s.size - i) = t.length := this
    omega
  have HLEN := Lib.hid hle
  clear hd hl hg h35 hv hle
  go_enter Tryz.func16, Tryz.ntmps16
  go_wp2_with fail
  generalize hw0 : w.alloc (.cells #[.int .i64 0, .string ⟨#[]⟩, .int .i64 0, .complex .f64 0 0] 62) = w0 at *
  refine (HC.out _).mono ?_
  rintro r w1 ⟨rfl, rfl⟩
  go_wp2_with fail
  refine (HC2.out _).mono ?_
  rintro r w1 ⟨rfl, rfl⟩
  go_wp2_with fail
  have HBX1 := Lib.hid (HBX.out.alloc (.cells #[.string ⟨#[35, 105, 110, 99, 108, 117, 100, 101]⟩, .string ⟨#[35, 100, 101, 102, 105, 110, 101]⟩] 9))
  have HN1 := Lib.hid (below_alloc HN0.out (Nat.le_refl _) (.cells #[.string ⟨#[35, 105, 110, 99, 108, 117, 100, 101]⟩, .string ⟨#[35, 100, 101, 102, 105, 110, 101]⟩] 9))
  have hbl := Box.new w0 9 #[.string ⟨#[35, 105, 110, 99, 108, 117, 100, 101]⟩, .string ⟨#[35, 100, 101, 102, 105, 110, 101]⟩]
  have e0 := hbl.cell 0
  have e1 := hbl.cell 1
  simp only [List.getElem?_toArray, List.getElem?_cons_zero, List.getElem?_cons_succ] at e0 e1
  have gl2 := hbl.lt
  obtain ⟨gs, hgs⟩ : ∃ gs, gs = w0.heap.size := ⟨_, rfl⟩
  generalize hw1 : w0.alloc (.cells #[.string ⟨#[35, 105, 110, 99, 108, 117, 100, 101]⟩, .string ⟨#[35, 100, 101, 102, 105, 110, 101]⟩] 9) = w1 at *
  rw [← hgs] at e0 e1 gl2 ⊢
  clear hbl hgs hw1
  go_loop [8, 13] (fun _ v => ∃ j : Nat, j ≤ 2 ∧ v = .int .i64 j ∧ Hid (0 < j → (beginsL [35, 105, 110, 99, 108, 117, 100, 101] (s.data.toList.drop i) && !goesOn (s.data.toList.drop (i + 8))) = false) ∧ Hid (1 < j → (beginsL [35, 100, 101, 102, 105, 110, 101] (s.data.toList.drop i) && !goesOn (s.data.toList.drop (i + 7))) = false)) (fun _ v => 2 - (intOf v).toNat)
  case atStart => exact ⟨0, by omega, rfl, fun h => absurd h (by omega), fun h => absurd h (by omega)⟩
  case round =>
    obtain ⟨j, hj, rfl, HJ0, HJ1⟩ := hrel
    rcases (show j = 0 ∨ j = 1 ∨ j = 2 by omega) with rfl | rfl | rfl
    · have HB : Hid (∀ W : World, Calls Tryz.prog 21 #[.string s, .int .i64 i, .string ⟨#[35, 105, 110, 99, 108, 117, 100, 101]⟩] W (Plainly (.bool (beginsL [35, 105, 110, 99, 108, 117, 100, 101] (s.data.toList.drop i))) W)) := fun W => HBG.out ⟨#[35, 105, 110, 99, 108, 117, 100, 101]⟩ W (by decide) (by decide)
      by_cases hbt : beginsL [35, 105, 110, 99, 108, 117, 100, 101] (s.data.toList.drop i) = true
      rotate_left
      · have hb : beginsL [35, 105, 110, 99, 108, 117, 100, 101] (s.data.toList.drop i) = false := by simpa using hbt
        clear hbt
        rw [hb] at HB
        have HNX : Hid ((beginsL [35, 105, 110, 99, 108, 117, 100, 101] (s.data.toList.drop i) && !goesOn (s.data.toList.drop (i + 8))) = false) := by unfold Hid; rw [hb]; rfl
        clear hb
        go_wp2_with fail
        refine (HB.out _).mono ?_
        rintro r w2 ⟨rfl, rfl⟩
        go_wp2
        go_round
        case rel => exact ⟨1, by omega, by go_num, fun _ => HNX.out, fun h => absurd h (by omega)⟩
        case measure => simp [intOf]
      · have hb := hbt
        clear hbt
        rw [hb] at HB
        have hle := HLEN.out _ hb
        have hle2 : i + 8 ≤ s.size := hle
        clear hle
        have n1 : ((i : Int) + 8).toNat = i + 8 := by omega
        have n2 : (0 : Int) ≤ (i : Int) + 8 := by omega
        by_cases he : i + 8 = s.size
        · have hVs : V = some (5, [35, 105, 110, 99, 108, 117, 100, 101], 8) := by
            rw [HV.out]
            rw [hb, drop_end s (i + 8) (by omega)]
            rfl
          have z0 : ((i : Int) + 8 == (s.size : Int)) = true := by rw [beq_iff_eq]; omega
          subst hVs
          clear hb he HV
          go_wp2_with fail
          refine (HB.out _).mono ?_
          rintro r w2 ⟨rfl, rfl⟩
          have gl := HBX1.out.lt
          have r0 := HBX1.out.cell 0
          have r1 := HBX1.out.cell 1
          have r2 := HBX1.out.cell 2
          have r3 := HBX1.out.cell 3
          simp only [List.getElem?_toArray, List.getElem?_cons_zero, List.getElem?_cons_succ] at r0 r1 r2 r3
          have f0 := HBX1.out.free 0
          have f1 := HBX1.out.free 1
          have f2 := HBX1.out.free 2
          have f3 := HBX1.out.free 3
          go_wp2_with fail
          try simp only [Exit.inBlock, Exit.then]
          have hbx := box_four (a := .int .i64 5) (b := .string (⟨#[35, 105, 110, 99, 108, 117, 100, 101]⟩ : ByteArray)) (c := .int .i64 0) (d := .complex .f64 0 0) HBX1.out
          refine bodyPost_ret (results_box_tmp2 rfl _ _ w.heap.size 62 _ ?e9_1 hbx _ Tryz.underlying62 ?e9_2 ?e9_3) ?e9_4 ?e9_5
          case e9_2 => rfl
          case e9_3 => exact tokSize
          case e9_1 => rfl
          case e9_4 => rfl
          case e9_5 => exact one_end w _ HN1.out _ rfl _ i _ _ _ true (by
            show Value.tuple #[.agg #[.int .i64 5, .string ⟨#[35, 105, 110, 99, 108, 117, 100, 101]⟩, .int .i64 0, .complex .f64 0 0], .int .i64 ((i + 8 : Nat) : Int), .bool true] = _
            rfl)
        · have hlt : i + 8 < s.size := by omega
          have hltI : (i : Int) + 8 < (s.size : Int) := by omega
          have z0 : ((i : Int) + 8 == (s.size : Int)) = false := by rw [beq_eq_false_iff_ne]; omega
          have hdk := drop_at s (i + 8) hlt
          have HL1 : Hid (∀ W : World, Calls Tryz.prog 22 #[.int .u8 ((s[i + 8]'hlt).toNat : Int)] W (Plainly (.bool (letterB (s[i + 8]'hlt))) W)) := fun W => HLE.out _ W
          have HD1 : Hid (∀ W : World, Calls Tryz.prog 23 #[.int .u8 ((s[i + 8]'hlt).toNat : Int)] W (Plainly (.bool (digB (s[i + 8]'hlt))) W)) := fun W => HDI.out _ W
          have HG : Hid (goesOn (s.data.toList.drop (i + 8)) = (letterB (s[i + 8]'hlt) || digB (s[i + 8]'hlt))) := by
            unfold Hid
            rw [hdk]
            rfl
          clear hdk
          cases hl : letterB (s[i + 8]'hlt)
          · rw [hl] at HL1 HG
            cases hg : digB (s[i + 8]'hlt)
            · rw [hg] at HD1 HG
              have hgo : goesOn (s.data.toList.drop (i + 8)) = false := HG.out
              have hVs : V = some (5, [35, 105, 110, 99, 108, 117, 100, 101], 8) := by
                rw [HV.out]
                rw [hb, hgo]
                rfl
              subst hVs
              clear hb he HV hl hg hgo
              go_wp2_with fail
              refine (HB.out _).mono ?_
              rintro r w2 ⟨rfl, rfl⟩
              go_wp2_with fail
              refine (HL1.out _).mono ?_
              rintro r w2 ⟨rfl, rfl⟩
              go_wp2_with fail
              refine (HD1.out _).mono ?_
              rintro r w2 ⟨rfl, rfl⟩
              have gl := HBX1.out.lt
              have r0 := HBX1.out.cell 0
              have r1 := HBX1.out.cell 1
              have r2 := HBX1.out.cell 2
              have r3 := HBX1.out.cell 3
              simp only [List.getElem?_toArray, List.getElem?_cons_zero, List.getElem?_cons_succ] at r0 r1 r2 r3
              have f0 := HBX1.out.free 0
              have f1 := HBX1.out.free 1
              have f2 := HBX1.out.free 2
              have f3 := HBX1.out.free 3
              go_wp2_with fail
              try simp only [Exit.inBlock, Exit.then]
              have hbx := box_four (a := .int .i64 5) (b := .string (⟨#[35, 105, 110, 99, 108, 117, 100, 101]⟩ : ByteArray)) (c := .int .i64 0) (d := .complex .f64 0 0) HBX1.out
              refine bodyPost_ret (results_box_tmp2 rfl _ _ w.heap.size 62 _ ?e10_1 hbx _ Tryz.underlying62 ?e10_2 ?e10_3) ?e10_4 ?e10_5
              case e10_2 => rfl
              case e10_3 => exact tokSize
              case e10_1 => rfl
              case e10_4 => rfl
              case e10_5 => exact one_end w _ HN1.out _ rfl _ i _ _ _ true (by
                show Value.tuple #[.agg #[.int .i64 5, .string ⟨#[35, 105, 110, 99, 108, 117, 100, 101]⟩, .int .i64 0, .complex .f64 0 0], .int .i64 ((i + 8 : Nat) : Int), .bool true] = _
                rfl)
            · rw [hg] at HD1 HG
              have HNX : Hid ((beginsL [35, 105, 110, 99, 108, 117, 100, 101] (s.data.toList.drop i) && !goesOn (s.data.toList.drop (i + 8))) = false) := by unfold Hid; rw [HG.out, hb]; rfl
              clear hb he hl hg
              go_wp2_with fail
              refine (HB.out _).mono ?_
              rintro r w2 ⟨rfl, rfl⟩
              go_wp2_with fail
              refine (HL1.out _).mono ?_
              rintro r w2 ⟨rfl, rfl⟩
              go_wp2_with fail
              refine (HD1.out _).mono ?_
              rintro r w2 ⟨rfl, rfl⟩
              go_wp2
              go_round
              case rel => exact ⟨1, by omega, by go_num, fun _ => HNX.out, fun h => absurd h (by omega)⟩
              case measure => simp [intOf]
          · rw [hl] at HL1 HG
            have HNX : Hid ((beginsL [35, 105, 110, 99, 108, 117, 100, 101] (s.data.toList.drop i) && !goesOn (s.data.toList.drop (i + 8))) = false) := by unfold Hid; rw [HG.out, hb]; rfl
            clear hb he hl
            go_wp2_with fail
            refine (HB.out _).mono ?_
            rintro r w2 ⟨rfl, rfl⟩
            go_wp2_with fail
            refine (HL1.out _).mono ?_
            rintro r w2 ⟨rfl, rfl⟩
            go_wp2
            go_round
            case rel => exact ⟨1, by omega, by go_num, fun _ => HNX.out, fun h => absurd h (by omega)⟩
            case measure => simp [intOf]
    · have h0 := HJ0.out (by omega)
      have HB : Hid (∀ W : World, Calls Tryz.prog 21 #[.string s, .int .i64 i, .string ⟨#[35, 100, 101, 102, 105, 110, 101]⟩] W (Plainly (.bool (beginsL [35, 100, 101, 102, 105, 110, 101] (s.data.toList.drop i))) W)) := fun W => HBG.out ⟨#[35, 100, 101, 102, 105, 110, 101]⟩ W (by decide) (by decide)
      by_cases hbt : beginsL [35, 100, 101, 102, 105, 110, 101] (s.data.toList.drop i) = true
      rotate_left
      · have hb : beginsL [35, 100, 101, 102, 105, 110, 101] (s.data.toList.drop i) = false := by simpa using hbt
        clear hbt
        rw [hb] at HB
        have HNX : Hid ((beginsL [35, 100, 101, 102, 105, 110, 101] (s.data.toList.drop i) && !goesOn (s.data.toList.drop (i + 7))) = false) := by unfold Hid; rw [hb]; rfl
        clear hb
        go_wp2_with fail
        refine (HB.out _).mono ?_
        rintro r w2 ⟨rfl, rfl⟩
        go_wp2
        go_round
        case rel => exact ⟨2, by omega, by go_num, fun _ => HJ0.out (by omega), fun _ => HNX.out⟩
        case measure => simp [intOf]
      · have hb := hbt
        clear hbt
        rw [hb] at HB
        have hle := HLEN.out _ hb
        have hle2 : i + 7 ≤ s.size := hle
        clear hle
        have n1 : ((i : Int) + 7).toNat = i + 7 := by omega
        have n2 : (0 : Int) ≤ (i : Int) + 7 := by omega
        by_cases he : i + 7 = s.size
        · have hVs : V = some (5, [35, 100, 101, 102, 105, 110, 101], 7) := by
            rw [HV.out]
            rw [h0, hb, drop_end s (i + 7) (by omega)]
            rfl
          have z0 : ((i : Int) + 7 == (s.size : Int)) = true := by rw [beq_iff_eq]; omega
          subst hVs
          clear hb he HV
          go_wp2_with fail
          refine (HB.out _).mono ?_
          rintro r w2 ⟨rfl, rfl⟩
          have gl := HBX1.out.lt
          have r0 := HBX1.out.cell 0
          have r1 := HBX1.out.cell 1
          have r2 := HBX1.out.cell 2
          have r3 := HBX1.out.cell 3
          simp only [List.getElem?_toArray, List.getElem?_cons_zero, List.getElem?_cons_succ] at r0 r1 r2 r3
          have f0 := HBX1.out.free 0
          have f1 := HBX1.out.free 1
          have f2 := HBX1.out.free 2
          have f3 := HBX1.out.free 3
          go_wp2_with fail
          try simp only [Exit.inBlock, Exit.then]
          have hbx := box_four (a := .int .i64 5) (b := .string (⟨#[35, 100, 101, 102, 105, 110, 101]⟩ : ByteArray)) (c := .int .i64 0) (d := .complex .f64 0 0) HBX1.out
          refine bodyPost_ret (results_box_tmp2 rfl _ _ w.heap.size 62 _ ?e11_1 hbx _ Tryz.underlying62 ?e11_2 ?e11_3) ?e11_4 ?e11_5
          case e11_2 => rfl
          case e11_3 => exact tokSize
          case e11_1 => rfl
          case e11_4 => rfl
          case e11_5 => exact one_end w _ HN1.out _ rfl _ i _ _ _ true (by
            show Value.tuple #[.agg #[.int .i64 5, .string ⟨#[35, 100, 101, 102, 105, 110, 101]⟩, .int .i64 0, .complex .f64 0 0], .int .i64 ((i + 7 : Nat) : Int), .bool true] = _
            rfl)
        · have hlt : i + 7 < s.size := by omega
          have hltI : (i : Int) + 7 < (s.size : Int) := by omega
          have z0 : ((i : Int) + 7 == (s.size : Int)) = false := by rw [beq_eq_false_iff_ne]; omega
          have hdk := drop_at s (i + 7) hlt
          have HL1 : Hid (∀ W : World, Calls Tryz.prog 22 #[.int .u8 ((s[i + 7]'hlt).toNat : Int)] W (Plainly (.bool (letterB (s[i + 7]'hlt))) W)) := fun W => HLE.out _ W
          have HD1 : Hid (∀ W : World, Calls Tryz.prog 23 #[.int .u8 ((s[i + 7]'hlt).toNat : Int)] W (Plainly (.bool (digB (s[i + 7]'hlt))) W)) := fun W => HDI.out _ W
          have HG : Hid (goesOn (s.data.toList.drop (i + 7)) = (letterB (s[i + 7]'hlt) || digB (s[i + 7]'hlt))) := by
            unfold Hid
            rw [hdk]
            rfl
          clear hdk
          cases hl : letterB (s[i + 7]'hlt)
          · rw [hl] at HL1 HG
            cases hg : digB (s[i + 7]'hlt)
            · rw [hg] at HD1 HG
              have hgo : goesOn (s.data.toList.drop (i + 7)) = false := HG.out
              have hVs : V = some (5, [35, 100, 101, 102, 105, 110, 101], 7) := by
                rw [HV.out]
                rw [h0, hb, hgo]
                rfl
              subst hVs
              clear hb he HV hl hg hgo
              go_wp2_with fail
              refine (HB.out _).mono ?_
              rintro r w2 ⟨rfl, rfl⟩
              go_wp2_with fail
              refine (HL1.out _).mono ?_
              rintro r w2 ⟨rfl, rfl⟩
              go_wp2_with fail
              refine (HD1.out _).mono ?_
              rintro r w2 ⟨rfl, rfl⟩
              have gl := HBX1.out.lt
              have r0 := HBX1.out.cell 0
              have r1 := HBX1.out.cell 1
              have r2 := HBX1.out.cell 2
              have r3 := HBX1.out.cell 3
              simp only [List.getElem?_toArray, List.getElem?_cons_zero, List.getElem?_cons_succ] at r0 r1 r2 r3
              have f0 := HBX1.out.free 0
              have f1 := HBX1.out.free 1
              have f2 := HBX1.out.free 2
              have f3 := HBX1.out.free 3
              go_wp2_with fail
              try simp only [Exit.inBlock, Exit.then]
              have hbx := box_four (a := .int .i64 5) (b := .string (⟨#[35, 100, 101, 102, 105, 110, 101]⟩ : ByteArray)) (c := .int .i64 0) (d := .complex .f64 0 0) HBX1.out
              refine bodyPost_ret (results_box_tmp2 rfl _ _ w.heap.size 62 _ ?e12_1 hbx _ Tryz.underlying62 ?e12_2 ?e12_3) ?e12_4 ?e12_5
              case e12_2 => rfl
              case e12_3 => exact tokSize
              case e12_1 => rfl
              case e12_4 => rfl
              case e12_5 => exact one_end w _ HN1.out _ rfl _ i _ _ _ true (by
                show Value.tuple #[.agg #[.int .i64 5, .string ⟨#[35, 100, 101, 102, 105, 110, 101]⟩, .int .i64 0, .complex .f64 0 0], .int .i64 ((i + 7 : Nat) : Int), .bool true] = _
                rfl)
            · rw [hg] at HD1 HG
              have HNX : Hid ((beginsL [35, 100, 101, 102, 105, 110, 101] (s.data.toList.drop i) && !goesOn (s.data.toList.drop (i + 7))) = false) := by unfold Hid; rw [HG.out, hb]; rfl
              clear hb he hl hg
              go_wp2_with fail
              refine (HB.out _).mono ?_
              rintro r w2 ⟨rfl, rfl⟩
              go_wp2_with fail
              refine (HL1.out _).mono ?_
              rintro r w2 ⟨rfl, rfl⟩
              go_wp2_with fail
              refine (HD1.out _).mono ?_
              rintro r w2 ⟨rfl, rfl⟩
              go_wp2
              go_round
              case rel => exact ⟨2, by omega, by go_num, fun _ => HJ0.out (by omega), fun _ => HNX.out⟩
              case measure => simp [intOf]
          · rw [hl] at HL1 HG
            have HNX : Hid ((beginsL [35, 100, 101, 102, 105, 110, 101] (s.data.toList.drop i) && !goesOn (s.data.toList.drop (i + 7))) = false) := by unfold Hid; rw [HG.out, hb]; rfl
            clear hb he hl
            go_wp2_with fail
            refine (HB.out _).mono ?_
            rintro r w2 ⟨rfl, rfl⟩
            go_wp2_with fail
            refine (HL1.out _).mono ?_
            rintro r w2 ⟨rfl, rfl⟩
            go_wp2
            go_round
            case rel => exact ⟨2, by omega, by go_num, fun _ => HJ0.out (by omega), fun _ => HNX.out⟩
            case measure => simp [intOf]
    · have h0 := HJ0.out (by omega)
      have h1 := HJ1.out (by omega)
      have hVs : V = none := by
        rw [HV.out, h0, h1]
        rfl
      subst hVs
      clear h0 h1 HV
      have gl := HBX1.out.lt
      have r0 := HBX1.out.cell 0
      have r1 := HBX1.out.cell 1
      have r2 := HBX1.out.cell 2
      have r3 := HBX1.out.cell 3
      simp only [List.getElem?_toArray, List.getElem?_cons_zero, List.getElem?_cons_succ] at r0 r1 r2 r3
      have f0 := HBX1.out.free 0
      have f1 := HBX1.out.free 1
      have f2 := HBX1.out.free 2
      have f3 := HBX1.out.free 3
      go_wp2_with fail
      try simp only [Exit.inBlock, Exit.then]
      have hbx := box_four (a := .int .i64 0) (b := .string ⟨#[]⟩) (c := .int .i64 0) (d := .complex .f64 0 0) HBX1.out
      refine bodyPost_ret (results_box_tmp2 rfl _ _ w.heap.size 62 _ ?e13_1 hbx _ Tryz.underlying62 ?e13_2 ?e13_3) ?e13_4 ?e13_5
      case e13_2 => rfl
      case e13_3 => exact tokSize
      case e13_1 => rfl
      case e13_4 => rfl
      case e13_5 => exact one_end w _ HN1.out _ rfl _ i _ _ _ false (rfl)

theorem one_any (s : ByteArray) (i : Nat) (w : World) (hi : i < s.size) (hs : s.size ≤ 1099511627776) :
    Calls Tryz.prog 16 #[.string s, .int .i64 i] w (TokAt (oneL (s.data.toList.drop i)) i w) := by
  cases hl : letterB (s[i]'hi)
  · cases hg : digB (s[i]'hi)
    · by_cases h34 : s[i]'hi = 34
      · exact one_str s i w hi hs hl hg h34
      · by_cases h35 : s[i]'hi = 35
        · exact one_hash s i w hi hs hl hg h35
        · exact one_sign s i w hi hs hl hg h34 h35
    · exact one_num s i w hi hs hl hg
  · exact one_word s i w hi hs hl

end Go.Proofs.YtfklajkmikanbaaGreatDoor
