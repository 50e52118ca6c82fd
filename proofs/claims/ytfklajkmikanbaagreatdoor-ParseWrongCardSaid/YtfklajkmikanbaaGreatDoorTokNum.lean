/- What the document's own Num gives. -/
import Derived.Test.YtfklajkmikanbaaGreatDoorPart4
import Derived.Deep.DeepCutAuto
import Derived.Deep.CutBlock
namespace Go.Proofs.YtfklajkmikanbaaGreatDoor
open Go.RowKit

theorem hex_bd (c : UInt8) : -1 ≤ hexOf c ∧ hexOf c ≤ 15 := by
  unfold hexOf
  split
  · rename_i h
    have : 48 ≤ (c.toNat : Int) ∧ (c.toNat : Int) ≤ 57 := by simpa [digB] using h
    omega
  split
  · omega
  split
  · omega
  · omega

theorem digits_no {base n : Nat} {c : UInt8} {r : List UInt8} (h : isHex base c = false) : digitsOf base n (c :: r) = some (n, 0) := by rw [digitsOf, if_neg (by rw [h]; decide)]
theorem digits_far {base n : Nat} {c : UInt8} {r : List UInt8} (h : isHex base c = true) (hn : (18446744073709551615 - (hexOf c).toNat) / base < n) : digitsOf base n (c :: r) = none := by rw [digitsOf, if_pos h, if_pos hn]
theorem digits_on {base n : Nat} {c : UInt8} {r : List UInt8} (h : isHex base c = true) (hn : ¬ (18446744073709551615 - (hexOf c).toNat) / base < n) : digitsOf base n (c :: r) = (digitsOf base (n * base + (hexOf c).toNat) r).map fun t => (t.1, t.2 + 1) := by rw [digitsOf, if_pos h, if_neg hn]

/-- What a function that hands back a number, a place and a bool gives. -/
def NumPlace (t : Option (Nat × Nat)) (at0 : Nat) (w : World) : Ending → World → Prop := fun r w' => r = .returned (match t with
  | none => .tuple #[.int .u64 0, .int .i64 0, .bool false]
  | some v => .tuple #[.int .u64 (v.1 : Int), .int .i64 ((at0 + v.2 : Nat) : Int), .bool true]) ∧ w = w'

/-- What Num's second part gives: from the digits on. -/
def numFrom (base : Nat) (r : List UInt8) : Option (Nat × Nat) := match digitsOf base 0 r with
  | none => none
  | some (v, k) => if k = 0 ∨ goesOn (r.drop k) = true then none else some (v, k)
theorem num_is (r : List UInt8) : numL r = (numFrom (if hexAhead r then 16 else 10) (r.drop (if hexAhead r then 2 else 0))).map fun v => (v.1, (if hexAhead r then 2 else 0) + v.2) := by
  unfold numL numFrom
  dsimp only
  generalize (if hexAhead r then 2 else 0) = off
  cases digitsOf (if hexAhead r then 16 else 10) 0 (r.drop off) with
  | none => rfl
  | some t =>
    obtain ⟨v, k⟩ := t
    dsimp only
    rw [List.drop_drop]
    by_cases hk : k = 0 ∨ goesOn (r.drop (off + k)) = true
    · rw [if_pos hk, if_pos hk]
      rfl
    · rw [if_neg hk, if_neg hk]
      rfl

/-- Where the digits' loop stands. -/
def Digits (s : ByteArray) (base i : Nat) (w : World) (n k : Value) (wr : World) : Prop :=
  ∃ (m q : Nat), i ≤ m ∧ m ≤ s.size ∧ k = .int .i64 m ∧ n = .int .u64 q ∧ q ≤ 18446744073709551615 ∧ Hid (digitsOf base 0 (s.data.toList.drop i) = (digitsOf base q (s.data.toList.drop m)).map fun t => (t.1, t.2 + (m - i))) ∧ wr = w

set_option maxRecDepth 100000 in
set_option maxHeartbeats 4000000 in
theorem num_any (s : ByteArray) (i : Nat) (w : World) (hi : i < s.size) (hs : s.size ≤ 1099511627776) :
    Calls Tryz.prog 24 #[.string s, .int .i64 i] w (NumPlace (numL (s.data.toList.drop i)) i w) := by
  have HH : Hid (∀ (c : UInt8) (W : World), Calls Tryz.prog 30 #[.int .u8 (c.toNat : Int)] W (Plainly (.int .i64 (hexOf c)) W)) := hex_any
  have HLE : Hid (∀ (c : UInt8) (W : World), Calls Tryz.prog 22 #[.int .u8 (c.toNat : Int)] W (Plainly (.bool (letterB c)) W)) := letter_any
  have HDI : Hid (∀ (c : UInt8) (W : World), Calls Tryz.prog 23 #[.int .u8 (c.toNat : Int)] W (Plainly (.bool (digB c)) W)) := digit_any
  obtain ⟨V, hV⟩ : ∃ V, V = numL (s.data.toList.drop i) := ⟨_, rfl⟩
  have hv := hV
  rw [num_is] at hv
  rw [← hV]
  have hd := drop_at s i hi
  clear hV
  go_enter Tryz.func24, Tryz.ntmps24
  go_upto_region 3 with (fail)
  go_cut [28] (fun v28 wx => v28 = .bool (hexAhead (s.data.toList.drop i)) ∧ (hexAhead (s.data.toList.drop i) = true → i + 2 ≤ s.size) ∧ wx = w)
  case first =>
    have hiI : (i : Int) < (s.size : Int) := by omega
    have b0 := byte_lt (s[i]'hi)
    clear hv
    by_cases h2 : i + 1 < s.size
    · have h2I : (i : Int) + 1 < (s.size : Int) := by omega
      have n1 : ((i : Int) + 1).toNat = i + 1 := by omega
      have n2 : (0 : Int) ≤ (i : Int) + 1 := by omega
      have b1 := byte_lt (s[i + 1]'h2)
      have hd2 := drop_at s (i + 1) h2
      rw [hd2] at hd
      by_cases q0 : s[i]'hi = 48
      · have f0 : (((s[i]'hi).toNat : Int) == 48) = true := by rw [q0]; rfl
        by_cases q1 : s[i + 1]'h2 = 120
        · have f1 : (((s[i + 1]'h2).toNat : Int) == 120) = true := by rw [q1]; rfl
          have hx : hexAhead (s.data.toList.drop i) = true := by
            rw [hd]
            simp [hexAhead, q0, q1]
          have HX := Lib.hid hx
          clear hx q0 q1 hd hd2
          go_wp2
          go_meet
          exact ⟨by rw [HX.out], fun _ => by omega, rfl⟩
        · have f1 : (((s[i + 1]'h2).toNat : Int) == 120) = false := by
            rw [beq_eq_false_iff_ne]
            intro e
            exact q1 (UInt8.toNat_inj.1 (by rw [show (120 : UInt8).toNat = 120 from rfl]; omega))
          have hx : hexAhead (s.data.toList.drop i) = false := by
            rw [hd]
            simp [hexAhead, q1]
          have HX := Lib.hid hx
          clear hx q0 q1 hd hd2
          go_wp2
          go_meet
          exact ⟨by rw [HX.out], fun h => absurd (HX.out.symm.trans h) (by decide), rfl⟩
      · have f0 : (((s[i]'hi).toNat : Int) == 48) = false := by
          rw [beq_eq_false_iff_ne]
          intro e
          exact q0 (UInt8.toNat_inj.1 (by rw [show (48 : UInt8).toNat = 48 from rfl]; omega))
        have hx : hexAhead (s.data.toList.drop i) = false := by
          rw [hd]
          simp [hexAhead, q0]
        have HX := Lib.hid hx
        clear hx q0 hd hd2
        go_wp2
        go_meet
        exact ⟨by rw [HX.out], fun h => absurd (HX.out.symm.trans h) (by decide), rfl⟩
    · have h2b : decide ((i : Int) + 1 < (s.size : Int)) = false := decide_eq_false (by omega)
      have hx : hexAhead (s.data.toList.drop i) = false := by
        rw [hd, drop_end s (i + 1) (by omega)]
        rfl
      have HX := Lib.hid hx
      clear hx hd h2
      go_wp2
      go_meet
      exact ⟨by rw [HX.out], fun h => absurd (HX.out.symm.trans h) (by decide), rfl⟩
  case rest =>
  obtain ⟨rfl, hx2, rfl⟩ := hcut
  clear hd
  go_upto_if 28 with (fail)
  go_cut [1, 8] (fun v1 v8 wx => ∃ (j off base : Nat), j = i + off ∧ v1 = .int .i64 (j : Int) ∧ ((v8 = .int .u64 10 ∧ base = 10) ∨ (v8 = .int .u64 16 ∧ base = 16)) ∧ i + off ≤ s.size ∧ Hid (V = (numFrom base (s.data.toList.drop (i + off))).map fun v => (v.1, off + v.2)) ∧ wx = wc)
  case first =>
    cases hx : hexAhead (s.data.toList.drop i)
    · rw [hx] at hv
      have HV : Hid (V = (numFrom 10 (s.data.toList.drop (i + 0))).map fun v => (v.1, 0 + v.2)) := hv
      clear hv hx hx2
      go_wp2
      go_meet
      exact ⟨i, 0, 10, rfl, rfl, .inl ⟨rfl, rfl⟩, by omega, HV, rfl⟩
    · have h2 := hx2 hx
      rw [hx] at hv
      simp only [if_true, List.drop_drop] at hv
      have HV := Lib.hid hv
      clear hv hx hx2
      go_wp2
      go_meet
      exact ⟨i + 2, 2, 16, rfl, by go_num, .inr ⟨rfl, rfl⟩, by omega, HV, rfl⟩
  case rest =>
    obtain ⟨j, off, base, hjo, rfl, hbase, hio, HV, rfl⟩ := hcut
    rw [← hjo] at hio HV
    have HJO := Lib.hid hjo
    clear hv hx2 hjo
    rcases hbase with ⟨rfl, rfl⟩ | ⟨rfl, rfl⟩
    · go_upto_block 0 with (fail)
      go_cut [7, 9] (fun n k wx => ∃ m q : Nat, j ≤ m ∧ m ≤ s.size ∧ k = .int .i64 m ∧ n = .int .u64 q ∧ Hid (digitsOf 10 0 (s.data.toList.drop j) = some (q, m - j)) ∧ wx = wc)
      case first =>
        go_wp2_with fail
        go_loopw [4, 5, 6, 7, 9] (fun v4 v5 v6 n k wr => (v4 = .int .u64 0 ∧ v5 = .int .i64 0 ∧ v6 = .bool false) ∧ Digits s 10 j wc n k wr) (fun _ _ _ _ k _ => s.size - (intOf k).toNat)
        case atStart => exact ⟨⟨rfl, rfl, rfl⟩, j, 0, Nat.le_refl _, hio, rfl, rfl, by omega, by unfold Hid; rw [Nat.sub_self]; cases digitsOf 10 0 (s.data.toList.drop j) <;> rfl, rfl⟩
        case round =>
          obtain ⟨⟨rfl, rfl, rfl⟩, m, q, hm1, hm2, rfl, rfl, hq, HD, rfl⟩ := hrel
          by_cases hlt : m < s.size
          · have hltI : (m : Int) < (s.size : Int) := by omega
            have hdm := drop_at s m hlt
            have HC : Hid (∀ W : World, Calls Tryz.prog 30 #[.int .u8 ((s[m]'hlt).toNat : Int)] W (Plainly (.int .i64 (hexOf (s[m]'hlt))) W)) := fun W => HH.out _ W
            obtain ⟨hx, hhx⟩ : ∃ hx, hx = hexOf (s[m]'hlt) := ⟨_, rfl⟩
            have hbd := hex_bd (s[m]'hlt)
            have HIX : Hid (isHex 10 (s[m]'hlt) = (decide (0 ≤ hx) && decide (hx < (10 : Int)))) := by rw [hhx]; rfl
            have HHX : Hid (hexOf (s[m]'hlt) = hx) := hhx.symm
            rw [← hhx] at hbd HC
            obtain ⟨l0, l1⟩ := hbd
            clear hhx
            by_cases h0 : 0 ≤ hx
            · have e0 : hx % 18446744073709551616 = hx := by omega
              by_cases h1 : hx < 10
              · have hix : isHex 10 (s[m]'hlt) = true := by rw [HIX.out, decide_eq_true h0, decide_eq_true h1]; rfl
                have e1 : (18446744073709551615 - hx) % 18446744073709551616 = 18446744073709551615 - hx := by omega
                by_cases hg : (18446744073709551615 - hx) / 10 < (q : Int)
                · have HN : Hid (V = none) := by
                    unfold Hid
                    have h2 : (18446744073709551615 - (hexOf (s[m]'hlt)).toNat) / 10 < q := by rw [HHX.out]; omega
                    have h3 := digits_far (n := q) (r := s.data.toList.drop (m + 1)) hix h2
                    rw [HV.out, numFrom, HD.out, hdm, h3]
                    rfl
                  clear hdm hix
                  have hV := HN.out
                  clear HN
                  subst hV
                  go_wp2_with fail
                  refine (HC.out _).mono ?_
                  rintro r w2 ⟨rfl, rfl⟩
                  go_wp2_with fail
                  refine (HC.out _).mono ?_
                  rintro r w2 ⟨rfl, rfl⟩
                  go_wp2_with fail
                  refine (HC.out _).mono ?_
                  rintro r w2 ⟨rfl, rfl⟩
                  go_wp2
                  go_ret3
                  exact ⟨rfl, rfl⟩
                · have HN : Hid (digitsOf 10 0 (s.data.toList.drop j) = (digitsOf 10 (q * 10 + hx.toNat) (s.data.toList.drop (m + 1))).map fun t => (t.1, t.2 + (m + 1 - j))) := by
                    unfold Hid
                    have h2 : ¬ (18446744073709551615 - (hexOf (s[m]'hlt)).toNat) / 10 < q := by rw [HHX.out]; omega
                    have h3 := digits_on (n := q) (r := s.data.toList.drop (m + 1)) hix h2
                    rw [HD.out, hdm, h3, HHX.out, Option.map_map]
                    congr 1
                    funext t
                    show (t.1, t.2 + 1 + (m - j)) = (t.1, t.2 + (m + 1 - j))
                    congr 1
                    omega
                  clear hdm hix
                  have hg' : (q : Int) ≤ (18446744073709551615 - hx) / 10 := by omega
                  go_wp2_with fail
                  refine (HC.out _).mono ?_
                  rintro r w2 ⟨rfl, rfl⟩
                  go_wp2_with fail
                  refine (HC.out _).mono ?_
                  rintro r w2 ⟨rfl, rfl⟩
                  go_wp2_with fail
                  refine (HC.out _).mono ?_
                  rintro r w2 ⟨rfl, rfl⟩
                  go_wp2
                  go_roundw
                  case rel => exact ⟨⟨rfl, rfl, rfl⟩, m + 1, q * 10 + hx.toNat, by omega, by omega, by go_num, by
                    congr 1
                    omega, by omega, HN, rfl⟩
                  case measure => simp [intOf]; omega
              · have h1b : decide (hx < 10) = false := decide_eq_false h1
                have HN : Hid (digitsOf 10 0 (s.data.toList.drop j) = some (q, m - j)) := by
                  unfold Hid
                  rw [HD.out, hdm, digits_no (by rw [HIX.out, h1b, Bool.and_false])]
                  show some (q, 0 + (m - j)) = _
                  rw [Nat.zero_add]
                clear hdm
                go_wp2_with fail
                refine (HC.out _).mono ?_
                rintro r w2 ⟨rfl, rfl⟩
                go_wp2_with fail
                refine (HC.out _).mono ?_
                rintro r w2 ⟨rfl, rfl⟩
                go_wp2
                go_meet
                exact ⟨m, q, hm1, hm2, rfl, rfl, HN, rfl⟩
            · have h0b : decide (0 ≤ hx) = false := decide_eq_false h0
              have HN : Hid (digitsOf 10 0 (s.data.toList.drop j) = some (q, m - j)) := by
                unfold Hid
                rw [HD.out, hdm, digits_no (by rw [HIX.out, h0b, Bool.false_and])]
                show some (q, 0 + (m - j)) = _
                rw [Nat.zero_add]
              clear hdm
              go_wp2_with fail
              refine (HC.out _).mono ?_
              rintro r w2 ⟨rfl, rfl⟩
              go_wp2
              go_meet
              exact ⟨m, q, hm1, hm2, rfl, rfl, HN, rfl⟩
          · obtain rfl : m = s.size := by omega
            have HN : Hid (digitsOf 10 0 (s.data.toList.drop j) = some (q, s.size - j)) := by
              unfold Hid
              rw [HD.out, drop_end s s.size (Nat.le_refl _)]
              show some (q, 0 + (s.size - j)) = _
              rw [Nat.zero_add]
            go_wp2
            go_meet
            exact ⟨s.size, q, hm1, hm2, rfl, rfl, HN, rfl⟩
      case rest =>
        obtain ⟨m, q, hm1, hm2, rfl, rfl, HD, rfl⟩ := hcut
        have HVD : Hid (V = (if m - j = 0 ∨ goesOn (s.data.toList.drop m) = true then none else some (q, m - j)).map fun v => (v.1, off + v.2)) := by
          unfold Hid
          rw [HV.out, numFrom, HD.out]
          dsimp only
          rw [List.drop_drop, show j + (m - j) = m by omega]
        clear HV HD
        by_cases he : m = j
        · have HN : Hid (V = none) := by
            unfold Hid
            rw [HVD.out, if_pos (.inl (by omega))]
            rfl
          have e0 : ((m : Int) == (j : Int)) = true := by rw [he]; simp
          have e0n : (m == j) = true := by rw [he]; simp
          have hV := HN.out
          clear he HVD HN
          subst hV
          go_wp2
          go_ret3
          exact ⟨rfl, rfl⟩
        · have e0 : ((m : Int) == (j : Int)) = false := by rw [beq_eq_false_iff_ne]; omega
          have e0n : (m == j) = false := by rw [beq_eq_false_iff_ne]; omega
          by_cases hlt : m < s.size
          · have hltI : (m : Int) < (s.size : Int) := by omega
            have hdm := drop_at s m hlt
            have HL1 : Hid (∀ W : World, Calls Tryz.prog 22 #[.int .u8 ((s[m]'hlt).toNat : Int)] W (Plainly (.bool (letterB (s[m]'hlt))) W)) := fun W => HLE.out _ W
            have HD1 : Hid (∀ W : World, Calls Tryz.prog 23 #[.int .u8 ((s[m]'hlt).toNat : Int)] W (Plainly (.bool (digB (s[m]'hlt))) W)) := fun W => HDI.out _ W
            have HG : Hid (goesOn (s.data.toList.drop m) = (letterB (s[m]'hlt) || digB (s[m]'hlt))) := by
              unfold Hid
              rw [hdm]
              rfl
            clear hdm
            cases hl : letterB (s[m]'hlt)
            · rw [hl] at HL1 HG
              cases hdg : digB (s[m]'hlt)
              · rw [hdg] at HD1 HG
                have HN : Hid (V = some (q, off + (m - j))) := by
                  unfold Hid
                  rw [HVD.out, HG.out, if_neg (by
                    rintro (h | h)
                    · omega
                    · exact absurd h (by decide))]
                  rfl
                have hV := HN.out
                clear hl hdg HVD he HN
                subst hV
                go_wp2_with fail
                refine (HL1.out _).mono ?_
                rintro r w2 ⟨rfl, rfl⟩
                go_wp2_with fail
                refine (HD1.out _).mono ?_
                rintro r w2 ⟨rfl, rfl⟩
                go_wp2
                go_ret3
                refine ⟨?_, rfl⟩
                show _ = Ending.returned (.tuple #[.int .u64 (q : Int), .int .i64 ((i + (off + (m - j)) : Nat) : Int), .bool true])
                rw [show i + (off + (m - j)) = m by have := HJO.out; omega]
                rfl
              · rw [hdg] at HD1 HG
                have HN : Hid (V = none) := by
                  unfold Hid
                  rw [HVD.out, if_pos (.inr HG.out)]
                  rfl
                have hV := HN.out
                clear hl hdg HVD he HN
                subst hV
                go_wp2_with fail
                refine (HL1.out _).mono ?_
                rintro r w2 ⟨rfl, rfl⟩
                go_wp2_with fail
                refine (HD1.out _).mono ?_
                rintro r w2 ⟨rfl, rfl⟩
                go_wp2
                go_ret3
                exact ⟨rfl, rfl⟩
            · rw [hl] at HL1 HG
              have HN : Hid (V = none) := by
                unfold Hid
                rw [HVD.out, if_pos (.inr HG.out)]
                rfl
              have hV := HN.out
              clear hl HVD he HN
              subst hV
              go_wp2_with fail
              refine (HL1.out _).mono ?_
              rintro r w2 ⟨rfl, rfl⟩
              go_wp2
              go_ret3
              exact ⟨rfl, rfl⟩
          · have hltI : decide ((m : Int) < (s.size : Int)) = false := decide_eq_false (by omega)
            have hltN : decide (m < s.size) = false := decide_eq_false hlt
            have HN : Hid (V = some (q, off + (m - j))) := by
              unfold Hid
              rw [HVD.out, drop_end s m (by omega), if_neg (by
                rintro (h | h)
                · omega
                · exact absurd h (by decide))]
              rfl
            have hV := HN.out
            clear HVD he hlt HN
            subst hV
            go_wp2
            go_ret3
            refine ⟨?_, rfl⟩
            show _ = Ending.returned (.tuple #[.int .u64 (q : Int), .int .i64 ((i + (off + (m - j)) : Nat) : Int), .bool true])
            rw [show i + (off + (m - j)) = m by have := HJO.out; omega]
            rfl
    · go_upto_block 0 with (fail)
      go_cut [7, 9] (fun n k wx => ∃ m q : Nat, j ≤ m ∧ m ≤ s.size ∧ k = .int .i64 m ∧ n = .int .u64 q ∧ Hid (digitsOf 16 0 (s.data.toList.drop j) = some (q, m - j)) ∧ wx = wc)
      case first =>
        go_wp2_with fail
        go_loopw [4, 5, 6, 7, 9] (fun v4 v5 v6 n k wr => (v4 = .int .u64 0 ∧ v5 = .int .i64 0 ∧ v6 = .bool false) ∧ Digits s 16 j wc n k wr) (fun _ _ _ _ k _ => s.size - (intOf k).toNat)
        case atStart => exact ⟨⟨rfl, rfl, rfl⟩, j, 0, Nat.le_refl _, hio, rfl, rfl, by omega, by unfold Hid; rw [Nat.sub_self]; cases digitsOf 16 0 (s.data.toList.drop j) <;> rfl, rfl⟩
        case round =>
          obtain ⟨⟨rfl, rfl, rfl⟩, m, q, hm1, hm2, rfl, rfl, hq, HD, rfl⟩ := hrel
          by_cases hlt : m < s.size
          · have hltI : (m : Int) < (s.size : Int) := by omega
            have hdm := drop_at s m hlt
            have HC : Hid (∀ W : World, Calls Tryz.prog 30 #[.int .u8 ((s[m]'hlt).toNat : Int)] W (Plainly (.int .i64 (hexOf (s[m]'hlt))) W)) := fun W => HH.out _ W
            obtain ⟨hx, hhx⟩ : ∃ hx, hx = hexOf (s[m]'hlt) := ⟨_, rfl⟩
            have hbd := hex_bd (s[m]'hlt)
            have HIX : Hid (isHex 16 (s[m]'hlt) = (decide (0 ≤ hx) && decide (hx < (16 : Int)))) := by rw [hhx]; rfl
            have HHX : Hid (hexOf (s[m]'hlt) = hx) := hhx.symm
            rw [← hhx] at hbd HC
            obtain ⟨l0, l1⟩ := hbd
            clear hhx
            by_cases h0 : 0 ≤ hx
            · have e0 : hx % 18446744073709551616 = hx := by omega
              by_cases h1 : hx < 16
              · have hix : isHex 16 (s[m]'hlt) = true := by rw [HIX.out, decide_eq_true h0, decide_eq_true h1]; rfl
                have e1 : (18446744073709551615 - hx) % 18446744073709551616 = 18446744073709551615 - hx := by omega
                by_cases hg : (18446744073709551615 - hx) / 16 < (q : Int)
                · have HN : Hid (V = none) := by
                    unfold Hid
                    have h2 : (18446744073709551615 - (hexOf (s[m]'hlt)).toNat) / 16 < q := by rw [HHX.out]; omega
                    have h3 := digits_far (n := q) (r := s.data.toList.drop (m + 1)) hix h2
                    rw [HV.out, numFrom, HD.out, hdm, h3]
                    rfl
                  clear hdm hix
                  have hV := HN.out
                  clear HN
                  subst hV
                  go_wp2_with fail
                  refine (HC.out _).mono ?_
                  rintro r w2 ⟨rfl, rfl⟩
                  go_wp2_with fail
                  refine (HC.out _).mono ?_
                  rintro r w2 ⟨rfl, rfl⟩
                  go_wp2_with fail
                  refine (HC.out _).mono ?_
                  rintro r w2 ⟨rfl, rfl⟩
                  go_wp2
                  go_ret3
                  exact ⟨rfl, rfl⟩
                · have HN : Hid (digitsOf 16 0 (s.data.toList.drop j) = (digitsOf 16 (q * 16 + hx.toNat) (s.data.toList.drop (m + 1))).map fun t => (t.1, t.2 + (m + 1 - j))) := by
                    unfold Hid
                    have h2 : ¬ (18446744073709551615 - (hexOf (s[m]'hlt)).toNat) / 16 < q := by rw [HHX.out]; omega
                    have h3 := digits_on (n := q) (r := s.data.toList.drop (m + 1)) hix h2
                    rw [HD.out, hdm, h3, HHX.out, Option.map_map]
                    congr 1
                    funext t
                    show (t.1, t.2 + 1 + (m - j)) = (t.1, t.2 + (m + 1 - j))
                    congr 1
                    omega
                  clear hdm hix
                  have hg' : (q : Int) ≤ (18446744073709551615 - hx) / 16 := by omega
                  go_wp2_with fail
                  refine (HC.out _).mono ?_
                  rintro r w2 ⟨rfl, rfl⟩
                  go_wp2_with fail
                  refine (HC.out _).mono ?_
                  rintro r w2 ⟨rfl, rfl⟩
                  go_wp2_with fail
                  refine (HC.out _).mono ?_
                  rintro r w2 ⟨rfl, rfl⟩
                  go_wp2
                  go_roundw
                  case rel => exact ⟨⟨rfl, rfl, rfl⟩, m + 1, q * 16 + hx.toNat, by omega, by omega, by go_num, by
                    congr 1
                    omega, by omega, HN, rfl⟩
                  case measure => simp [intOf]; omega
              · have h1b : decide (hx < 16) = false := decide_eq_false h1
                have HN : Hid (digitsOf 16 0 (s.data.toList.drop j) = some (q, m - j)) := by
                  unfold Hid
                  rw [HD.out, hdm, digits_no (by rw [HIX.out, h1b, Bool.and_false])]
                  show some (q, 0 + (m - j)) = _
                  rw [Nat.zero_add]
                clear hdm
                go_wp2_with fail
                refine (HC.out _).mono ?_
                rintro r w2 ⟨rfl, rfl⟩
                go_wp2_with fail
                refine (HC.out _).mono ?_
                rintro r w2 ⟨rfl, rfl⟩
                go_wp2
                go_meet
                exact ⟨m, q, hm1, hm2, rfl, rfl, HN, rfl⟩
            · have h0b : decide (0 ≤ hx) = false := decide_eq_false h0
              have HN : Hid (digitsOf 16 0 (s.data.toList.drop j) = some (q, m - j)) := by
                unfold Hid
                rw [HD.out, hdm, digits_no (by rw [HIX.out, h0b, Bool.false_and])]
                show some (q, 0 + (m - j)) = _
                rw [Nat.zero_add]
              clear hdm
              go_wp2_with fail
              refine (HC.out _).mono ?_
              rintro r w2 ⟨rfl, rfl⟩
              go_wp2
              go_meet
              exact ⟨m, q, hm1, hm2, rfl, rfl, HN, rfl⟩
          · obtain rfl : m = s.size := by omega
            have HN : Hid (digitsOf 16 0 (s.data.toList.drop j) = some (q, s.size - j)) := by
              unfold Hid
              rw [HD.out, drop_end s s.size (Nat.le_refl _)]
              show some (q, 0 + (s.size - j)) = _
              rw [Nat.zero_add]
            go_wp2
            go_meet
            exact ⟨s.size, q, hm1, hm2, rfl, rfl, HN, rfl⟩
      case rest =>
        obtain ⟨m, q, hm1, hm2, rfl, rfl, HD, rfl⟩ := hcut
        have HVD : Hid (V = (if m - j = 0 ∨ goesOn (s.data.toList.drop m) = true then none else some (q, m - j)).map fun v => (v.1, off + v.2)) := by
          unfold Hid
          rw [HV.out, numFrom, HD.out]
          dsimp only
          rw [List.drop_drop, show j + (m - j) = m by omega]
        clear HV HD
        by_cases he : m = j
        · have HN : Hid (V = none) := by
            unfold Hid
            rw [HVD.out, if_pos (.inl (by omega))]
            rfl
          have e0 : ((m : Int) == (j : Int)) = true := by rw [he]; simp
          have e0n : (m == j) = true := by rw [he]; simp
          have hV := HN.out
          clear he HVD HN
          subst hV
          go_wp2
          go_ret3
          exact ⟨rfl, rfl⟩
        · have e0 : ((m : Int) == (j : Int)) = false := by rw [beq_eq_false_iff_ne]; omega
          have e0n : (m == j) = false := by rw [beq_eq_false_iff_ne]; omega
          by_cases hlt : m < s.size
          · have hltI : (m : Int) < (s.size : Int) := by omega
            have hdm := drop_at s m hlt
            have HL1 : Hid (∀ W : World, Calls Tryz.prog 22 #[.int .u8 ((s[m]'hlt).toNat : Int)] W (Plainly (.bool (letterB (s[m]'hlt))) W)) := fun W => HLE.out _ W
            have HD1 : Hid (∀ W : World, Calls Tryz.prog 23 #[.int .u8 ((s[m]'hlt).toNat : Int)] W (Plainly (.bool (digB (s[m]'hlt))) W)) := fun W => HDI.out _ W
            have HG : Hid (goesOn (s.data.toList.drop m) = (letterB (s[m]'hlt) || digB (s[m]'hlt))) := by
              unfold Hid
              rw [hdm]
              rfl
            clear hdm
            cases hl : letterB (s[m]'hlt)
            · rw [hl] at HL1 HG
              cases hdg : digB (s[m]'hlt)
              · rw [hdg] at HD1 HG
                have HN : Hid (V = some (q, off + (m - j))) := by
                  unfold Hid
                  rw [HVD.out, HG.out, if_neg (by
                    rintro (h | h)
                    · omega
                    · exact absurd h (by decide))]
                  rfl
                have hV := HN.out
                clear hl hdg HVD he HN
                subst hV
                go_wp2_with fail
                refine (HL1.out _).mono ?_
                rintro r w2 ⟨rfl, rfl⟩
                go_wp2_with fail
                refine (HD1.out _).mono ?_
                rintro r w2 ⟨rfl, rfl⟩
                go_wp2
                go_ret3
                refine ⟨?_, rfl⟩
                show _ = Ending.returned (.tuple #[.int .u64 (q : Int), .int .i64 ((i + (off + (m - j)) : Nat) : Int), .bool true])
                rw [show i + (off + (m - j)) = m by have := HJO.out; omega]
                rfl
              · rw [hdg] at HD1 HG
                have HN : Hid (V = none) := by
                  unfold Hid
                  rw [HVD.out, if_pos (.inr HG.out)]
                  rfl
                have hV := HN.out
                clear hl hdg HVD he HN
                subst hV
                go_wp2_with fail
                refine (HL1.out _).mono ?_
                rintro r w2 ⟨rfl, rfl⟩
                go_wp2_with fail
                refine (HD1.out _).mono ?_
                rintro r w2 ⟨rfl, rfl⟩
                go_wp2
                go_ret3
                exact ⟨rfl, rfl⟩
            · rw [hl] at HL1 HG
              have HN : Hid (V = none) := by
                unfold Hid
                rw [HVD.out, if_pos (.inr HG.out)]
                rfl
              have hV := HN.out
              clear hl HVD he HN
              subst hV
              go_wp2_with fail
              refine (HL1.out _).mono ?_
              rintro r w2 ⟨rfl, rfl⟩
              go_wp2
              go_ret3
              exact ⟨rfl, rfl⟩
          · have hltI : decide ((m : Int) < (s.size : Int)) = false := decide_eq_false (by omega)
            have hltN : decide (m < s.size) = false := decide_eq_false hlt
            have HN : Hid (V = some (q, off + (m - j))) := by
              unfold Hid
              rw [HVD.out, drop_end s m (by omega), if_neg (by
                rintro (h | h)
                · omega
                · exact absurd h (by decide))]
              rfl
            have hV := HN.out
            clear HVD he hlt HN
            subst hV
            go_wp2
            go_ret3
            refine ⟨?_, rfl⟩
            show _ = Ending.returned (.tuple #[.int .u64 (q : Int), .int .i64 ((i + (off + (m - j)) : Nat) : Int), .bool true])
            rw [show i + (off + (m - j)) = m by have := HJO.out; omega]
            rfl

end Go.Proofs.YtfklajkmikanbaaGreatDoor
