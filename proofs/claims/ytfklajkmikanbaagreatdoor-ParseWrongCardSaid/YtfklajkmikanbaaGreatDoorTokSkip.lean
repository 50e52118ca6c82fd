/- What the document's own skip gives. -/
import Derived.Test.YtfklajkmikanbaaGreatDoorPart4
import Derived.Deep.DeepCutAuto
import Derived.Deep.CutBlock
namespace Go.Proofs.YtfklajkmikanbaaGreatDoor
open Go.RowKit

/-- What a function that hands back a place and a bool gives. -/
def PlaceBool (t : Option Nat) (at0 : Nat) (w : World) : Ending → World → Prop := fun r w' => r = .returned (match t with
  | none => .tuple #[.int .i64 0, .bool false]
  | some n => .tuple #[.int .i64 ((at0 + n : Nat) : Int), .bool true]) ∧ w = w'

theorem run_no (p : UInt8 → Bool) {c : UInt8} {r : List UInt8} (h : p c = false) : runLen p (c :: r) = 0 := by rw [runLen, if_neg (by rw [h]; decide)]
theorem run_on (p : UInt8 → Bool) {c : UInt8} {r : List UInt8} (h : p c = true) : runLen p (c :: r) = runLen p r + 1 := by rw [runLen, if_pos h]

theorem skip_blank {c : UInt8} {r : List UInt8} (h : blankB c = true) : skipL (c :: r) = some 1 := by
  unfold skipL
  dsimp only
  rw [if_pos h]
theorem skip_line {c : UInt8} {r : List UInt8} (h : blankB c = false) (h1 : beginsL [47, 47] (c :: r) = true) : skipL (c :: r) = some (runLen (fun x => !(x == 10)) (c :: r)) := by
  unfold skipL
  dsimp only
  rw [if_neg (by rw [h]; decide), if_pos h1]
theorem skip_far {c : UInt8} {r : List UInt8} (h : blankB c = false) (h1 : beginsL [47, 47] (c :: r) = false) (h2 : beginsL [47, 42] (c :: r) = true) : skipL (c :: r) = (endOf ((c :: r).drop 2)).map (· + 2) := by
  unfold skipL
  dsimp only
  rw [if_neg (by rw [h]; decide), if_neg (by rw [h1]; decide), if_pos h2]
theorem skip_no {c : UInt8} {r : List UInt8} (h : blankB c = false) (h1 : beginsL [47, 47] (c :: r) = false) (h2 : beginsL [47, 42] (c :: r) = false) : skipL (c :: r) = some 0 := by
  unfold skipL
  dsimp only
  rw [if_neg (by rw [h]; decide), if_neg (by rw [h1]; decide), if_neg (by rw [h2]; decide)]

set_option maxRecDepth 100000 in
set_option maxHeartbeats 4000000 in
theorem skip_any (s : ByteArray) (i : Nat) (w : World) (hi : i < s.size) (hs : s.size ≤ 1099511627776) :
    Calls Tryz.prog 15 #[.string s, .int .i64 i] w (PlaceBool (skipL (s.data.toList.drop i)) i w) := by
  have HB1 : Hid (∀ W : World, Calls Tryz.prog 21 #[.string s, .int .i64 i, .string ⟨#[47, 47]⟩] W (Plainly (.bool (beginsL [47, 47] (s.data.toList.drop i))) W)) := fun W => begins_any s ⟨#[47, 47]⟩ i W (by omega) hs (by decide) (by decide)
  have HB2 : Hid (∀ W : World, Calls Tryz.prog 21 #[.string s, .int .i64 i, .string ⟨#[47, 42]⟩] W (Plainly (.bool (beginsL [47, 42] (s.data.toList.drop i))) W)) := fun W => begins_any s ⟨#[47, 42]⟩ i W (by omega) hs (by decide) (by decide)
  have HB3 : Hid (∀ (k : Nat) (W : World), k ≤ s.size → Calls Tryz.prog 21 #[.string s, .int .i64 k, .string ⟨#[42, 47]⟩] W (Plainly (.bool (beginsL [42, 47] (s.data.toList.drop k))) W)) := fun k W hk => begins_any s ⟨#[42, 47]⟩ k W (by omega) hs (by decide) (by decide)
  have hd := drop_at s i hi
  have b0 := byte_lt (s[i]'hi)
  have hiI : (i : Int) < (s.size : Int) := by omega
  by_cases hbl : blankB (s[i]'hi) = true
  · have hv : skipL (s.data.toList.drop i) = some 1 := by rw [hd]; exact skip_blank hbl
    rw [hv]
    have hc : s[i]'hi = 32 ∨ s[i]'hi = 9 ∨ s[i]'hi = 10 ∨ s[i]'hi = 13 := by simpa [blankB] using hbl
    clear hv hd hbl HB1 HB2 HB3
    rcases hc with h | h | h | h
    · have hI : ((s[i]'hi).toNat : Int) = 32 := by rw [h]; rfl
      clear h
      go_enter Tryz.func15, Tryz.ntmps15
      go_wp2
      go_ret2
      exact ⟨rfl, rfl⟩
    · have hI : ((s[i]'hi).toNat : Int) = 9 := by rw [h]; rfl
      clear h
      go_enter Tryz.func15, Tryz.ntmps15
      go_wp2
      go_ret2
      exact ⟨rfl, rfl⟩
    · have hI : ((s[i]'hi).toNat : Int) = 10 := by rw [h]; rfl
      clear h
      go_enter Tryz.func15, Tryz.ntmps15
      go_wp2
      go_ret2
      exact ⟨rfl, rfl⟩
    · have hI : ((s[i]'hi).toNat : Int) = 13 := by rw [h]; rfl
      clear h
      go_enter Tryz.func15, Tryz.ntmps15
      go_wp2
      go_ret2
      exact ⟨rfl, rfl⟩
  · have hbf : blankB (s[i]'hi) = false := by simpa using hbl
    have hall := hbf
    simp only [blankB, Bool.or_eq_false_iff, beq_eq_false_iff_ne] at hall
    obtain ⟨c1, c2, c3, c4⟩ := hall
    have q1 : (((s[i]'hi).toNat : Int) == 32) = false := by
      rw [beq_eq_false_iff_ne]
      exact fun e => c1 (UInt8.toNat_inj.1 (by rw [show (32 : UInt8).toNat = 32 from rfl]; omega))
    have q2 : (((s[i]'hi).toNat : Int) == 9) = false := by
      rw [beq_eq_false_iff_ne]
      exact fun e => c2 (UInt8.toNat_inj.1 (by rw [show (9 : UInt8).toNat = 9 from rfl]; omega))
    have q3 : (((s[i]'hi).toNat : Int) == 10) = false := by
      rw [beq_eq_false_iff_ne]
      exact fun e => c3 (UInt8.toNat_inj.1 (by rw [show (10 : UInt8).toNat = 10 from rfl]; omega))
    have q4 : (((s[i]'hi).toNat : Int) == 13) = false := by
      rw [beq_eq_false_iff_ne]
      exact fun e => c4 (UInt8.toNat_inj.1 (by rw [show (13 : UInt8).toNat = 13 from rfl]; omega))
    clear c1 c2 c3 c4 hbl
    cases h1 : beginsL [47, 47] (s.data.toList.drop i)
    · rw [h1] at HB1
      cases h2 : beginsL [47, 42] (s.data.toList.drop i)
      · rw [h2] at HB2
        have hv : skipL (s.data.toList.drop i) = some 0 := by
          rw [hd] at h1 h2 ⊢
          exact skip_no hbf h1 h2
        rw [hv]
        clear hv hd h1 h2 hbf HB3
        go_enter Tryz.func15, Tryz.ntmps15
        go_wp2_with fail
        refine (HB1.out _).mono ?_
        rintro r w1 ⟨rfl, rfl⟩
        go_wp2_with fail
        refine (HB2.out _).mono ?_
        rintro r w1 ⟨rfl, rfl⟩
        go_wp2
        go_ret2
        exact ⟨rfl, rfl⟩
      · rw [h2] at HB2
        obtain ⟨V, hV⟩ : ∃ V, V = skipL (s.data.toList.drop i) := ⟨_, rfl⟩
        have hi2 : i + 2 ≤ s.size := by
          have := congrArg List.length (eq_of_beq h2)
          rw [List.length_take, List.length_drop, Array.length_toList] at this
          have h3 : s.data.size = s.size := rfl
          have h4 : min 2 (s.data.size - i) = 2 := this
          omega
        have HV : Hid (V = (endOf (s.data.toList.drop (i + 2))).map (· + 2)) := by
          unfold Hid
          rw [hV]
          rw [hd] at h1 h2
          rw [hd, skip_far hbf h1 h2, ← hd, List.drop_drop]
        rw [← hV]
        clear hd h1 h2 hbf hV
        go_enter Tryz.func15, Tryz.ntmps15
        go_wp2_with fail
        refine (HB1.out _).mono ?_
        rintro r w1 ⟨rfl, rfl⟩
        go_wp2_with fail
        refine (HB2.out _).mono ?_
        rintro r w1 ⟨rfl, rfl⟩
        go_wp2_with fail
        go_loop [6] (fun v => ∃ k : Nat, i + 2 ≤ k ∧ k ≤ s.size ∧ v = .int .i64 k ∧ Hid (endOf (s.data.toList.drop (i + 2)) = (endOf (s.data.toList.drop k)).map (· + (k - (i + 2))))) (fun v => s.size - (intOf v).toNat)
        case atStart => exact ⟨i + 2, Nat.le_refl _, hi2, by go_num, by unfold Hid; rw [Nat.sub_self]; cases endOf (s.data.toList.drop (i + 2)) <;> rfl⟩
        case round =>
          obtain ⟨k, hk1, hk2, rfl, HE⟩ := hrel
          by_cases hlt : k < s.size
          · have hltI : (k : Int) < (s.size : Int) := by omega
            have hdk := drop_at s k hlt
            have HB : Hid (∀ W : World, Calls Tryz.prog 21 #[.string s, .int .i64 k, .string ⟨#[42, 47]⟩] W (Plainly (.bool (beginsL [42, 47] (s.data.toList.drop k))) W)) := fun W => HB3.out k W hk2
            cases hb : beginsL [42, 47] (s.data.toList.drop k)
            · rw [hb] at HB
              have HN : Hid (endOf (s.data.toList.drop (i + 2)) = (endOf (s.data.toList.drop (k + 1))).map (· + (k + 1 - (i + 2)))) := by
                unfold Hid
                rw [hdk] at hb
                rw [HE.out, hdk, endOf, if_neg (by rw [hb]; decide), Option.map_map]
                congr 1
                funext t
                show t + 1 + (k - (i + 2)) = t + (k + 1 - (i + 2))
                omega
              clear hdk hb
              go_wp2_with fail
              refine (HB.out _).mono ?_
              rintro r w1 ⟨rfl, rfl⟩
              go_wp2
              go_round
              case rel => exact ⟨k + 1, by omega, by omega, by go_num, HN⟩
              case measure => simp [intOf]; omega
            · rw [hb] at HB
              have hVe : V = some (k + 2 - i) := by
                rw [hdk] at hb
                rw [HV.out, HE.out, hdk, endOf, if_pos hb]
                show some (2 + (k - (i + 2)) + 2) = _
                congr 1
                omega
              subst hVe
              clear hdk hb
              go_wp2_with fail
              refine (HB.out _).mono ?_
              rintro r w1 ⟨rfl, rfl⟩
              go_wp2
              go_ret2
              refine ⟨?_, rfl⟩
              show _ = Ending.returned (.tuple #[.int .i64 ((i + (k + 2 - i) : Nat) : Int), .bool true])
              rw [show i + (k + 2 - i) = k + 2 by omega]
              rfl
          · obtain rfl : k = s.size := by omega
            have hVe : V = none := by
              rw [HV.out, HE.out, drop_end s s.size (Nat.le_refl _)]
              rfl
            subst hVe
            go_wp2
            go_ret2
            exact ⟨rfl, rfl⟩
    · rw [h1] at HB1
      obtain ⟨V, hV⟩ : ∃ V, V = skipL (s.data.toList.drop i) := ⟨_, rfl⟩
      have HV : Hid (V = some (runLen (fun x => !(x == 10)) (s.data.toList.drop i))) := by
        unfold Hid
        rw [hV]
        rw [hd] at h1
        rw [hd]
        exact skip_line hbf h1
      have hVs := HV.out
      rw [← hV, hVs]
      clear hd h1 hbf hV hVs
      go_enter Tryz.func15, Tryz.ntmps15
      go_wp2_with fail
      refine (HB1.out _).mono ?_
      rintro r w1 ⟨rfl, rfl⟩
      go_wp2_with fail
      go_loop [1] (fun v => ∃ k : Nat, i ≤ k ∧ k ≤ s.size ∧ v = .int .i64 k ∧ Hid (runLen (fun x => !(x == 10)) (s.data.toList.drop i) = runLen (fun x => !(x == 10)) (s.data.toList.drop k) + (k - i))) (fun v => s.size - (intOf v).toNat)
      case atStart => exact ⟨i, Nat.le_refl _, by omega, rfl, by unfold Hid; omega⟩
      case round =>
        obtain ⟨k, hk1, hk2, rfl, HE⟩ := hrel
        by_cases hlt : k < s.size
        · have hltI : (k : Int) < (s.size : Int) := by omega
          have hdk := drop_at s k hlt
          by_cases hq : s[k]'hlt = 10
          · have f0 : (((s[k]'hlt).toNat : Int) == 10) = true := by rw [hq]; rfl
            have f1 : (((s[k]'hlt).toNat : Int) != 10) = false := by rw [hq]; rfl
            have HN : Hid (i + runLen (fun x => !(x == 10)) (s.data.toList.drop i) = k) := by
              unfold Hid
              rw [HE.out, hdk, run_no _ (by rw [hq]; rfl)]
              omega
            clear hdk hq
            go_wp2
            go_ret2
            refine ⟨?_, rfl⟩
            show _ = Ending.returned (.tuple #[.int .i64 ((i + runLen (fun x => !(x == 10)) (s.data.toList.drop i) : Nat) : Int), .bool true])
            rw [HN.out]
            rfl
          · have f0 : (((s[k]'hlt).toNat : Int) == 10) = false := by
              rw [beq_eq_false_iff_ne]
              exact fun e => hq (UInt8.toNat_inj.1 (by rw [show (10 : UInt8).toNat = 10 from rfl]; omega))
            have f1 : (((s[k]'hlt).toNat : Int) != 10) = true := by rw [bne, f0]; rfl
            have HN : Hid (runLen (fun x => !(x == 10)) (s.data.toList.drop i) = runLen (fun x => !(x == 10)) (s.data.toList.drop (k + 1)) + (k + 1 - i)) := by
              unfold Hid
              rw [HE.out, hdk, run_on _ (by simpa using hq)]
              omega
            clear hdk hq
            go_wp2
            go_round
            case rel => exact ⟨k + 1, by omega, by omega, by go_num, HN⟩
            case measure => simp [intOf]; omega
        · obtain rfl : k = s.size := by omega
          have HN : Hid (i + runLen (fun x => !(x == 10)) (s.data.toList.drop i) = s.size) := by
            unfold Hid
            rw [HE.out, drop_end s s.size (Nat.le_refl _), runLen]
            omega
          go_wp2
          go_ret2
          refine ⟨?_, rfl⟩
          show _ = Ending.returned (.tuple #[.int .i64 ((i + runLen (fun x => !(x == 10)) (s.data.toList.drop i) : Nat) : Int), .bool true])
          rw [HN.out]
          rfl

end Go.Proofs.YtfklajkmikanbaaGreatDoor
