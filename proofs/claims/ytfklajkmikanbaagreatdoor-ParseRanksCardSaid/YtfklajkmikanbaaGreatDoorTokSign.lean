/- What the document's own sign gives. -/
import Derived.Test.YtfklajkmikanbaaGreatDoorPart4
namespace Go.Proofs.YtfklajkmikanbaaGreatDoor
open Go.RowKit

theorem sign_two {r : List UInt8} (h : twoSigns.contains (r.take 2) = true) : signL r = 2 := by unfold signL; rw [if_pos h]
theorem sign_one {r t : List UInt8} {c : UInt8} (h : twoSigns.contains (r.take 2) = false) (hr : r = c :: t) : signL r = if oneSigns.contains c then 1 else 0 := by
  unfold signL
  rw [if_neg (by rw [h]; decide), hr]

set_option maxRecDepth 100000 in
set_option maxHeartbeats 8000000 in
theorem sign_any (s : ByteArray) (i : Nat) (w : World) (hi : i < s.size) (hs : s.size ≤ 1099511627776) :
    Calls Tryz.prog 25 #[.string s, .int .i64 i] w (Quietly (.int .i64 (signL (s.data.toList.drop i))) w) := by
  have hd := drop_at s i hi
  obtain ⟨c, hc⟩ : ∃ c, c = s[i]'hi := ⟨_, rfl⟩
  obtain ⟨t, ht⟩ : ∃ t, t = s.data.toList.drop (i + 1) := ⟨_, rfl⟩
  rw [← hc, ← ht] at hd
  have hcl := byte_lt c
  have HC := Lib.hid hc
  clear hc
  by_cases h2 : i + 1 < s.size
  · have h2I : (i : Int) + 1 < (s.size : Int) := by omega
    have n1 : ((i : Int) + 2).toNat = i + 2 := by omega
    have n2 : (0 : Int) ≤ (i : Int) + 2 := by omega
    have n3 : (i : Int) ≤ (i : Int) + 2 := by omega
    have n4 : (i : Int) + 2 ≤ (s.size : Int) := by omega
    have hx : (s.extract i (i + 2)).toList = (s.data.toList.drop i).take 2 := by rw [take_str, strOf_toList, Nat.add_sub_cancel_left]
    cases hm : twoSigns.contains ((s.data.toList.drop i).take 2)
    · have hv := sign_one hm hd
      obtain ⟨V, hV⟩ : ∃ V, V = signL (s.data.toList.drop i) := ⟨_, rfl⟩
      rw [← hV] at hv ⊢
      have HV : Hid (V = if oneSigns.contains c then 1 else 0) := hv
      rw [← hx] at hm
      have hall := hm
      simp only [twoSigns, List.contains_cons, List.contains_nil, Bool.or_eq_false_iff] at hall
      obtain ⟨c0, c1, c2, c3, c4, c5, _⟩ := hall
      clear hm hv hd ht hx hV
      go_enter Tryz.func25, Tryz.ntmps25
      go_wp2_with fail
      go_loopw [7] (fun v wr => ∃ k : Nat, k ≤ 10 ∧ v = .int .i64 k ∧ Hid (∀ j, j < k → (oneSigns.getD j 0 == c) = false) ∧ Below w.heap.size w wr) (fun v _ => 10 - (intOf v).toNat)
      case atStart => exact ⟨0, by omega, rfl, fun j hj => absurd hj (by omega), Below.refl _ _⟩
      case round =>
        obtain ⟨k, hk, rfl, HB, hnx⟩ := hrel
        by_cases hlt : k < 10
        · rcases (show k = 0 ∨ k = 1 ∨ k = 2 ∨ k = 3 ∨ k = 4 ∨ k = 5 ∨ k = 6 ∨ k = 7 ∨ k = 8 ∨ k = 9 by omega) with rfl | rfl | rfl | rfl | rfl | rfl | rfl | rfl | rfl | rfl
          · by_cases hq : c = 123
            · have HQ : Hid (oneSigns.contains c = true) := by rw [hq]; rfl
              have hI : (((((⟨#[123, 125, 40, 41, 44, 33, 38, 124, 60, 62]⟩ : ByteArray)[0]'(by decide)).toNat : Nat) : Int) == ((s[i]'hi).toNat : Int)) = true := by rw [← HC.out, hq]; rfl
              clear hq hk hlt
              go_wp2_with fail
              go_quiet (fail)
              go_wp2
              go_ret
              exact ⟨by rw [HV.out, if_pos HQ.out]; rfl, below_drewN hnx _⟩
            · have hI : (((((⟨#[123, 125, 40, 41, 44, 33, 38, 124, 60, 62]⟩ : ByteArray)[0]'(by decide)).toNat : Nat) : Int) == ((s[i]'hi).toNat : Int)) = false := by
                rw [← HC.out, beq_eq_false_iff_ne]
                intro e
                exact hq (UInt8.toNat_inj.1 (Int.ofNat_inj.1 e).symm)
              have HN : Hid (∀ j, j < 1 → (oneSigns.getD j 0 == c) = false) := fun j hj => by
                by_cases e : j = 0
                · subst e
                  show (123 == c) = false
                  rw [beq_eq_false_iff_ne]
                  exact fun h => hq h.symm
                · exact HB.out j (by omega)
              clear hq hk hlt
              go_wp2_with fail
              go_quiet (fail)
              go_wp2
              go_roundw
              case rel => exact ⟨1, by omega, rfl, HN, below_drewN hnx _⟩
              case measure => simp [intOf]
          · by_cases hq : c = 125
            · have HQ : Hid (oneSigns.contains c = true) := by rw [hq]; rfl
              have hI : (((((⟨#[123, 125, 40, 41, 44, 33, 38, 124, 60, 62]⟩ : ByteArray)[1]'(by decide)).toNat : Nat) : Int) == ((s[i]'hi).toNat : Int)) = true := by rw [← HC.out, hq]; rfl
              clear hq hk hlt
              go_wp2_with fail
              go_quiet (fail)
              go_wp2
              go_ret
              exact ⟨by rw [HV.out, if_pos HQ.out]; rfl, below_drewN hnx _⟩
            · have hI : (((((⟨#[123, 125, 40, 41, 44, 33, 38, 124, 60, 62]⟩ : ByteArray)[1]'(by decide)).toNat : Nat) : Int) == ((s[i]'hi).toNat : Int)) = false := by
                rw [← HC.out, beq_eq_false_iff_ne]
                intro e
                exact hq (UInt8.toNat_inj.1 (Int.ofNat_inj.1 e).symm)
              have HN : Hid (∀ j, j < 2 → (oneSigns.getD j 0 == c) = false) := fun j hj => by
                by_cases e : j = 1
                · subst e
                  show (125 == c) = false
                  rw [beq_eq_false_iff_ne]
                  exact fun h => hq h.symm
                · exact HB.out j (by omega)
              clear hq hk hlt
              go_wp2_with fail
              go_quiet (fail)
              go_wp2
              go_roundw
              case rel => exact ⟨2, by omega, rfl, HN, below_drewN hnx _⟩
              case measure => simp [intOf]
          · by_cases hq : c = 40
            · have HQ : Hid (oneSigns.contains c = true) := by rw [hq]; rfl
              have hI : (((((⟨#[123, 125, 40, 41, 44, 33, 38, 124, 60, 62]⟩ : ByteArray)[2]'(by decide)).toNat : Nat) : Int) == ((s[i]'hi).toNat : Int)) = true := by rw [← HC.out, hq]; rfl
              clear hq hk hlt
              go_wp2_with fail
              go_quiet (fail)
              go_wp2
              go_ret
              exact ⟨by rw [HV.out, if_pos HQ.out]; rfl, below_drewN hnx _⟩
            · have hI : (((((⟨#[123, 125, 40, 41, 44, 33, 38, 124, 60, 62]⟩ : ByteArray)[2]'(by decide)).toNat : Nat) : Int) == ((s[i]'hi).toNat : Int)) = false := by
                rw [← HC.out, beq_eq_false_iff_ne]
                intro e
                exact hq (UInt8.toNat_inj.1 (Int.ofNat_inj.1 e).symm)
              have HN : Hid (∀ j, j < 3 → (oneSigns.getD j 0 == c) = false) := fun j hj => by
                by_cases e : j = 2
                · subst e
                  show (40 == c) = false
                  rw [beq_eq_false_iff_ne]
                  exact fun h => hq h.symm
                · exact HB.out j (by omega)
              clear hq hk hlt
              go_wp2_with fail
              go_quiet (fail)
              go_wp2
              go_roundw
              case rel => exact ⟨3, by omega, rfl, HN, below_drewN hnx _⟩
              case measure => simp [intOf]
          · by_cases hq : c = 41
            · have HQ : Hid (oneSigns.contains c = true) := by rw [hq]; rfl
              have hI : (((((⟨#[123, 125, 40, 41, 44, 33, 38, 124, 60, 62]⟩ : ByteArray)[3]'(by decide)).toNat : Nat) : Int) == ((s[i]'hi).toNat : Int)) = true := by rw [← HC.out, hq]; rfl
              clear hq hk hlt
              go_wp2_with fail
              go_quiet (fail)
              go_wp2
              go_ret
              exact ⟨by rw [HV.out, if_pos HQ.out]; rfl, below_drewN hnx _⟩
            · have hI : (((((⟨#[123, 125, 40, 41, 44, 33, 38, 124, 60, 62]⟩ : ByteArray)[3]'(by decide)).toNat : Nat) : Int) == ((s[i]'hi).toNat : Int)) = false := by
                rw [← HC.out, beq_eq_false_iff_ne]
                intro e
                exact hq (UInt8.toNat_inj.1 (Int.ofNat_inj.1 e).symm)
              have HN : Hid (∀ j, j < 4 → (oneSigns.getD j 0 == c) = false) := fun j hj => by
                by_cases e : j = 3
                · subst e
                  show (41 == c) = false
                  rw [beq_eq_false_iff_ne]
                  exact fun h => hq h.symm
                · exact HB.out j (by omega)
              clear hq hk hlt
              go_wp2_with fail
              go_quiet (fail)
              go_wp2
              go_roundw
              case rel => exact ⟨4, by omega, rfl, HN, below_drewN hnx _⟩
              case measure => simp [intOf]
          · by_cases hq : c = 44
            · have HQ : Hid (oneSigns.contains c = true) := by rw [hq]; rfl
              have hI : (((((⟨#[123, 125, 40, 41, 44, 33, 38, 124, 60, 62]⟩ : ByteArray)[4]'(by decide)).toNat : Nat) : Int) == ((s[i]'hi).toNat : Int)) = true := by rw [← HC.out, hq]; rfl
              clear hq hk hlt
              go_wp2_with fail
              go_quiet (fail)
              go_wp2
              go_ret
              exact ⟨by rw [HV.out, if_pos HQ.out]; rfl, below_drewN hnx _⟩
            · have hI : (((((⟨#[123, 125, 40, 41, 44, 33, 38, 124, 60, 62]⟩ : ByteArray)[4]'(by decide)).toNat : Nat) : Int) == ((s[i]'hi).toNat : Int)) = false := by
                rw [← HC.out, beq_eq_false_iff_ne]
                intro e
                exact hq (UInt8.toNat_inj.1 (Int.ofNat_inj.1 e).symm)
              have HN : Hid (∀ j, j < 5 → (oneSigns.getD j 0 == c) = false) := fun j hj => by
                by_cases e : j = 4
                · subst e
                  show (44 == c) = false
                  rw [beq_eq_false_iff_ne]
                  exact fun h => hq h.symm
                · exact HB.out j (by omega)
              clear hq hk hlt
              go_wp2_with fail
              go_quiet (fail)
              go_wp2
              go_roundw
              case rel => exact ⟨5, by omega, rfl, HN, below_drewN hnx _⟩
              case measure => simp [intOf]
          · by_cases hq : c = 33
            · have HQ : Hid (oneSigns.contains c = true) := by rw [hq]; rfl
              have hI : (((((⟨#[123, 125, 40, 41, 44, 33, 38, 124, 60, 62]⟩ : ByteArray)[5]'(by decide)).toNat : Nat) : Int) == ((s[i]'hi).toNat : Int)) = true := by rw [← HC.out, hq]; rfl
              clear hq hk hlt
              go_wp2_with fail
              go_quiet (fail)
              go_wp2
              go_ret
              exact ⟨by rw [HV.out, if_pos HQ.out]; rfl, below_drewN hnx _⟩
            · have hI : (((((⟨#[123, 125, 40, 41, 44, 33, 38, 124, 60, 62]⟩ : ByteArray)[5]'(by decide)).toNat : Nat) : Int) == ((s[i]'hi).toNat : Int)) = false := by
                rw [← HC.out, beq_eq_false_iff_ne]
                intro e
                exact hq (UInt8.toNat_inj.1 (Int.ofNat_inj.1 e).symm)
              have HN : Hid (∀ j, j < 6 → (oneSigns.getD j 0 == c) = false) := fun j hj => by
                by_cases e : j = 5
                · subst e
                  show (33 == c) = false
                  rw [beq_eq_false_iff_ne]
                  exact fun h => hq h.symm
                · exact HB.out j (by omega)
              clear hq hk hlt
              go_wp2_with fail
              go_quiet (fail)
              go_wp2
              go_roundw
              case rel => exact ⟨6, by omega, rfl, HN, below_drewN hnx _⟩
              case measure => simp [intOf]
          · by_cases hq : c = 38
            · have HQ : Hid (oneSigns.contains c = true) := by rw [hq]; rfl
              have hI : (((((⟨#[123, 125, 40, 41, 44, 33, 38, 124, 60, 62]⟩ : ByteArray)[6]'(by decide)).toNat : Nat) : Int) == ((s[i]'hi).toNat : Int)) = true := by rw [← HC.out, hq]; rfl
              clear hq hk hlt
              go_wp2_with fail
              go_quiet (fail)
              go_wp2
              go_ret
              exact ⟨by rw [HV.out, if_pos HQ.out]; rfl, below_drewN hnx _⟩
            · have hI : (((((⟨#[123, 125, 40, 41, 44, 33, 38, 124, 60, 62]⟩ : ByteArray)[6]'(by decide)).toNat : Nat) : Int) == ((s[i]'hi).toNat : Int)) = false := by
                rw [← HC.out, beq_eq_false_iff_ne]
                intro e
                exact hq (UInt8.toNat_inj.1 (Int.ofNat_inj.1 e).symm)
              have HN : Hid (∀ j, j < 7 → (oneSigns.getD j 0 == c) = false) := fun j hj => by
                by_cases e : j = 6
                · subst e
                  show (38 == c) = false
                  rw [beq_eq_false_iff_ne]
                  exact fun h => hq h.symm
                · exact HB.out j (by omega)
              clear hq hk hlt
              go_wp2_with fail
              go_quiet (fail)
              go_wp2
              go_roundw
              case rel => exact ⟨7, by omega, rfl, HN, below_drewN hnx _⟩
              case measure => simp [intOf]
          · by_cases hq : c = 124
            · have HQ : Hid (oneSigns.contains c = true) := by rw [hq]; rfl
              have hI : (((((⟨#[123, 125, 40, 41, 44, 33, 38, 124, 60, 62]⟩ : ByteArray)[7]'(by decide)).toNat : Nat) : Int) == ((s[i]'hi).toNat : Int)) = true := by rw [← HC.out, hq]; rfl
              clear hq hk hlt
              go_wp2_with fail
              go_quiet (fail)
              go_wp2
              go_ret
              exact ⟨by rw [HV.out, if_pos HQ.out]; rfl, below_drewN hnx _⟩
            · have hI : (((((⟨#[123, 125, 40, 41, 44, 33, 38, 124, 60, 62]⟩ : ByteArray)[7]'(by decide)).toNat : Nat) : Int) == ((s[i]'hi).toNat : Int)) = false := by
                rw [← HC.out, beq_eq_false_iff_ne]
                intro e
                exact hq (UInt8.toNat_inj.1 (Int.ofNat_inj.1 e).symm)
              have HN : Hid (∀ j, j < 8 → (oneSigns.getD j 0 == c) = false) := fun j hj => by
                by_cases e : j = 7
                · subst e
                  show (124 == c) = false
                  rw [beq_eq_false_iff_ne]
                  exact fun h => hq h.symm
                · exact HB.out j (by omega)
              clear hq hk hlt
              go_wp2_with fail
              go_quiet (fail)
              go_wp2
              go_roundw
              case rel => exact ⟨8, by omega, rfl, HN, below_drewN hnx _⟩
              case measure => simp [intOf]
          · by_cases hq : c = 60
            · have HQ : Hid (oneSigns.contains c = true) := by rw [hq]; rfl
              have hI : (((((⟨#[123, 125, 40, 41, 44, 33, 38, 124, 60, 62]⟩ : ByteArray)[8]'(by decide)).toNat : Nat) : Int) == ((s[i]'hi).toNat : Int)) = true := by rw [← HC.out, hq]; rfl
              clear hq hk hlt
              go_wp2_with fail
              go_quiet (fail)
              go_wp2
              go_ret
              exact ⟨by rw [HV.out, if_pos HQ.out]; rfl, below_drewN hnx _⟩
            · have hI : (((((⟨#[123, 125, 40, 41, 44, 33, 38, 124, 60, 62]⟩ : ByteArray)[8]'(by decide)).toNat : Nat) : Int) == ((s[i]'hi).toNat : Int)) = false := by
                rw [← HC.out, beq_eq_false_iff_ne]
                intro e
                exact hq (UInt8.toNat_inj.1 (Int.ofNat_inj.1 e).symm)
              have HN : Hid (∀ j, j < 9 → (oneSigns.getD j 0 == c) = false) := fun j hj => by
                by_cases e : j = 8
                · subst e
                  show (60 == c) = false
                  rw [beq_eq_false_iff_ne]
                  exact fun h => hq h.symm
                · exact HB.out j (by omega)
              clear hq hk hlt
              go_wp2_with fail
              go_quiet (fail)
              go_wp2
              go_roundw
              case rel => exact ⟨9, by omega, rfl, HN, below_drewN hnx _⟩
              case measure => simp [intOf]
          · by_cases hq : c = 62
            · have HQ : Hid (oneSigns.contains c = true) := by rw [hq]; rfl
              have hI : (((((⟨#[123, 125, 40, 41, 44, 33, 38, 124, 60, 62]⟩ : ByteArray)[9]'(by decide)).toNat : Nat) : Int) == ((s[i]'hi).toNat : Int)) = true := by rw [← HC.out, hq]; rfl
              clear hq hk hlt
              go_wp2_with fail
              go_quiet (fail)
              go_wp2
              go_ret
              exact ⟨by rw [HV.out, if_pos HQ.out]; rfl, below_drewN hnx _⟩
            · have hI : (((((⟨#[123, 125, 40, 41, 44, 33, 38, 124, 60, 62]⟩ : ByteArray)[9]'(by decide)).toNat : Nat) : Int) == ((s[i]'hi).toNat : Int)) = false := by
                rw [← HC.out, beq_eq_false_iff_ne]
                intro e
                exact hq (UInt8.toNat_inj.1 (Int.ofNat_inj.1 e).symm)
              have HN : Hid (∀ j, j < 10 → (oneSigns.getD j 0 == c) = false) := fun j hj => by
                by_cases e : j = 9
                · subst e
                  show (62 == c) = false
                  rw [beq_eq_false_iff_ne]
                  exact fun h => hq h.symm
                · exact HB.out j (by omega)
              clear hq hk hlt
              go_wp2_with fail
              go_quiet (fail)
              go_wp2
              go_roundw
              case rel => exact ⟨10, by omega, rfl, HN, below_drewN hnx _⟩
              case measure => simp [intOf]
        · obtain rfl : k = 10 := by omega
          have HQ : Hid (oneSigns.contains c = false) := by
            unfold Hid
            have h0 := HB.out
            have a0 := h0 0 (by omega)
            have a1 := h0 1 (by omega)
            have a2 := h0 2 (by omega)
            have a3 := h0 3 (by omega)
            have a4 := h0 4 (by omega)
            have a5 := h0 5 (by omega)
            have a6 := h0 6 (by omega)
            have a7 := h0 7 (by omega)
            have a8 := h0 8 (by omega)
            have a9 := h0 9 (by omega)
            simp only [oneSigns, List.getD_cons_zero, List.getD_cons_succ, beq_eq_false_iff_ne] at a0 a1 a2 a3 a4 a5 a6 a7 a8 a9
            simp only [oneSigns, List.contains_cons, List.contains_nil, Bool.or_eq_false_iff, beq_eq_false_iff_ne]
            exact ⟨Ne.symm a0, Ne.symm a1, Ne.symm a2, Ne.symm a3, Ne.symm a4, Ne.symm a5, Ne.symm a6, Ne.symm a7, Ne.symm a8, Ne.symm a9, trivial⟩
          go_wp2
          go_ret
          exact ⟨by rw [HV.out, HQ.out]; rfl, hnx⟩
    · have hv := sign_two hm
      rw [hv]
      rw [← hx] at hm
      have hmm : (s.extract i (i + 2)).toList ∈ twoSigns := by simpa using hm
      simp only [twoSigns, List.mem_cons, List.not_mem_nil, or_false] at hmm
      clear hm hv hd ht hx
      rcases hmm with e | e | e | e | e | e
      all_goals
        go_enter Tryz.func25, Tryz.ntmps25
        go_wp2
        go_ret
        exact ⟨rfl, Below.refl _ _⟩
  · have h2I : ¬ (i : Int) + 1 < (s.size : Int) := by omega
    have h2b : decide ((i : Int) + 1 < (s.size : Int)) = false := decide_eq_false h2I
    have hm : twoSigns.contains ((s.data.toList.drop i).take 2) = false := by
      rw [hd, ht, drop_end s (i + 1) (by omega)]
      simp [twoSigns]
    have hv := sign_one hm hd
    obtain ⟨V, hV⟩ : ∃ V, V = signL (s.data.toList.drop i) := ⟨_, rfl⟩
    rw [← hV] at hv ⊢
    have HV : Hid (V = if oneSigns.contains c then 1 else 0) := hv
    clear hm hv hd ht hV
    go_enter Tryz.func25, Tryz.ntmps25
    go_wp2_with fail
    go_loopw [7] (fun v wr => ∃ k : Nat, k ≤ 10 ∧ v = .int .i64 k ∧ Hid (∀ j, j < k → (oneSigns.getD j 0 == c) = false) ∧ Below w.heap.size w wr) (fun v _ => 10 - (intOf v).toNat)
    case atStart => exact ⟨0, by omega, rfl, fun j hj => absurd hj (by omega), Below.refl _ _⟩
    case round =>
      obtain ⟨k, hk, rfl, HB, hnx⟩ := hrel
      by_cases hlt : k < 10
      · rcases (show k = 0 ∨ k = 1 ∨ k = 2 ∨ k = 3 ∨ k = 4 ∨ k = 5 ∨ k = 6 ∨ k = 7 ∨ k = 8 ∨ k = 9 by omega) with rfl | rfl | rfl | rfl | rfl | rfl | rfl | rfl | rfl | rfl
        · by_cases hq : c = 123
          · have HQ : Hid (oneSigns.contains c = true) := by rw [hq]; rfl
            have hI : (((((⟨#[123, 125, 40, 41, 44, 33, 38, 124, 60, 62]⟩ : ByteArray)[0]'(by decide)).toNat : Nat) : Int) == ((s[i]'hi).toNat : Int)) = true := by rw [← HC.out, hq]; rfl
            clear hq hk hlt
            go_wp2_with fail
            go_quiet (fail)
            go_wp2
            go_ret
            exact ⟨by rw [HV.out, if_pos HQ.out]; rfl, below_drewN hnx _⟩
          · have hI : (((((⟨#[123, 125, 40, 41, 44, 33, 38, 124, 60, 62]⟩ : ByteArray)[0]'(by decide)).toNat : Nat) : Int) == ((s[i]'hi).toNat : Int)) = false := by
              rw [← HC.out, beq_eq_false_iff_ne]
              intro e
              exact hq (UInt8.toNat_inj.1 (Int.ofNat_inj.1 e).symm)
            have HN : Hid (∀ j, j < 1 → (oneSigns.getD j 0 == c) = false) := fun j hj => by
              by_cases e : j = 0
              · subst e
                show (123 == c) = false
                rw [beq_eq_false_iff_ne]
                exact fun h => hq h.symm
              · exact HB.out j (by omega)
            clear hq hk hlt
            go_wp2_with fail
            go_quiet (fail)
            go_wp2
            go_roundw
            case rel => exact ⟨1, by omega, rfl, HN, below_drewN hnx _⟩
            case measure => simp [intOf]
        · by_cases hq : c = 125
          · have HQ : Hid (oneSigns.contains c = true) := by rw [hq]; rfl
            have hI : (((((⟨#[123, 125, 40, 41, 44, 33, 38, 124, 60, 62]⟩ : ByteArray)[1]'(by decide)).toNat : Nat) : Int) == ((s[i]'hi).toNat : Int)) = true := by rw [← HC.out, hq]; rfl
            clear hq hk hlt
            go_wp2_with fail
            go_quiet (fail)
            go_wp2
            go_ret
            exact ⟨by rw [HV.out, if_pos HQ.out]; rfl, below_drewN hnx _⟩
          · have hI : (((((⟨#[123, 125, 40, 41, 44, 33, 38, 124, 60, 62]⟩ : ByteArray)[1]'(by decide)).toNat : Nat) : Int) == ((s[i]'hi).toNat : Int)) = false := by
              rw [← HC.out, beq_eq_false_iff_ne]
              intro e
              exact hq (UInt8.toNat_inj.1 (Int.ofNat_inj.1 e).symm)
            have HN : Hid (∀ j, j < 2 → (oneSigns.getD j 0 == c) = false) := fun j hj => by
              by_cases e : j = 1
              · subst e
                show (125 == c) = false
                rw [beq_eq_false_iff_ne]
                exact fun h => hq h.symm
              · exact HB.out j (by omega)
            clear hq hk hlt
            go_wp2_with fail
            go_quiet (fail)
            go_wp2
            go_roundw
            case rel => exact ⟨2, by omega, rfl, HN, below_drewN hnx _⟩
            case measure => simp [intOf]
        · by_cases hq : c = 40
          · have HQ : Hid (oneSigns.contains c = true) := by rw [hq]; rfl
            have hI : (((((⟨#[123, 125, 40, 41, 44, 33, 38, 124, 60, 62]⟩ : ByteArray)[2]'(by decide)).toNat : Nat) : Int) == ((s[i]'hi).toNat : Int)) = true := by rw [← HC.out, hq]; rfl
            clear hq hk hlt
            go_wp2_with fail
            go_quiet (fail)
            go_wp2
            go_ret
            exact ⟨by rw [HV.out, if_pos HQ.out]; rfl, below_drewN hnx _⟩
          · have hI : (((((⟨#[123, 125, 40, 41, 44, 33, 38, 124, 60, 62]⟩ : ByteArray)[2]'(by decide)).toNat : Nat) : Int) == ((s[i]'hi).toNat : Int)) = false := by
              rw [← HC.out, beq_eq_false_iff_ne]
              intro e
              exact hq (UInt8.toNat_inj.1 (Int.ofNat_inj.1 e).symm)
            have HN : Hid (∀ j, j < 3 → (oneSigns.getD j 0 == c) = false) := fun j hj => by
              by_cases e : j = 2
              · subst e
                show (40 == c) = false
                rw [beq_eq_false_iff_ne]
                exact fun h => hq h.symm
              · exact HB.out j (by omega)
            clear hq hk hlt
            go_wp2_with fail
            go_quiet (fail)
            go_wp2
            go_roundw
            case rel => exact ⟨3, by omega, rfl, HN, below_drewN hnx _⟩
            case measure => simp [intOf]
        · by_cases hq : c = 41
          · have HQ : Hid (oneSigns.contains c = true) := by rw [hq]; rfl
            have hI : (((((⟨#[123, 125, 40, 41, 44, 33, 38, 124, 60, 62]⟩ : ByteArray)[3]'(by decide)).toNat : Nat) : Int) == ((s[i]'hi).toNat : Int)) = true := by rw [← HC.out, hq]; rfl
            clear hq hk hlt
            go_wp2_with fail
            go_quiet (fail)
            go_wp2
            go_ret
            exact ⟨by rw [HV.out, if_pos HQ.out]; rfl, below_drewN hnx _⟩
          · have hI : (((((⟨#[123, 125, 40, 41, 44, 33, 38, 124, 60, 62]⟩ : ByteArray)[3]'(by decide)).toNat : Nat) : Int) == ((s[i]'hi).toNat : Int)) = false := by
              rw [← HC.out, beq_eq_false_iff_ne]
              intro e
              exact hq (UInt8.toNat_inj.1 (Int.ofNat_inj.1 e).symm)
            have HN : Hid (∀ j, j < 4 → (oneSigns.getD j 0 == c) = false) := fun j hj => by
              by_cases e : j = 3
              · subst e
                show (41 == c) = false
                rw [beq_eq_false_iff_ne]
                exact fun h => hq h.symm
              · exact HB.out j (by omega)
            clear hq hk hlt
            go_wp2_with fail
            go_quiet (fail)
            go_wp2
            go_roundw
            case rel => exact ⟨4, by omega, rfl, HN, below_drewN hnx _⟩
            case measure => simp [intOf]
        · by_cases hq : c = 44
          · have HQ : Hid (oneSigns.contains c = true) := by rw [hq]; rfl
            have hI : (((((⟨#[123, 125, 40, 41, 44, 33, 38, 124, 60, 62]⟩ : ByteArray)[4]'(by decide)).toNat : Nat) : Int) == ((s[i]'hi).toNat : Int)) = true := by rw [← HC.out, hq]; rfl
            clear hq hk hlt
            go_wp2_with fail
            go_quiet (fail)
            go_wp2
            go_ret
            exact ⟨by rw [HV.out, if_pos HQ.out]; rfl, below_drewN hnx _⟩
          · have hI : (((((⟨#[123, 125, 40, 41, 44, 33, 38, 124, 60, 62]⟩ : ByteArray)[4]'(by decide)).toNat : Nat) : Int) == ((s[i]'hi).toNat : Int)) = false := by
              rw [← HC.out, beq_eq_false_iff_ne]
              intro e
              exact hq (UInt8.toNat_inj.1 (Int.ofNat_inj.1 e).symm)
            have HN : Hid (∀ j, j < 5 → (oneSigns.getD j 0 == c) = false) := fun j hj => by
              by_cases e : j = 4
              · subst e
                show (44 == c) = false
                rw [beq_eq_false_iff_ne]
                exact fun h => hq h.symm
              · exact HB.out j (by omega)
            clear hq hk hlt
            go_wp2_with fail
            go_quiet (fail)
            go_wp2
            go_roundw
            case rel => exact ⟨5, by omega, rfl, HN, below_drewN hnx _⟩
            case measure => simp [intOf]
        · by_cases hq : c = 33
          · have HQ : Hid (oneSigns.contains c = true) := by rw [hq]; rfl
            have hI : (((((⟨#[123, 125, 40, 41, 44, 33, 38, 124, 60, 62]⟩ : ByteArray)[5]'(by decide)).toNat : Nat) : Int) == ((s[i]'hi).toNat : Int)) = true := by rw [← HC.out, hq]; rfl
            clear hq hk hlt
            go_wp2_with fail
            go_quiet (fail)
            go_wp2
            go_ret
            exact ⟨by rw [HV.out, if_pos HQ.out]; rfl, below_drewN hnx _⟩
          · have hI : (((((⟨#[123, 125, 40, 41, 44, 33, 38, 124, 60, 62]⟩ : ByteArray)[5]'(by decide)).toNat : Nat) : Int) == ((s[i]'hi).toNat : Int)) = false := by
              rw [← HC.out, beq_eq_false_iff_ne]
              intro e
              exact hq (UInt8.toNat_inj.1 (Int.ofNat_inj.1 e).symm)
            have HN : Hid (∀ j, j < 6 → (oneSigns.getD j 0 == c) = false) := fun j hj => by
              by_cases e : j = 5
              · subst e
                show (33 == c) = false
                rw [beq_eq_false_iff_ne]
                exact fun h => hq h.symm
              · exact HB.out j (by omega)
            clear hq hk hlt
            go_wp2_with fail
            go_quiet (fail)
            go_wp2
            go_roundw
            case rel => exact ⟨6, by omega, rfl, HN, below_drewN hnx _⟩
            case measure => simp [intOf]
        · by_cases hq : c = 38
          · have HQ : Hid (oneSigns.contains c = true) := by rw [hq]; rfl
            have hI : (((((⟨#[123, 125, 40, 41, 44, 33, 38, 124, 60, 62]⟩ : ByteArray)[6]'(by decide)).toNat : Nat) : Int) == ((s[i]'hi).toNat : Int)) = true := by rw [← HC.out, hq]; rfl
            clear hq hk hlt
            go_wp2_with fail
            go_quiet (fail)
            go_wp2
            go_ret
            exact ⟨by rw [HV.out, if_pos HQ.out]; rfl, below_drewN hnx _⟩
          · have hI : (((((⟨#[123, 125, 40, 41, 44, 33, 38, 124, 60, 62]⟩ : ByteArray)[6]'(by decide)).toNat : Nat) : Int) == ((s[i]'hi).toNat : Int)) = false := by
              rw [← HC.out, beq_eq_false_iff_ne]
              intro e
              exact hq (UInt8.toNat_inj.1 (Int.ofNat_inj.1 e).symm)
            have HN : Hid (∀ j, j < 7 → (oneSigns.getD j 0 == c) = false) := fun j hj => by
              by_cases e : j = 6
              · subst e
                show (38 == c) = false
                rw [beq_eq_false_iff_ne]
                exact fun h => hq h.symm
              · exact HB.out j (by omega)
            clear hq hk hlt
            go_wp2_with fail
            go_quiet (fail)
            go_wp2
            go_roundw
            case rel => exact ⟨7, by omega, rfl, HN, below_drewN hnx _⟩
            case measure => simp [intOf]
        · by_cases hq : c = 124
          · have HQ : Hid (oneSigns.contains c = true) := by rw [hq]; rfl
            have hI : (((((⟨#[123, 125, 40, 41, 44, 33, 38, 124, 60, 62]⟩ : ByteArray)[7]'(by decide)).toNat : Nat) : Int) == ((s[i]'hi).toNat : Int)) = true := by rw [← HC.out, hq]; rfl
            clear hq hk hlt
            go_wp2_with fail
            go_quiet (fail)
            go_wp2
            go_ret
            exact ⟨by rw [HV.out, if_pos HQ.out]; rfl, below_drewN hnx _⟩
          · have hI : (((((⟨#[123, 125, 40, 41, 44, 33, 38, 124, 60, 62]⟩ : ByteArray)[7]'(by decide)).toNat : Nat) : Int) == ((s[i]'hi).toNat : Int)) = false := by
              rw [← HC.out, beq_eq_false_iff_ne]
              intro e
              exact hq (UInt8.toNat_inj.1 (Int.ofNat_inj.1 e).symm)
            have HN : Hid (∀ j, j < 8 → (oneSigns.getD j 0 == c) = false) := fun j hj => by
              by_cases e : j = 7
              · subst e
                show (124 == c) = false
                rw [beq_eq_false_iff_ne]
                exact fun h => hq h.symm
              · exact HB.out j (by omega)
            clear hq hk hlt
            go_wp2_with fail
            go_quiet (fail)
            go_wp2
            go_roundw
            case rel => exact ⟨8, by omega, rfl, HN, below_drewN hnx _⟩
            case measure => simp [intOf]
        · by_cases hq : c = 60
          · have HQ : Hid (oneSigns.contains c = true) := by rw [hq]; rfl
            have hI : (((((⟨#[123, 125, 40, 41, 44, 33, 38, 124, 60, 62]⟩ : ByteArray)[8]'(by decide)).toNat : Nat) : Int) == ((s[i]'hi).toNat : Int)) = true := by rw [← HC.out, hq]; rfl
            clear hq hk hlt
            go_wp2_with fail
            go_quiet (fail)
            go_wp2
            go_ret
            exact ⟨by rw [HV.out, if_pos HQ.out]; rfl, below_drewN hnx _⟩
          · have hI : (((((⟨#[123, 125, 40, 41, 44, 33, 38, 124, 60, 62]⟩ : ByteArray)[8]'(by decide)).toNat : Nat) : Int) == ((s[i]'hi).toNat : Int)) = false := by
              rw [← HC.out, beq_eq_false_iff_ne]
              intro e
              exact hq (UInt8.toNat_inj.1 (Int.ofNat_inj.1 e).symm)
            have HN : Hid (∀ j, j < 9 → (oneSigns.getD j 0 == c) = false) := fun j hj => by
              by_cases e : j = 8
              · subst e
                show (60 == c) = false
                rw [beq_eq_false_iff_ne]
                exact fun h => hq h.symm
              · exact HB.out j (by omega)
            clear hq hk hlt
            go_wp2_with fail
            go_quiet (fail)
            go_wp2
            go_roundw
            case rel => exact ⟨9, by omega, rfl, HN, below_drewN hnx _⟩
            case measure => simp [intOf]
        · by_cases hq : c = 62
          · have HQ : Hid (oneSigns.contains c = true) := by rw [hq]; rfl
            have hI : (((((⟨#[123, 125, 40, 41, 44, 33, 38, 124, 60, 62]⟩ : ByteArray)[9]'(by decide)).toNat : Nat) : Int) == ((s[i]'hi).toNat : Int)) = true := by rw [← HC.out, hq]; rfl
            clear hq hk hlt
            go_wp2_with fail
            go_quiet (fail)
            go_wp2
            go_ret
            exact ⟨by rw [HV.out, if_pos HQ.out]; rfl, below_drewN hnx _⟩
          · have hI : (((((⟨#[123, 125, 40, 41, 44, 33, 38, 124, 60, 62]⟩ : ByteArray)[9]'(by decide)).toNat : Nat) : Int) == ((s[i]'hi).toNat : Int)) = false := by
              rw [← HC.out, beq_eq_false_iff_ne]
              intro e
              exact hq (UInt8.toNat_inj.1 (Int.ofNat_inj.1 e).symm)
            have HN : Hid (∀ j, j < 10 → (oneSigns.getD j 0 == c) = false) := fun j hj => by
              by_cases e : j = 9
              · subst e
                show (62 == c) = false
                rw [beq_eq_false_iff_ne]
                exact fun h => hq h.symm
              · exact HB.out j (by omega)
            clear hq hk hlt
            go_wp2_with fail
            go_quiet (fail)
            go_wp2
            go_roundw
            case rel => exact ⟨10, by omega, rfl, HN, below_drewN hnx _⟩
            case measure => simp [intOf]
      · obtain rfl : k = 10 := by omega
        have HQ : Hid (oneSigns.contains c = false) := by
          unfold Hid
          have h0 := HB.out
          have a0 := h0 0 (by omega)
          have a1 := h0 1 (by omega)
          have a2 := h0 2 (by omega)
          have a3 := h0 3 (by omega)
          have a4 := h0 4 (by omega)
          have a5 := h0 5 (by omega)
          have a6 := h0 6 (by omega)
          have a7 := h0 7 (by omega)
          have a8 := h0 8 (by omega)
          have a9 := h0 9 (by omega)
          simp only [oneSigns, List.getD_cons_zero, List.getD_cons_succ, beq_eq_false_iff_ne] at a0 a1 a2 a3 a4 a5 a6 a7 a8 a9
          simp only [oneSigns, List.contains_cons, List.contains_nil, Bool.or_eq_false_iff, beq_eq_false_iff_ne]
          exact ⟨Ne.symm a0, Ne.symm a1, Ne.symm a2, Ne.symm a3, Ne.symm a4, Ne.symm a5, Ne.symm a6, Ne.symm a7, Ne.symm a8, Ne.symm a9, trivial⟩
        go_wp2
        go_ret
        exact ⟨by rw [HV.out, HQ.out]; rfl, hnx⟩

end Go.Proofs.YtfklajkmikanbaaGreatDoor
