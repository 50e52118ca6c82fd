/- What the document's own tests of bytes and signs give. -/
import Derived.Test.YtgabeacpgmomhaaDoorLetters
import Derived.Test.YtgabeacpgmomhaaDoorTokPlain
import Derived.Test.YtgabeacpgmomhaaDoorChecked
import Derived.Lib.Hide
import Derived.BigQuiet
namespace Go.Proofs.YtgabeacpgmomhaaDoor
open Go.RowKit

set_option maxRecDepth 100000 in
set_option maxHeartbeats 2000000 in
theorem hex_any (c : UInt8) (w : World) : Calls Tryd.prog 47 #[.int .u8 (c.toNat : Int)] w (Plainly (.int .i64 (hexOf c)) w) := by
  have HD : Hid (∀ W : World, Calls Tryd.prog 33 #[.int .u8 (c.toNat : Int)] W (Plainly (.bool (digB c)) W)) := digit_any c
  have hlt := byte_lt c
  by_cases hd : digB c = true
  · have hv : hexOf c = (c.toNat : Int) - 48 := by unfold hexOf; rw [if_pos hd]
    have hb : 48 ≤ (c.toNat : Int) ∧ (c.toNat : Int) ≤ 57 := by simpa [digB] using hd
    rw [hv]
    rw [hd] at HD
    clear hv hd
    obtain ⟨h1, h2⟩ := hb
    have n1 : ((c.toNat : Int) - 48) % 256 = (c.toNat : Int) - 48 := by omega
    go_enter Tryd.func47, Tryd.ntmps47
    go_wp2_with fail
    refine (HD.out _).mono ?_
    rintro r w1 ⟨rfl, rfl⟩
    go_wp2
    go_ret
    exact ⟨by first | rfl | simp [n1], rfl⟩
  · have hdf : digB c = false := by simpa using hd
    rw [hdf] at HD
    by_cases ha : 97 ≤ (c.toNat : Int) ∧ (c.toNat : Int) ≤ 102
    · have hv : hexOf c = (c.toNat : Int) - 87 := by unfold hexOf; rw [if_neg hd, if_pos ha]
      rw [hv]
      clear hv hd hdf
      obtain ⟨h1, h2⟩ := ha
      have n1 : ((c.toNat : Int) - 97) % 256 = (c.toNat : Int) - 97 := by omega
      go_enter Tryd.func47, Tryd.ntmps47
      go_wp2_with fail
      refine (HD.out _).mono ?_
      rintro r w1 ⟨rfl, rfl⟩
      go_wp2
      go_ret
      refine ⟨?_, rfl⟩
      simp only [List.getElem?_toArray, Array.getD_eq_getD_getElem?, List.getElem?_cons_succ, List.getElem?_cons_zero, Option.getD_some]
      congr 2
      omega
    · by_cases hA : 65 ≤ (c.toNat : Int) ∧ (c.toNat : Int) ≤ 70
      · have hv : hexOf c = (c.toNat : Int) - 55 := by unfold hexOf; rw [if_neg hd, if_neg ha, if_pos hA]
        rw [hv]
        obtain ⟨h1, h2⟩ := hA
        have e1 : decide (97 ≤ (c.toNat : Int)) = false := decide_eq_false (by omega)
        have n1 : ((c.toNat : Int) - 65) % 256 = (c.toNat : Int) - 65 := by omega
        clear hv hd hdf ha
        go_enter Tryd.func47, Tryd.ntmps47
        go_wp2_with fail
        refine (HD.out _).mono ?_
        rintro r w1 ⟨rfl, rfl⟩
        go_wp2
        go_ret
        refine ⟨?_, rfl⟩
        simp only [List.getElem?_toArray, Array.getD_eq_getD_getElem?, List.getElem?_cons_succ, List.getElem?_cons_zero, Option.getD_some]
        congr 2
        omega
      · have hv : hexOf c = -1 := by unfold hexOf; rw [if_neg hd, if_neg ha, if_neg hA]
        rw [hv]
        clear hv hd hdf
        by_cases h1 : 97 ≤ (c.toNat : Int)
        · have e2 : decide ((c.toNat : Int) ≤ 102) = false := decide_eq_false (by omega)
          have e3 : 65 ≤ (c.toNat : Int) := by omega
          have e4 : decide ((c.toNat : Int) ≤ 70) = false := decide_eq_false (by omega)
          clear ha hA
          go_enter Tryd.func47, Tryd.ntmps47
          go_wp2_with fail
          refine (HD.out _).mono ?_
          rintro r w1 ⟨rfl, rfl⟩
          go_wp2
          go_ret
          exact ⟨rfl, rfl⟩
        · have e1 : decide (97 ≤ (c.toNat : Int)) = false := decide_eq_false h1
          by_cases h2 : 65 ≤ (c.toNat : Int)
          · have e4 : decide ((c.toNat : Int) ≤ 70) = false := decide_eq_false (by omega)
            clear ha hA
            go_enter Tryd.func47, Tryd.ntmps47
            go_wp2_with fail
            refine (HD.out _).mono ?_
            rintro r w1 ⟨rfl, rfl⟩
            go_wp2
            go_ret
            exact ⟨rfl, rfl⟩
          · have e3 : decide (65 ≤ (c.toNat : Int)) = false := decide_eq_false h2
            clear ha hA
            go_enter Tryd.func47, Tryd.ntmps47
            go_wp2_with fail
            refine (HD.out _).mono ?_
            rintro r w1 ⟨rfl, rfl⟩
            go_wp2
            go_ret
            exact ⟨rfl, rfl⟩

theorem begins_any (s t : ByteArray) (i : Nat) (w : World) (hi : i ≤ 1099511627776) (hs : s.size ≤ 1099511627776) (ht : t.size ≤ 1000) (ht1 : 1 ≤ t.size) :
    Calls Tryd.prog 31 #[.string s, .int .i64 i, .string t] w (Plainly (.bool (beginsL t.data.toList (s.data.toList.drop i))) w) := by
  have htl : t.data.toList.length = t.size := by rw [Array.length_toList]; rfl
  by_cases h : i + t.size ≤ s.size
  · have h1 : (i : Int) + (t.size : Int) ≤ (s.size : Int) := by omega
    have n1 : ((i : Int) + (t.size : Int)).toNat = i + t.size := by omega
    have n2 : (0 : Int) ≤ (i : Int) + (t.size : Int) := by omega
    have n3 : (i : Int) ≤ (i : Int) + (t.size : Int) := by omega
    have HE : Hid (((s.extract i (i + t.size)).toList == t.toList) = beginsL t.data.toList (s.data.toList.drop i)) := by
      unfold Hid beginsL
      rw [take_str, strOf_toList, ByteArray.toList_eq, Nat.add_sub_cancel_left, htl]
    go_enter Tryd.func31, Tryd.ntmps31
    go_wp2
    go_ret
    exact ⟨by rw [← HE.out]; rfl, rfl⟩
  · have h1 : ¬ (i : Int) + (t.size : Int) ≤ (s.size : Int) := by omega
    have h1' : decide ((i : Int) + (t.size : Int) ≤ (s.size : Int)) = false := decide_eq_false h1
    have hv : beginsL t.data.toList (s.data.toList.drop i) = false := by
      unfold beginsL
      rw [beq_eq_false_iff_ne]
      intro e
      have := congrArg List.length e
      rw [List.length_take, List.length_drop, htl, Array.length_toList] at this
      have hss : s.data.size = s.size := rfl
      omega
    rw [hv]
    clear hv h
    go_enter Tryd.func31, Tryd.ntmps31
    go_wp2
    go_ret
    exact ⟨rfl, rfl⟩

end Go.Proofs.YtgabeacpgmomhaaDoor
