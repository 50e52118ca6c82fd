/- What package spot's At gives. -/
import Derived.Test.YtgabeacpgmomhaaDoorBehind
namespace Go.Proofs.YtgabeacpgmomhaaDoor
open Go.RowKit

set_option maxRecDepth 100000 in
set_option maxHeartbeats 1000000 in
theorem at_any (s : ByteArray) (i : Int) (w : World) (hs : s.size ≤ 1099511627776) (i0 : -9223372036854775808 ≤ i) (i1 : i ≤ 9223372036854775807) :
    Calls Tryd.prog 12 #[.string s, .int .i64 i] w fun e w' => e = .returned (fcx (posAt s.data.toList i)) ∧ w = w' := by
  have hz : s.data.toList.length = s.size := by simp
  obtain ⟨P, hP⟩ : ∃ P, P = posAt s.data.toList i := ⟨_, rfl⟩
  rw [← hP]
  have HB : Hid (∀ k : Nat, k = cutTo s.size i → k ≤ s.size → ∀ W : World, Calls Tryd.prog 15 #[.complex .f64 4607182418800017408 4607182418800017408, .string (s.extract 0 k)] W fun e w' => e = .returned (fcx P) ∧ W = w') := fun k hk hle W => by
    have h := behind_any (1, 1) (s.extract 0 k) W (by simp; omega) (by decide) (by decide) (by decide) (by decide)
    have e : posFrom (1, 1) (s.extract 0 k).data.toList = P := by
      rw [Go.Lib.extract_data, hP]
      unfold posAt
      rw [hz, ← hk]
      simp
    rw [e] at h
    unfold fcx at h ⊢
    rw [show (((1, 1) : Nat × Nat).1 : Int) = 1 from rfl, fl1] at h
    exact h
  clear hP hz
  by_cases c1 : i < 0
  · have H := Lib.hid (HB.out 0 (by unfold cutTo; rw [if_pos c1]) (Nat.zero_le _))
    rw [show s.extract 0 0 = ByteArray.empty from by simp] at H
    clear HB
    go_enter Tryd.func12, Tryd.ntmps12
    go_wp2_with fail
    refine (H.out _).mono ?_
    rintro r w1 ⟨rfl, rfl⟩
    go_wp2
    go_ret
    exact ⟨rfl, rfl⟩
  · by_cases c2 : (s.size : Int) < i
    · have H := Lib.hid (HB.out s.size (by unfold cutTo; rw [if_neg c1, if_pos c2]) (Nat.le_refl _))
      rw [show s.extract 0 s.size = s from by simp] at H
      clear HB
      go_enter Tryd.func12, Tryd.ntmps12
      go_wp2_with fail
      refine (H.out _).mono ?_
      rintro r w1 ⟨rfl, rfl⟩
      go_wp2
      go_ret
      exact ⟨rfl, rfl⟩
    · obtain ⟨n, rfl⟩ := Int.eq_ofNat_of_zero_le (show 0 ≤ i by omega)
      have H := Lib.hid (HB.out n (by unfold cutTo; rw [if_neg c1, if_neg c2, Int.toNat_natCast]) (by omega))
      clear HB
      go_enter Tryd.func12, Tryd.ntmps12
      go_wp2_with fail
      refine (H.out _).mono ?_
      rintro r w1 ⟨rfl, rfl⟩
      go_wp2
      go_ret
      exact ⟨rfl, rfl⟩

end Go.Proofs.YtgabeacpgmomhaaDoor
