/- Texts of mine put together (a claim has at most so many files): Behind, SpotAt. -/
import Derived.Test.YtdjhpgpekomjeaaDoorLineLib
import Derived.Test.YtdjhpgpekomjeaaDoorPart11
/- What package spot's Behind gives. -/
namespace Go.Proofs.YtdjhpgpekomjeaaDoor
open Go.RowKit

set_option maxRecDepth 100000 in
set_option maxHeartbeats 1000000 in
theorem behind_any (p : Nat × Nat) (s : ByteArray) (w : World) (hs : s.size ≤ 1099511627776) (p1 : 1 ≤ p.1) (p2 : p.1 ≤ 1099511627776) (p3 : 1 ≤ p.2) (p4 : p.2 ≤ 1099511627776) :
    Calls Tryd.prog 25 #[fcx p, .string s] w fun e w' => e = .returned (fcx (posFrom p s.data.toList)) ∧ w = w' := by
  have hz : s.data.toList.length = s.size := by simp
  obtain ⟨P, hP⟩ : ∃ P, P = posFrom p s.data.toList := ⟨_, rfl⟩
  obtain ⟨N, hN⟩ : ∃ N, N = s.data.toList.count 10 := ⟨_, rfl⟩
  have HN : Hid (∀ W : World, Calls Tryd.prog 41 #[.string s, .string ⟨#[10]⟩] W fun e w' => e = .returned (.int .i64 (N : Nat)) ∧ W = w') := fun W => by rw [hN]; exact count_any s W
  have hNle : N ≤ s.size := by rw [hN, ← hz]; exact List.count_le_length
  rw [← hP]
  unfold fcx
  have HL := Lib.hid (last_any s w hs)
  have HK : Hid (∀ r : Int, LastIs s.data.toList r → (r = -1 ∧ P.1 = p.1 ∧ Ieee.double.add (fl (p.2 : Int)) (fl (s.size : Int)) = some (fl (P.2 : Int))) ∨ (∃ a : Nat, r = (a : Int) ∧ a < s.size ∧ ((s.size : Int) - (a : Int)) = (P.2 : Int) ∧ Ieee.double.add (fl (p.1 : Int)) (fl (N : Int)) = some (fl (P.1 : Int)))) := by
    rintro r (⟨rfl, hno⟩ | ⟨a, b, e, hno, rfl⟩)
    · have e := pos_none _ p hno
      rw [← hP, hz] at e
      refine .inl ⟨rfl, by rw [e], ?_⟩
      rw [e]
      simp only
      by_cases h0 : s.size = 0
      · rw [h0]
        exact add_flz _ p3 (by omega)
      · exact add_fl _ _ p3 (by omega) (by omega)
    · have e1 := pos_nl p a b hno
      rw [← e, ← hP] at e1
      have e2 := pos_line s.data.toList p
      rw [← hP, ← hN] at e2
      have hl : a.length + (b.length + 1) = s.size := by rw [← hz, e]; simp
      have hc : 1 ≤ N := by
        rw [hN, e]
        simp only [List.count_append, List.count_cons_self]
        omega
      refine .inr ⟨a.length, rfl, by omega, by rw [e1]; simp only; omega, ?_⟩
      rw [e2]
      exact add_fl _ _ p1 hc (by omega)
  clear hP hN hz
  go_enter Tryd.func25, Tryd.ntmps25
  go_wp2_with fail
  refine (HL.out).mono ?_
  rintro r w1 ⟨k, rfl, hk, rfl⟩
  rcases HK.out k hk with ⟨rfl, e1, e2⟩ | ⟨a, rfl, ha, e1, e2⟩
  · have a1 : ∀ W : World, (binOp .add 80 (.float .f64 (fl (p.2 : Int))) (.float .f64 (floatOfInt .f64 (s.size : Int)))).run Tryd.prog W = .ok (.float .f64 (fl (P.2 : Int))) W := fun W => run_float_arith W .add _ .f64 _ _ _ e2
    have E1 := Lib.hid e1
    clear hk e1 e2
    go_wp2
    go_ret
    exact ⟨by rw [E1.out]; rfl, rfl⟩
  · have a1 : ∀ W : World, (binOp .add 80 (.float .f64 (fl (p.1 : Int))) (.float .f64 (floatOfInt .f64 (N : Int)))).run Tryd.prog W = .ok (.float .f64 (fl (P.1 : Int))) W := fun W => run_float_arith W .add _ .f64 _ _ _ e2
    have E1 := Lib.hid e1
    clear hk e1 e2
    go_wp2_with fail
    refine (HN.out _).mono ?_
    rintro r w2 ⟨rfl, rfl⟩
    go_wp2
    go_ret
    exact ⟨by rw [← E1.out]; rfl, rfl⟩

end Go.Proofs.YtdjhpgpekomjeaaDoor

/- What package spot's At gives. -/
namespace Go.Proofs.YtdjhpgpekomjeaaDoor
open Go.RowKit

set_option maxRecDepth 100000 in
set_option maxHeartbeats 1000000 in
theorem at_any (s : ByteArray) (i : Int) (w : World) (hs : s.size ≤ 1099511627776) (i0 : -9223372036854775808 ≤ i) (i1 : i ≤ 9223372036854775807) :
    Calls Tryd.prog 22 #[.string s, .int .i64 i] w fun e w' => e = .returned (fcx (posAt s.data.toList i)) ∧ w = w' := by
  have hz : s.data.toList.length = s.size := by simp
  obtain ⟨P, hP⟩ : ∃ P, P = posAt s.data.toList i := ⟨_, rfl⟩
  rw [← hP]
  have HB : Hid (∀ k : Nat, k = cutTo s.size i → k ≤ s.size → ∀ W : World, Calls Tryd.prog 25 #[.complex .f64 4607182418800017408 4607182418800017408, .string (s.extract 0 k)] W fun e w' => e = .returned (fcx P) ∧ W = w') := fun k hk hle W => by
    have h := behind_any (1, 1) (s.extract 0 k) W (by simp; omega) (by decide) (by decide) (by decide) (by decide)
    have e : posFrom (1, 1) (s.extract 0 k).data.toList = P := by
      rw [Go.Lib.extract_data, hP]
      unfold posAt
      rw [hz, ← hk]
      simp
    rw [e] at h
    unfold fcx at h ⊢
    rw [show (((1, 1) : Nat × Nat).1 : Int) = 1 from rfl, fl1] at h
    exact h
  clear hP hz
  by_cases c1 : i < 0
  · have H := Lib.hid (HB.out 0 (by unfold cutTo; rw [if_pos c1]) (Nat.zero_le _))
    rw [show s.extract 0 0 = ByteArray.empty from by simp] at H
    clear HB
    go_enter Tryd.func22, Tryd.ntmps22
    go_wp2_with fail
    refine (H.out _).mono ?_
    rintro r w1 ⟨rfl, rfl⟩
    go_wp2
    go_ret
    exact ⟨rfl, rfl⟩
  · by_cases c2 : (s.size : Int) < i
    · have H := Lib.hid (HB.out s.size (by unfold cutTo; rw [if_neg c1, if_pos c2]) (Nat.le_refl _))
      rw [show s.extract 0 s.size = s from by simp] at H
      clear HB
      go_enter Tryd.func22, Tryd.ntmps22
      go_wp2_with fail
      refine (H.out _).mono ?_
      rintro r w1 ⟨rfl, rfl⟩
      go_wp2
      go_ret
      exact ⟨rfl, rfl⟩
    · obtain ⟨n, rfl⟩ := Int.eq_ofNat_of_zero_le (show 0 ≤ i by omega)
      have H := Lib.hid (HB.out n (by unfold cutTo; rw [if_neg c1, if_neg c2, Int.toNat_natCast]) (by omega))
      clear HB
      go_enter Tryd.func22, Tryd.ntmps22
      go_wp2_with fail
      refine (H.out _).mono ?_
      rintro r w1 ⟨rfl, rfl⟩
      go_wp2
      go_ret
      exact ⟨rfl, rfl⟩

end Go.Proofs.YtdjhpgpekomjeaaDoor
