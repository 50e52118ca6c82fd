/- What package spot's Behind gives. -/
import Derived.Test.YtgabeacpgmomhaaDoorLineLib
import Derived.Test.YtgabeacpgmomhaaDoorFloatSub
namespace Go.Proofs.YtgabeacpgmomhaaDoor
open Go.RowKit

set_option maxRecDepth 100000 in
set_option maxHeartbeats 1000000 in
theorem behind_any (p : Nat × Nat) (s : ByteArray) (w : World) (hs : s.size ≤ 1099511627776) (p1 : 1 ≤ p.1) (p2 : p.1 ≤ 1099511627776) (p3 : 1 ≤ p.2) (p4 : p.2 ≤ 1099511627776) :
    Calls Tryd.prog 15 #[fcx p, .string s] w fun e w' => e = .returned (fcx (posFrom p s.data.toList)) ∧ w = w' := by
  have hz : s.data.toList.length = s.size := by simp
  obtain ⟨P, hP⟩ : ∃ P, P = posFrom p s.data.toList := ⟨_, rfl⟩
  obtain ⟨N, hN⟩ : ∃ N, N = s.data.toList.count 10 := ⟨_, rfl⟩
  have HN : Hid (∀ W : World, Calls Tryd.prog 30 #[.string s, .string ⟨#[10]⟩] W fun e w' => e = .returned (.int .i64 (N : Nat)) ∧ W = w') := fun W => by rw [hN]; exact count_any s W
  have hNle : N ≤ s.size := by rw [hN, ← hz]; exact List.count_le_length
  rw [← hP]
  unfold fcx
  have HL := Lib.hid (last_any s w hs)
  have HK : Hid (∀ r : Int, LastIs s.data.toList r → (r = -1 ∧ P.1 = p.1 ∧ Ieee.double.add (fl (p.2 : Int)) (fl (s.size : Int)) = some (fl (P.2 : Int))) ∨ (∃ a : Nat, r = (a : Int) ∧ a < s.size ∧ ((s.size : Int) - (a : Int)) = (P.2 : Int) ∧ Ieee.double.add (fl (p.1 : Int)) (fl (N : Int)) = some (fl (P.1 : Int)))) := by
    rintro r (⟨rfl, hno⟩ | ⟨a, b, e, hno, rfl⟩)
    · have e := pos_none _ p hno
      rw [← hP, hz] at e
      refine .inl ⟨rfl, by rw [e], ?_⟩
      rw [e]
      simp only
      by_cases h0 : s.size = 0
      · rw [h0]
        exact add_flz _ p3 (by omega)
      · exact add_fl _ _ p3 (by omega) (by omega)
    · have e1 := pos_nl p a b hno
      rw [← e, ← hP] at e1
      have e2 := pos_line s.data.toList p
      rw [← hP, ← hN] at e2
      have hl : a.length + (b.length + 1) = s.size := by rw [← hz, e]; simp
      have hc : 1 ≤ N := by
        rw [hN, e]
        simp only [List.count_append, List.count_cons_self]
        omega
      refine .inr ⟨a.length, rfl, by omega, by rw [e1]; simp only; omega, ?_⟩
      rw [e2]
      exact add_fl _ _ p1 hc (by omega)
  clear hP hN hz
  go_enter Tryd.func15, Tryd.ntmps15
  go_wp2_with fail
  refine (HL.out).mono ?_
  rintro r w1 ⟨k, rfl, hk, rfl⟩
  rcases HK.out k hk with ⟨rfl, e1, e2⟩ | ⟨a, rfl, ha, e1, e2⟩
  · have a1 : ∀ W : World, (binOp .add 38 (.float .f64 (fl (p.2 : Int))) (.float .f64 (floatOfInt .f64 (s.size : Int)))).run Tryd.prog W = .ok (.float .f64 (fl (P.2 : Int))) W := fun W => run_float_arith W .add _ .f64 _ _ _ e2
    have E1 := Lib.hid e1
    clear hk e1 e2
    go_wp2
    go_ret
    exact ⟨by rw [E1.out]; rfl, rfl⟩
  · have a1 : ∀ W : World, (binOp .add 38 (.float .f64 (fl (p.1 : Int))) (.float .f64 (floatOfInt .f64 (N : Int)))).run Tryd.prog W = .ok (.float .f64 (fl (P.1 : Int))) W := fun W => run_float_arith W .add _ .f64 _ _ _ e2
    have E1 := Lib.hid e1
    clear hk e1 e2
    go_wp2_with fail
    refine (HN.out _).mono ?_
    rintro r w2 ⟨rfl, rfl⟩
    go_wp2
    go_ret
    exact ⟨by rw [← E1.out]; rfl, rfl⟩

end Go.Proofs.YtgabeacpgmomhaaDoor
