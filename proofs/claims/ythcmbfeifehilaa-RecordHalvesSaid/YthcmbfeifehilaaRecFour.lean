/- What the landed code's four and eight give. -/
import Derived.Test.YthcmbfeifehilaaRecWord
import Derived.Test.YthcmbfeifehilaaRefData
namespace Go.Proofs.Ythcmbfeifehilaa
open Go.RowKit

theorem take4 (l : List UInt8) (p : Nat) (h : p + 4 ≤ l.length) : (l.drop p).take 4 = [l.getD p 0, l.getD (p + 1) 0, l.getD (p + 2) 0, l.getD (p + 3) 0] := by
  have h0 := seg_drop l p 4 0 (by omega) h
  have h1 := seg_drop l p 4 1 (by omega) h
  have h2 := seg_drop l p 4 2 (by omega) h
  have h3 := seg_drop l p 4 3 (by omega) h
  have h4 : ((l.drop p).take 4).drop (3 + 1) = [] := List.drop_of_length_le (by simp; omega)
  rw [List.drop_zero] at h0
  rw [h0, h1, h2, h3, h4]
  rfl

theorem leVal_append : ∀ a b : List UInt8, leVal (a ++ b) = leVal a + leVal b * 256 ^ a.length
  | [], b => by simp [leVal]
  | x :: a, b => by
    rw [List.cons_append, leVal, leVal, leVal_append a b, List.length_cons, Int.pow_succ, Int.add_mul, Int.mul_assoc]
    omega

theorem seg8 (l : List UInt8) (p : Nat) (h : p + 8 ≤ l.length) : seg l p 8 = seg l p 4 + seg l (p + 4) 4 * 4294967296 := by
  unfold seg
  rw [show (8 : Nat) = 4 + 4 from rfl, List.take_add, leVal_append, List.drop_drop]
  have e : (List.take 4 (List.drop p l)).length = 4 := by simp; omega
  rw [e]
  rfl

set_option maxRecDepth 100000 in
set_option maxHeartbeats 1000000 in
theorem four_any (b o n c : Nat) (l : List UInt8) (p : Nat) (w : World) (hn : 4 ≤ n) (hp : p + 4 ≤ l.length) (hc : ∀ j, j < 4 → w.cell? ⟨b, o + j, none⟩ = some (byteV (l.getD (p + j) 0))) :
    Calls Try.prog 13 #[.slice (some ⟨b, o, none⟩) n c] w fun r w' => r = .returned (.int .u32 (seg l p 4)) ∧ ∃ m, w' = w.drewN m := by
  have e0 := hc 0 (by omega)
  have e1 := hc 1 (by omega)
  have e2 := hc 2 (by omega)
  have e3 := hc 3 (by omega)
  have hv : seg l p 4 = ((l.getD p 0).toNat : Int) + (l.getD (p + 1) 0).toNat * 256 + (l.getD (p + 2) 0).toNat * 65536 + (l.getD (p + 3) 0).toNat * 16777216 := by
    unfold seg
    rw [take4 l p hp]
    simp only [leVal]
    omega
  rw [hv]
  clear hv hc
  unfold byteV at *
  rw [Nat.add_zero, Nat.add_zero] at e0
  generalize l.getD p 0 = x0 at *
  generalize l.getD (p + 1) 0 = x1 at *
  generalize l.getD (p + 2) 0 = x2 at *
  generalize l.getD (p + 3) 0 = x3 at *
  have n0 : (0 : Int) < (n : Int) := by omega
  have n1 : (1 : Int) < (n : Int) := by omega
  have n2 : (2 : Int) < (n : Int) := by omega
  have n3 : (3 : Int) < (n : Int) := by omega
  go_enter Try.func13, Try.ntmps13
  go_wp2
  go_quiet (fail)
  go_wp2
  simp only [kay_of]
  go_ret
  exact ⟨rfl, _, rfl⟩

theorem or_low_high (x y : Int) (x0 : 0 ≤ x) (x1 : x < 4294967296) (y0 : 0 ≤ y) (y1 : y < 4294967296) : bits .or .u64 x (y * 4294967296) = x + y * 4294967296 := by
  obtain ⟨n, rfl⟩ := Int.eq_ofNat_of_zero_le x0
  obtain ⟨m, rfl⟩ := Int.eq_ofNat_of_zero_le y0
  rw [show (m : Int) * 4294967296 = ((m * 2 ^ 32 : Nat) : Int) from by omega, or_u64 _ _ (by omega) (by omega), or_add _ _ 32 (by omega)]
  omega

set_option maxRecDepth 100000 in
set_option maxHeartbeats 1000000 in
theorem eight_any (b o n c : Nat) (l : List UInt8) (p : Nat) (w : World) (hn : 8 ≤ n) (hnc : n ≤ c) (hp : p + 8 ≤ l.length) (hc : ∀ j, j < 8 → w.cell? ⟨b, o + j, none⟩ = some (byteV (l.getD (p + j) 0))) :
    Calls Try.prog 14 #[.slice (some ⟨b, o, none⟩) n c] w fun r w' => r = .returned (.int .u64 (seg l p 8)) ∧ ∃ m, w' = w.drewN m := by
  have hs0 := seg4 l p
  have hs1 := seg4 l (p + 4)
  have hor := or_low_high (seg l p 4) (seg l (p + 4) 4) hs0.1 hs0.2 hs1.1 hs1.2
  rw [seg8 l p hp]
  have H0 : Hid (∀ m : Nat, Calls Try.prog 13 #[.slice (some ⟨b, o, none⟩) n c] (w.drewN m) fun r w' => r = .returned (.int .u32 (seg l p 4)) ∧ ∃ k, w' = (w.drewN m).drewN k) :=
    fun m => four_any b o n c l p _ (by omega) (by omega) (fun j hj => hc j (by omega))
  have H1 : Hid (∀ (m n' c' : Nat), 4 ≤ n' → Calls Try.prog 13 #[.slice (some ⟨b, o + 4, none⟩) n' c'] (w.drewN m) fun r w' => r = .returned (.int .u32 (seg l (p + 4) 4)) ∧ ∃ k, w' = (w.drewN m).drewN k) :=
    fun m n' c' hn' => four_any b (o + 4) n' c' l (p + 4) _ hn' (by omega) (fun j hj => by
      have := hc (4 + j) (by omega)
      rwa [← Nat.add_assoc, ← Nat.add_assoc] at this)
  obtain ⟨⟨x0, x1⟩, y0, y1⟩ := And.intro hs0 hs1
  generalize seg l p 4 = x at *
  generalize seg l (p + 4) 4 = y at *
  have n4 : (4 : Int) ≤ (n : Int) := by omega
  have n5 : (4 : Int) < (c : Int) := by omega
  clear hc hs0 hs1
  go_enter Try.func14, Try.ntmps14
  go_wp2
  go_quiet ((first
    | (go_at_call_of 13 (Value.slice (some ⟨b, o, none⟩) n c); exact Calls.quiet_of (H0.out _))
    | (go_at_call 13; exact Calls.quiet_of (H1.out _ _ _ (by omega)))))
  go_wp2
  go_ret
  exact ⟨rfl, _, rfl⟩

end Go.Proofs.Ythcmbfeifehilaa
