/- What the landed checker must give; what the statements' own test of the document's example of chapter 4 then gives. -/
import Derived.Test.YtlghhnfpmekdnaaCheckRef
import Derived.Test.YtlghhnfpmekdnaaMacFace
namespace Go.Proofs.Ytlghhnfpmekdnaa
open Go.RowKit

/-- The landed code's contract. -/
structure ChkSays : Prop where
  check : ∀ (A : Option Addr) (n c : Nat) (l : List Ins) (w : World), Lies w w.heap.size 4 A n (cellsOf l) → n ≤ c → (∀ y ∈ l, y.Ok) → n ≤ 4398046511104 →
    Calls Try.prog 9 #[.slice A n c] w (IntBool (checkOf l) w)
  stored : ∀ (A : Option Addr) (n c : Nat) (l : List Ins) (w : World), Lies w w.heap.size 4 A n (cellsOf l) → n ≤ c → (∀ y ∈ l, y.Ok) → n ≤ 4398046511104 →
    Calls Try.prog 11 #[.slice A n c] w (NewInts (storedOf l).1 (storedOf l).2 w)

theorem check_nil : checkOf [] = (0, false) := by decide +kernel
theorem check_ret : checkOf [⟨6, 0, 0, 0⟩] = (-1, true) := by decide +kernel
theorem nil_ok : ∀ y ∈ ([] : List Ins), y.Ok := fun y hy => by cases hy
theorem ret_ok (k : Int) (hk : 0 ≤ k ∧ k ≤ 4294967295) : ∀ y ∈ ([⟨6, 0, 0, k⟩] : List Ins), y.Ok := by
  intro y hy
  obtain rfl : y = ⟨6, 0, 0, k⟩ := by simpa using hy
  exact ins_ok (by omega) (by omega) (by omega) hk

set_option maxRecDepth 100000 in
set_option maxHeartbeats 1000000 in
theorem calive_any (R : ChkSays) (w : World) : Calls Try.prog 8 #[] w fun e w' => e = .returned (.bool true) ∧ Below w.heap.size w w' := by
  go_enter Try.func8, Try.ntmps8
  go_wp2_with fail
  refine (R.check none 0 0 [] _ (Lies.empty _ _ _ _) (Nat.le_refl _) nil_ok (by omega)).mono ?_
  rw [check_nil]
  rintro r w1 ⟨rfl, hb1⟩
  go_wp2_with fail
  refine (R.check (some ⟨_, 0, none⟩) 1 1 [⟨6, 0, 0, 0⟩] _ (lies_new _ _ _ (by simp) rfl rfl) (Nat.le_refl _) (ret_ok 0 (by omega)) (by omega)).mono ?_
  rw [check_ret]
  rintro r w2 ⟨rfl, hb2⟩
  have hn2 := below_step (below_alloc hb1 (Nat.le_refl _) _) (Nat.le_refl _) hb2
  clear hb1 hb2
  go_wp2
  go_ret
  exact ⟨rfl, hn2⟩

end Go.Proofs.Ytlghhnfpmekdnaa
