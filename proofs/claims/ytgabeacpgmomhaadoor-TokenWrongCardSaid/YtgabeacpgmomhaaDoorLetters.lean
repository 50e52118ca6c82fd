/- What the document's own tests of letters and digits give. -/
import Derived.Test.YtgabeacpgmomhaaDoorTokPlain
import Derived.Test.YtgabeacpgmomhaaDoorChecked
import Derived.Lib.Hide
import Derived.BigQuiet
namespace Go.Proofs.YtgabeacpgmomhaaDoor
open Go.RowKit

/-- A value, and nothing turns. -/
def Plainly (v : Value) (w : World) : Ending → World → Prop := fun r w' => r = .returned v ∧ w = w'
/-- A value; the memory stands. -/
def Quietly (v : Value) (w : World) : Ending → World → Prop := fun r w' => r = .returned v ∧ Below w.heap.size w w'
theorem to_quiet {P : Program} {f : Nat} {vs : Array Value} {v : Value} {w : World} (h : Calls P f vs w (Plainly v w)) : Calls P f vs w (Quietly v w) := h.mono fun _ _ ⟨h1, h2⟩ => ⟨h1, h2 ▸ Below.refl _ _⟩

theorem digit_any (c : UInt8) (w : World) : Calls Tryd.prog 33 #[.int .u8 (c.toNat : Int)] w (Plainly (.bool (digB c)) w) := by
  cases h0 : decide (48 ≤ (c.toNat : Int))
  · have e0 : ¬ 48 ≤ (c.toNat : Int) := of_decide_eq_false h0
    go_enter Tryd.func33, Tryd.ntmps33
    go_wp2
    go_ret
    exact ⟨by rw [digB, h0]; rfl, rfl⟩
  · have e0 : 48 ≤ (c.toNat : Int) := of_decide_eq_true h0
    go_enter Tryd.func33, Tryd.ntmps33
    go_wp2
    go_ret
    exact ⟨by rw [digB, h0]; rfl, rfl⟩

set_option maxRecDepth 100000 in
set_option maxHeartbeats 2000000 in
theorem letter_any (c : UInt8) (w : World) : Calls Tryd.prog 32 #[.int .u8 (c.toNat : Int)] w (Plainly (.bool (letterB c)) w) := by
  by_cases h : letterB c = true
  · rw [h]
    have hp : (97 ≤ (c.toNat : Int) ∧ (c.toNat : Int) ≤ 122) ∨ (65 ≤ (c.toNat : Int) ∧ (c.toNat : Int) ≤ 90) ∨ (c.toNat : Int) = 95 := by
      simpa [letterB] using h
    clear h
    obtain ⟨n, hn⟩ : ∃ n : Int, n = (c.toNat : Int) := ⟨_, rfl⟩
    rw [← hn] at hp ⊢
    clear hn
    rcases hp with ⟨h1, h2⟩ | ⟨h1, h2⟩ | h1
    · go_enter Tryd.func32, Tryd.ntmps32
      go_wp2
      go_ret
      exact ⟨rfl, rfl⟩
    · have e1 : decide (97 ≤ n) = false := decide_eq_false (by omega)
      go_enter Tryd.func32, Tryd.ntmps32
      go_wp2
      go_ret
      exact ⟨rfl, rfl⟩
    · subst h1
      go_enter Tryd.func32, Tryd.ntmps32
      go_wp2
      go_ret
      exact ⟨rfl, rfl⟩
  · have hf : letterB c = false := by simpa using h
    rw [hf]
    have hp : ¬ ((97 ≤ (c.toNat : Int) ∧ (c.toNat : Int) ≤ 122) ∨ (65 ≤ (c.toNat : Int) ∧ (c.toNat : Int) ≤ 90) ∨ (c.toNat : Int) = 95) := by
      intro hp
      refine h ?_
      simpa [letterB] using hp
    clear h hf
    obtain ⟨n, hn⟩ : ∃ n : Int, n = (c.toNat : Int) := ⟨_, rfl⟩
    rw [← hn] at hp ⊢
    clear hn
    have b5 : (n == 95) = false := by rw [beq_eq_false_iff_ne]; omega
    by_cases h1 : 97 ≤ n
    · have e2 : decide (n ≤ 122) = false := decide_eq_false (by omega)
      have e3 : 65 ≤ n := by omega
      have e4 : decide (n ≤ 90) = false := decide_eq_false (by omega)
      clear hp
      go_enter Tryd.func32, Tryd.ntmps32
      go_wp2
      go_ret
      exact ⟨rfl, rfl⟩
    · have e1 : decide (97 ≤ n) = false := decide_eq_false h1
      by_cases h2 : 65 ≤ n
      · have e4 : decide (n ≤ 90) = false := decide_eq_false (by omega)
        clear hp
        go_enter Tryd.func32, Tryd.ntmps32
        go_wp2
        go_ret
        exact ⟨rfl, rfl⟩
      · have e3 : decide (65 ≤ n) = false := decide_eq_false h2
        clear hp
        go_enter Tryd.func32, Tryd.ntmps32
        go_wp2
        go_ret
        exact ⟨rfl, rfl⟩

end Go.Proofs.YtgabeacpgmomhaaDoor
