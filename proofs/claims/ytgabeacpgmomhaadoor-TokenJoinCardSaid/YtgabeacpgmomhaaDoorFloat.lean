/- Plain facts on whole numbers as floats. -/
import Derived.Test.YtgabeacpgmomhaaDoorSpotRef
namespace Go.Proofs.YtgabeacpgmomhaaDoor
open Go.RowKit

theorem read_word (neg : Bool) (r : Nat) (h : r ≤ Ieee.double.infRung) : (∃ m i, Ieee.double.read (Ieee.double.word neg r) = .number neg m i) ∨ Ieee.double.read (Ieee.double.word neg r) = .infinity neg := by
  have e1 : Ieee.double.signWeight = 9223372036854775808 := by decide
  have e2 : Ieee.double.infRung = 9218868437227405312 := by decide
  have e3 : Ieee.double.binade = 4503599627370496 := by decide
  rw [e2] at h
  have hw : Ieee.double.word neg r / 9223372036854775808 % 2 = neg.toNat ∧ Ieee.double.word neg r % 9223372036854775808 = r := by
    unfold Ieee.Format.word
    rw [e1]
    cases neg <;> simp <;> omega
  have hn : (Ieee.double.word neg r / 9223372036854775808 % 2 == 1) = neg := by rw [hw.1]; cases neg <;> rfl
  unfold Ieee.Format.read
  rw [e1, e2, e3, hn, hw.2]
  simp only
  split
  · exact .inl ⟨_, _, rfl⟩
  · split
    · exact .inl ⟨_, _, rfl⟩
    · rw [if_pos (by omega)]
      exact .inr rfl

theorem order_refl (d : Ieee.Datum) (h : (∃ s m i, d = .number s m i) ∨ ∃ s, d = .infinity s) : d.order d = some .eq := by
  rcases h with ⟨s, m, i, rfl⟩ | ⟨s, rfl⟩
  · simp [Ieee.Datum.order]
  · simp [Ieee.Datum.order]

theorem feq_refl (n : Int) : feq (fl n) (fl n) = true := by
  have hr : ∃ neg r, fl n = Ieee.double.word neg r ∧ r ≤ Ieee.double.infRung := by
    show ∃ neg r, Ieee.double.write (.number (n < 0) n.natAbs 0) = Ieee.double.word neg r ∧ r ≤ Ieee.double.infRung
    unfold Ieee.Format.write Ieee.Format.nearest
    simp only
    split
    · exact ⟨_, _, rfl, Nat.zero_le _⟩
    · exact ⟨_, _, rfl, Nat.min_le_right _ _⟩
  obtain ⟨neg, r, e, hle⟩ := hr
  have ho : Ieee.double.order (fl n) (fl n) = some .eq := by
    unfold Ieee.Format.order
    refine order_refl _ ?_
    rw [e]
    rcases read_word neg r hle with ⟨m, i, h⟩ | h
    · exact .inl ⟨_, _, _, h⟩
    · exact .inr ⟨_, h⟩
  show (Ieee.double.order (fl n) (fl n) == some .eq) = true
  rw [ho]
  rfl

end Go.Proofs.YtgabeacpgmomhaaDoor
