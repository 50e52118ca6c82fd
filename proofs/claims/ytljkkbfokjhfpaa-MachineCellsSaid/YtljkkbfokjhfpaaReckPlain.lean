/- Short filters run by the document's machine: plain facts. -/
import Derived.Test.YtljkkbfokjhfpaaMacSays
namespace Go.Proofs.Ytljkkbfokjhfpaa
open Go.RowKit

/-- A run of short filters: step by step. -/
theorem run_start {l : List Ins} {d : Dat} : runFrom l d (4096 - 0) 0 0 Mac.zero = runOf l d := rfl

def reck1 (c a b : Int) : List Ins := [⟨0, 0, 0, a⟩, ⟨c, 0, 0, b⟩, ⟨22, 0, 0, 0⟩]
def reck2 (c a b : Int) : List Ins := [⟨0, 0, 0, b⟩, ⟨7, 0, 0, 0⟩, ⟨0, 0, 0, a⟩, ⟨c, 0, 0, 0⟩, ⟨22, 0, 0, 0⟩]
/-- A code that reckons, with a number of the filter, of X. -/
def kCode (c : Int) : Prop := isAlu c = true ∧ c % 16 < 8 ∧ c ≠ 6 ∧ c ≠ 22 ∧ c ≠ 5 ∧ isJump c = false
def xCode (c : Int) : Prop := isAlu c = true ∧ ¬ c % 16 < 8 ∧ c ≠ 6 ∧ c ≠ 22 ∧ c ≠ 5 ∧ isJump c = false

theorem step_alu {l : List Ins} {d : Dat} {p : Nat} {s : Mac} {x : Ins} (hx : l[p]? = some x) (h : isAlu x.code = true ∧ x.code ≠ 6 ∧ x.code ≠ 22 ∧ x.code ≠ 5 ∧ isJump x.code = false) (hn : ¬ ((x.code = 52 ∨ x.code = 60) ∧ other s x.code x.k = 0)) :
    stepOf l d p s = .inr (p + 1, { s with a := aluOf x.code s.a (other s x.code x.k) }) := by
  obtain ⟨h1, h3, h4, h5, h6⟩ := h
  have e : plainOf s x.code x.k d = ({ s with a := aluOf x.code s.a (other s x.code x.k) }, true, false) := by
    unfold plainOf
    rw [if_pos h1, if_neg hn]
  unfold stepOf
  rw [hx]
  simp [h3, h4, h5, h6, e]

theorem step_none {l : List Ins} {d : Dat} {p : Nat} {s : Mac} {x : Ins} (hx : l[p]? = some x) (h : isAlu x.code = true ∧ x.code ≠ 6 ∧ x.code ≠ 22 ∧ x.code ≠ 5 ∧ isJump x.code = false) (hn : (x.code = 52 ∨ x.code = 60) ∧ other s x.code x.k = 0) :
    stepOf l d p s = if x.code = 60 then .inl (0, 1, true) else .inl (0, 0, false) := by
  obtain ⟨h1, h3, h4, h5, h6⟩ := h
  have e : plainOf s x.code x.k d = (s, false, x.code == 60) := by
    unfold plainOf
    rw [if_pos h1, if_pos hn]
  unfold stepOf
  rw [hx]
  simp [h3, h4, h5, h6, e]

theorem reck1_run (c a b : Int) (d : Dat) (hc : kCode c) (hn : ¬ ((c = 52 ∨ c = 60) ∧ b = 0)) : runOf (reck1 c a b) d = (aluOf c a b, 3, true) := by
  obtain ⟨h1, h2, h3, h4, h5, h6⟩ := hc
  have ho : other { Mac.zero with a := a } c b = b := by unfold other; rw [if_pos h2]
  have r1 := run_on (run_start (l := reck1 c a b) (d := d)) (by omega) (q := 1) (t := { Mac.zero with a := a }) rfl
  have r2 := run_on r1 (by omega) (step_alu (x := ⟨c, 0, 0, b⟩) rfl ⟨h1, h3, h4, h5, h6⟩ (by rw [ho]; exact hn))
  have r3 := run_end r2 (v := aluOf c a (other { Mac.zero with a := a } c b)) (e := 1) (ok := true) (by omega) rfl
  rw [r3, ho]

theorem reck2_run (c a b : Int) (d : Dat) (hc : xCode c) (hn : ¬ ((c = 52 ∨ c = 60) ∧ b = 0)) : runOf (reck2 c a b) d = (aluOf c a b, 5, true) := by
  obtain ⟨h1, h2, h3, h4, h5, h6⟩ := hc
  have ho : other ⟨a, b, List.replicate 16 0⟩ c 0 = b := by unfold other; rw [if_neg h2]
  have r1 := run_on (run_start (l := reck2 c a b) (d := d)) (by omega) (q := 1) (t := ⟨b, 0, List.replicate 16 0⟩) rfl
  have r2 := run_on r1 (by omega) (q := 2) (t := ⟨b, b, List.replicate 16 0⟩) rfl
  have r3 := run_on r2 (by omega) (q := 3) (t := ⟨a, b, List.replicate 16 0⟩) rfl
  have r4 := run_on r3 (by omega) (step_alu (x := ⟨c, 0, 0, 0⟩) rfl ⟨h1, h3, h4, h5, h6⟩ (by rw [ho]; exact hn))
  have r5 := run_end r4 (v := aluOf c a (other ⟨a, b, List.replicate 16 0⟩ c 0)) (e := 1) (ok := true) (by omega) rfl
  rw [r5, ho]

theorem reck1_none (a : Int) (d : Dat) : runOf (reck1 52 a 0) d = (0, 1, false) := by
  have r1 := run_on (run_start (l := reck1 52 a 0) (d := d)) (by omega) (q := 1) (t := { Mac.zero with a := a }) rfl
  exact run_end r1 (v := 0) (e := 0) (ok := false) (by omega) rfl

theorem reck2_none (a : Int) (d : Dat) : runOf (reck2 60 a 0) d = (0, 4, true) := by
  have r1 := run_on (run_start (l := reck2 60 a 0) (d := d)) (by omega) (q := 1) (t := ⟨0, 0, List.replicate 16 0⟩) rfl
  have r2 := run_on r1 (by omega) (q := 2) (t := ⟨0, 0, List.replicate 16 0⟩) rfl
  have r3 := run_on r2 (by omega) (q := 3) (t := ⟨a, 0, List.replicate 16 0⟩) rfl
  exact run_end r3 (v := 0) (e := 1) (ok := true) (by omega) rfl

theorem reck1_ok (c a b : Int) (hc : 0 ≤ c ∧ c ≤ 1000) (ha : 0 ≤ a ∧ a ≤ 4294967295) (hb : 0 ≤ b ∧ b ≤ 4294967295) : ∀ y ∈ reck1 c a b, y.Ok := by
  intro y hy
  simp only [reck1, List.mem_cons, List.not_mem_nil, or_false] at hy
  rcases hy with rfl | rfl | rfl
  · exact ins_ok (by omega) (by omega) (by omega) ha
  · exact ins_ok (by omega) (by omega) (by omega) hb
  · exact ins_ok (by omega) (by omega) (by omega) (by omega)

theorem reck2_ok (c a b : Int) (hc : 0 ≤ c ∧ c ≤ 1000) (ha : 0 ≤ a ∧ a ≤ 4294967295) (hb : 0 ≤ b ∧ b ≤ 4294967295) : ∀ y ∈ reck2 c a b, y.Ok := by
  intro y hy
  simp only [reck2, List.mem_cons, List.not_mem_nil, or_false] at hy
  rcases hy with rfl | rfl | rfl | rfl | rfl
  · exact ins_ok (by omega) (by omega) (by omega) hb
  · exact ins_ok (by omega) (by omega) (by omega) (by omega)
  · exact ins_ok (by omega) (by omega) (by omega) ha
  · exact ins_ok (by omega) (by omega) (by omega) (by omega)
  · exact ins_ok (by omega) (by omega) (by omega) (by omega)

theorem and31 (b : Int) (h0 : 0 ≤ b) (h1 : b ≤ 4294967295) : bits .and .u32 b 31 = b % 32 := by
  obtain ⟨n, rfl⟩ := Int.eq_ofNat_of_zero_le h0
  show IntKind.u32.wrap ((BitVec.ofInt 32 (n : Int) &&& BitVec.ofInt 32 31).toNat : Int) = _
  rw [BitVec.toNat_and, BitVec.ofInt_natCast, BitVec.toNat_ofNat, Nat.mod_eq_of_lt (show n < 2 ^ 32 by omega), show (BitVec.ofInt 32 31).toNat = 2 ^ 5 - 1 from rfl, Nat.and_two_pow_sub_one_eq_mod, IntKind.wrap_u32]
  omega

end Go.Proofs.Ytljkkbfokjhfpaa
