/- What the document's own SameParts gives. -/
import Derived.Test.YtogpicfofifbkaaDoorTreeAlike
namespace Go.Proofs.YtogpicfofifbkaaDoor
open Go.RowKit

theorem rul_call {a b : Rul} (h : sameStr a.call b.call = false) : sameRul a b = false := by unfold sameRul; rw [h]; rfl
theorem rul_params {a b : Rul} (h : alikes sameStr a.params b.params = false) : sameRul a b = false := by unfold sameRul; rw [h]; simp
theorem rul_cond {a b : Rul} (h : alikes sameEx a.cond b.cond = false) : sameRul a b = false := by unfold sameRul; rw [h]; simp
theorem rul_all {a b : Rul} (h1 : sameStr a.call b.call = true) (h2 : alikes sameStr a.params b.params = true) (h3 : alikes sameEx a.cond b.cond = true) : sameRul a b = true := by unfold sameRul; rw [h1, h2, h3]; rfl
theorem par_use {a b : Par} (h : sameStr a.use b.use = false) : samePar a b = false := by unfold samePar; rw [h]; rfl
theorem par_act {a b : Par} (h : (a.kind == b.kind && a.data == b.data) = false) : samePar a b = false := by
  unfold samePar
  cases h1 : a.kind == b.kind <;> cases h2 : a.data == b.data <;> simp_all
theorem par_rules {a b : Par} (h : alikes sameRul a.rules b.rules = false) : samePar a b = false := by unfold samePar; rw [h]; simp
theorem par_all {a b : Par} (h1 : sameStr a.use b.use = true) (h2 : (a.kind == b.kind && a.data == b.data) = true) (h3 : alikes sameRul a.rules b.rules = true) : samePar a b = true := by
  unfold samePar
  rw [Bool.and_eq_true] at h2
  rw [h1, h2.1, h2.2, h3]
  rfl

/-- A round of rules: the parts' boxes stand. -/
def Rounds {α : Type} (f : α → α → Bool) (l m : List α) (w : World) (g : Nat) (t : TypeId) (cs ds : Array Value) (i : Value) (wr : World) : Prop :=
  Alikes f l m w i wr ∧ Box wr g t cs ∧ Box wr (g + 1) t ds

end Go.Proofs.YtogpicfofifbkaaDoor
