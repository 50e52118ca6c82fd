/- What the document's own names and part give. -/
import Derived.Test.YtogpicfofifbkaaDoorTreeBool
import Derived.Test.YtogpicfofifbkaaDoorTreeDepth
import Derived.Test.YtogpicfofifbkaaDoorCallVal
import Derived.Laws.StructEq
namespace Go.Proofs.YtogpicfofifbkaaDoor
open Go.RowKit

theorem eq_act (k d k' d' : Int) (w : World) : (Op.equalIn 10000 28 (.agg #[.int .i64 k, .int .i64 d]) (.agg #[.int .i64 k', .int .i64 d'])).run Tryd.prog w = .ok (k == k' && d == d') w := by
  have u3 := Tryd.underlying3
  have a3 := Tryd.isAgg3
  have z3 := Tryd.sizeOf3
  have hS : Tryd.prog.underlying 28 = some (.struct (Tryd.prog.fieldsOf 28)) := by kernel_rfl
  rw [show (10000 : Nat) = 9999 + 1 from rfl, run_equalIn_agg w 9999 28 _ _ hS Tryd.stoodInHeld28]
  simp only [Program.fieldsOf, Tryd.underlying28]
  go_simp
  by_cases h1 : k = k' <;> by_cases h2 : d = d' <;> simp [h1, h2]

/-- The ways of a rule. -/
theorem rule_ways (r : Rul) : (nameOk r.call = false ∧ ruleOk r = false) ∨ (nameOk r.call = true ∧ r.params.all nameOk = false ∧ ruleOk r = false) ∨
    (nameOk r.call = true ∧ r.params.all nameOk = true ∧ 1 < r.cond.length ∧ ruleOk r = false) ∨ (nameOk r.call = true ∧ r.params.all nameOk = true ∧ r.cond = [] ∧ ruleOk r = true) ∨
    (∃ e, nameOk r.call = true ∧ r.params.all nameOk = true ∧ r.cond = [e] ∧ boolOk e = false ∧ ruleOk r = false) ∨
    (∃ e, nameOk r.call = true ∧ r.params.all nameOk = true ∧ r.cond = [e] ∧ boolOk e = true ∧ ruleOk r = decide (depthOf e ≤ 30)) := by
  obtain ⟨call, pA, pc, params, cA, cc, cond⟩ := r
  unfold ruleOk
  simp only
  cases h1 : nameOk call with
  | false => exact .inl ⟨rfl, rfl⟩
  | true =>
    cases h2 : params.all nameOk with
    | false => exact .inr (.inl ⟨rfl, rfl, rfl⟩)
    | true =>
      match cond with
      | [] => exact .inr (.inr (.inr (.inl ⟨rfl, rfl, rfl, rfl⟩)))
      | [e] =>
        cases h3 : boolOk e with
        | false => exact .inr (.inr (.inr (.inr (.inl ⟨e, rfl, rfl, rfl, h3, by simp [h3]⟩))))
        | true => exact .inr (.inr (.inr (.inr (.inr ⟨e, rfl, rfl, rfl, h3, by simp [h3]⟩))))
      | _ :: _ :: _ => exact .inr (.inr (.inl ⟨rfl, rfl, by simp, rfl⟩))

theorem all_take_no {α : Type} {p : α → Bool} {l : List α} {k : Nat} (h : (l.take k).all p = false) : l.all p = false := by
  cases ha : l.all p with
  | false => rfl
  | true =>
    have : (l.take k).all p = true := by
      rw [List.all_eq_true] at ha ⊢
      exact fun x hx => ha x (List.mem_of_mem_take hx)
    rw [this] at h
    cases h
theorem all_take_snoc {α : Type} {p : α → Bool} {l : List α} {k : Nat} {x : α} (h : l[k]? = some x) : (l.take (k + 1)).all p = ((l.take k).all p && p x) := by
  rw [take_one h, List.all_append]
  simp

def Parting (p : Par) (v : Bool) (w : World) (ok i : Value) (wr : World) : Prop :=
  (∃ k : Nat, k ≤ p.rules.length ∧ i = .int .i64 k ∧ ok = .bool (v && (p.rules.take k).all ruleOk)) ∧ Below w.heap.size w wr ∧ Box wr w.heap.size 34 p.cells.toArray

end Go.Proofs.YtogpicfofifbkaaDoor
