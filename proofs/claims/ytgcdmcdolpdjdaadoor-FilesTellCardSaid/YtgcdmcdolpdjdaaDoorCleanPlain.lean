/- Plain facts for the document's own clean: the parts of a path, cleaned and joined. -/
import Derived.Test.YtgcdmcdolpdjdaaDoorParts
namespace Go.Proofs.YtgcdmcdolpdjdaaDoor
open Go.RowKit

def cleanStep (l : List (List UInt8)) (p : List UInt8) : Option (List (List UInt8)) :=
  if p = [] ∨ p = [46] then some l else if p = [46, 46] then (if l = [] then none else some l.dropLast) else some (l ++ [p])
/-- The parts that are left; nothing: one led too far up. -/
def cleanFrom (l : List (List UInt8)) : List (List UInt8) → Option (List (List UInt8))
  | [] => some l
  | p :: r => match cleanStep l p with
    | none => none
    | some m => cleanFrom m r
def joinOf : List (List UInt8) → List UInt8
  | [] => []
  | x :: r => x ++ r.flatMap fun y => 47 :: y
def cleanEnd : Option (List (List UInt8)) → List UInt8 × Bool
  | none => ([], false)
  | some [] => ([], false)
  | some (x :: r) => (joinOf (x :: r), true)
def cleanOf (ps : List (List UInt8)) : List UInt8 × Bool := cleanEnd (cleanFrom [] ps)

theorem clean_drop {l : List (List UInt8)} {ps : List (List UInt8)} {p : List UInt8} {k : Nat} (h : ps[k]? = some p) : cleanFrom l (ps.drop k) = match cleanStep l p with
    | none => none
    | some m => cleanFrom m (ps.drop (k + 1)) := by
  obtain ⟨hl, e⟩ := List.getElem?_eq_some_iff.1 h
  rw [List.drop_eq_getElem_cons hl, e]
  rfl

theorem strs_front {w : World} {B n : Nat} {A : Option Addr} {l : List (List UInt8)} (h : Lies w B 1 A n (strsV l)) (k : Nat) (hk : k ≤ n) : Lies w B 1 A k (strsV (l.take k)) := by
  have hln : l.length = n := by have := h.1; rw [strsV_len] at this; omega
  refine ⟨by rw [strsV_len, List.length_take]; omega, fun h0 => ?_⟩
  obtain ⟨b, o, e, hb, hc⟩ := h.2 (by omega)
  refine ⟨b, o, e, hb, fun j u hu => hc j u ?_⟩
  unfold strsV at hu ⊢
  rw [List.map_take, List.getElem?_take] at hu
  split at hu
  · exact hu
  · cases hu

end Go.Proofs.YtgcdmcdolpdjdaaDoor
