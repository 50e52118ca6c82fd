/- Plain facts on the landed token's table of signs. -/
import Derived.Test.YtgabeacpgmomhaaDoorTokSet
namespace Go.Proofs.YtgabeacpgmomhaaDoor
open Go.RowKit

/-- The landed table of signs. -/
def signTab : List (List UInt8) := [[38, 38], [124, 124], [61, 61], [33, 61], [60, 61], [62, 61], [123], [125], [40], [41], [44], [33], [38], [124], [60], [62]]
/-- The first of some that a text begins with. -/
def signIn (r : List UInt8) : List (List UInt8) → Option (List UInt8)
  | [] => none
  | t :: ts => if t.isPrefixOf r then some t else signIn r ts

theorem prefix_two' (a b : UInt8) (r : List UInt8) : ([a, b] : List UInt8).isPrefixOf r = (r.take 2 == [a, b]) := by
  match r with
  | [] => rfl
  | [x] => simp [List.isPrefixOf]
  | x :: y :: t => simp [List.isPrefixOf, Bool.beq_eq_decide_eq, eq_comm]
theorem prefix_one' (a c : UInt8) (r : List UInt8) : ([a] : List UInt8).isPrefixOf (c :: r) = (c == a) := by
  simp [List.isPrefixOf, Bool.beq_eq_decide_eq, eq_comm]

theorem sign_is (c : UInt8) (t : List UInt8) : signIn (c :: t) signTab = if signL (c :: t) = 0 then none else some ((c :: t).take (signL (c :: t))) := by
  unfold signL
  cases h2 : twoSigns.contains ((c :: t).take 2)
  · have hn : ∀ q ∈ twoSigns, ((c :: t).take 2 == q) = false := fun q hq => by
      cases hb : ((c :: t).take 2 == q)
      · rfl
      · have := List.contains_iff_mem.2 (eq_of_beq hb ▸ hq)
        rw [h2] at this
        cases this
    have e : signIn (c :: t) signTab = signIn (c :: t) [[123], [125], [40], [41], [44], [33], [38], [124], [60], [62]] := by
      simp only [signTab, signIn, prefix_two', hn _ (show [38, 38] ∈ twoSigns by decide), hn _ (show [124, 124] ∈ twoSigns by decide), hn _ (show [61, 61] ∈ twoSigns by decide), hn _ (show [33, 61] ∈ twoSigns by decide), hn _ (show [60, 61] ∈ twoSigns by decide), hn _ (show [62, 61] ∈ twoSigns by decide), Bool.false_eq_true, if_false]
    rw [e]
    simp only [signIn, prefix_one', Bool.false_eq_true, if_false]
    cases h1 : oneSigns.contains c
    · have hc : ∀ q ∈ oneSigns, (c == q) = false := fun q hq => by
        cases hb : (c == q)
        · rfl
        · have := List.contains_iff_mem.2 (eq_of_beq hb ▸ hq)
          rw [h1] at this
          cases this
      simp only [hc _ (show (123 : UInt8) ∈ oneSigns by decide), hc _ (show (125 : UInt8) ∈ oneSigns by decide), hc _ (show (40 : UInt8) ∈ oneSigns by decide), hc _ (show (41 : UInt8) ∈ oneSigns by decide), hc _ (show (44 : UInt8) ∈ oneSigns by decide), hc _ (show (33 : UInt8) ∈ oneSigns by decide), hc _ (show (38 : UInt8) ∈ oneSigns by decide), hc _ (show (124 : UInt8) ∈ oneSigns by decide), hc _ (show (60 : UInt8) ∈ oneSigns by decide), hc _ (show (62 : UInt8) ∈ oneSigns by decide), Bool.false_eq_true, if_false, if_true]
    · have hm : c ∈ oneSigns := List.contains_iff_mem.1 h1
      simp only [oneSigns, List.mem_cons, List.not_mem_nil, or_false] at hm
      rcases hm with rfl | rfl | rfl | rfl | rfl | rfl | rfl | rfl | rfl | rfl <;> rfl
  · have hm : (c :: t).take 2 ∈ twoSigns := List.contains_iff_mem.1 h2
    simp only [twoSigns, List.mem_cons, List.not_mem_nil, or_false] at hm
    simp only [if_true, signTab, signIn, prefix_two']
    rcases hm with h | h | h | h | h | h <;> rw [h] <;> rfl

end Go.Proofs.YtgabeacpgmomhaaDoor
