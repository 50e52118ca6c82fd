/- A whole struct stored into a block that is known whole; small steps of 'Below' and 'Box'. No condition. -/
import Derived.Test.YthcmbfeifehilaaBase
import Derived.Deep.MidRow
namespace Go.Proofs.Ythcmbfeifehilaa
open Go.RowKit

theorem Box.setCells {g : Nat} {t : TypeId} : ∀ (vs : List Value) (o : Nat) (w : World) (cs : Array Value), Box w g t cs → ∃ cs' : Array Value, cs'.size = cs.size ∧ Box (w.setCells g o vs) g t cs'
  | [], _, _, cs, h => ⟨cs, rfl, h⟩
  | v :: r, o, w, cs, h => by
    obtain ⟨cs', hs, hb⟩ := Box.setCells r (o + 1) _ _ (h.set o v)
    exact ⟨cs', by rw [hs]; simp, hb⟩

theorem only_setCells {g : Nat} : ∀ (vs : List Value) (o : Nat) (w : World), w.grownBy (w.setCells g o vs) (some g)
  | [], _, w => only_refl w g
  | v :: r, o, w => only_trans (only_set w g o v) (only_setCells r (o + 1) _)

theorem Box.there {w : World} {g : Nat} {t : TypeId} {cs : Array Value} (h : Box w g t cs) : w.there g 0 cs.size := fun j hj => by
  rw [Nat.zero_add]
  exact ⟨by rw [h.cell j, Array.getElem?_eq_getElem hj]; rfl, h.free j⟩

theorem Box.store {w : World} {g : Nat} {t : TypeId} {cs vs : Array Value} (h : Box w g t cs) (hs : cs.size = vs.size) : Box (w.setCells g 0 vs.toList) g t vs := by
  obtain ⟨cs', hs', hb⟩ := Box.setCells vs.toList 0 w cs h
  have hr := World.rangeAt_setCells_same w g 0 vs.toList (by rw [Array.length_toList, ← hs]; exact h.there)
  have e : cs' = vs := by
    apply Array.ext
    · omega
    · intro i h1 h2
      have := hr i vs[i] (by simp [Array.getElem?_toList, Array.getElem?_eq_getElem h2])
      rw [Nat.zero_add, hb.cell i, Array.getElem?_eq_getElem h1] at this
      exact Option.some.inj this
  rwa [e] at hb

/-- A whole struct is stored. -/
theorem wp_store_box {P : Program} {op : Oper} {a : Act} {w : World} {K : Act → World → Prop} {Q : Exit → Act → World → Prop} (ty : TypeId) (x y : Operand) (ho : op.op = .store ty x y)
    (g : Nat) (t : TypeId) (cs vs : Array Value) (hx : a.eval x = .pointer (some ⟨g, 0, none⟩)) (hy : a.eval y = .agg vs) (hb : Box w g t cs) (hs : cs.size = vs.size)
    (hi : (P.info? ty).map (·.size) = some vs.size) (h1 : vs.all (·.oneCell') = true)
    (h : ∀ w', Box w' g t vs → w.grownBy w' (some g) → K (a.put op.dst undef) w') : op.wp P a w K Q :=
  wp_store_mid ty x y ho g 0 vs hx hy (by rw [← hs]; exact hb.there) hi h1 (h _ (hb.store hs) (only_setCells _ _ _))

theorem wpList_store_box {P : Program} {ops : Array Oper} {rest : List Oper} {op : Oper} {a : Act} {w : World} {Q : Exit → Act → World → Prop} (hgd : op.guard = none) (ty : TypeId) (x y : Operand) (ho : op.op = .store ty x y)
    (g : Nat) (t : TypeId) (cs vs : Array Value) (hx : a.eval x = .pointer (some ⟨g, 0, none⟩)) (hy : a.eval y = .agg vs) (hb : Box w g t cs) (hs : cs.size = vs.size)
    (hi : (P.info? ty).map (·.size) = some vs.size) (h1 : vs.all (·.oneCell') = true)
    (h : ∀ w', Box w' g t vs → w.grownBy w' (some g) → wpList P ops Q rest (a.put op.dst undef) w') : wpList P ops Q (op :: rest) a w :=
  wpList_plain hgd fun _ hK => wp_store_box ty x y ho g t cs vs hx hy hb hs hi h1 fun w' hb' hg' => hK _ _ (h w' hb' hg')

/-- The same at a step of a region that draws its order. -/
theorem step_store_box {P : Program} {ops : Array Oper} {op : Oper} {a : Act} {w : World} {K : Act → World → Prop} {Q : Exit → Act → World → Prop} {E : Prop} (hgd : op.guard = none) (ty : TypeId) (x y : Operand) (ho : op.op = .store ty x y)
    (g : Nat) (t : TypeId) (cs vs : Array Value) (hx : a.eval x = .pointer (some ⟨g, 0, none⟩)) (hy : a.eval y = .agg vs) (hb : Box w g t cs) (hs : cs.size = vs.size)
    (hi : (P.info? ty).map (·.size) = some vs.size) (h1 : vs.all (·.oneCell') = true)
    (h : ∀ w', Box w' g t vs → w.grownBy w' (some g) → K (a.put op.dst undef) w') : if Region.wanted op (yielded ops a.tmps) = true then Oper.wp P op a w K Q else E := by
  have hw : Region.wanted op (yielded ops a.tmps) = true := by simp [Region.wanted, hgd]
  rw [if_pos hw]
  exact wp_store_box ty x y ho g t cs vs hx hy hb hs hi h1 h

/-- A block that is known whole, behind a call that writes nothing that was there. -/
theorem Box.step {w w' : World} {g : Nat} {t : TypeId} {cs : Array Value} (h : Box w g t cs) (hb : Below w.heap.size w w') : Box w' g t cs := h.below hb h.lt

theorem below_step {B : Nat} {a W w1 : World} (h : Below B a W) (hB : B ≤ a.heap.size) (hb : Below W.heap.size W w1) : Below B a w1 := h.trans (hb.mono (Nat.le_trans hB h.size))
theorem below_alloc {B : Nat} {a W : World} (h : Below B a W) (hB : B ≤ a.heap.size) (o : Obj) : Below B a (W.alloc o) := h.alloc (Nat.le_trans hB h.size) o
theorem below_set {B g i : Nat} {a W : World} {u : Value} (hB : B ≤ g) (h : Below B a W) : Below B a (W.setCell ⟨g, i, none⟩ u) := h.setCell (p := ⟨g, i, none⟩) hB u

theorem to_below {P : Program} {f : FuncId} {args : Array Value} {W : World} {v : Ending} (h : Calls P f args W fun r w' => r = v ∧ ∃ m, w' = W.drewN m) : Calls P f args W fun r w' => r = v ∧ Below W.heap.size W w' :=
  h.mono fun _ _ ⟨he, m, hm⟩ => ⟨he, by rw [hm]; exact below_drewN (Below.refl _ _) m⟩

end Go.Proofs.Ythcmbfeifehilaa
