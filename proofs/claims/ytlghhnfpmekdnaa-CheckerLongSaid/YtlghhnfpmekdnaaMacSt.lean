/- The landed machine's state, and what its small methods give. -/
import Derived.Test.YtlghhnfpmekdnaaRecWord
import Derived.Test.YtlghhnfpmekdnaaRun
namespace Go.Proofs.Ytlghhnfpmekdnaa.Landed
open Go.RowKit

/-- A machine's state as the landed code keeps it. -/
structure St where
  d : Dat
  s : Mac
  p : Int
  r : Int

def St.vals (t : St) : Array Value := (t.d.cells.toList ++ (Value.int .u32 t.s.a :: Value.int .u32 t.s.x :: (t.s.cells.map (Value.int .u32) ++ [Value.int .i64 t.p, Value.int .u32 t.r]))).toArray

theorem St.at_a (t : St) : t.vals[9]? = some (.int .u32 t.s.a) := by simp [St.vals, Dat.cells]
theorem St.at_x (t : St) : t.vals[10]? = some (.int .u32 t.s.x) := by simp [St.vals, Dat.cells]
theorem St.at_cell (t : St) (k : Nat) (h : t.s.cells.length = 16) (hk : k < 16) : t.vals[11 + k]? = some (.int .u32 (t.s.cells.getD k 0)) := by
  rw [show 11 + k = k + 1 + 1 + 1 + 1 + 1 + 1 + 1 + 1 + 1 + 1 + 1 from by omega]
  simp [St.vals, Dat.cells, List.getElem?_append, h, hk]
theorem St.at_p (t : St) (h : t.s.cells.length = 16) : t.vals[27]? = some (.int .i64 t.p) := by
  simp [St.vals, Dat.cells, h]
theorem St.at_r (t : St) (h : t.s.cells.length = 16) : t.vals[28]? = some (.int .u32 t.r) := by
  simp [St.vals, Dat.cells, h]
theorem St.at_d (t : St) : ∀ i < 9, t.vals[i]? = t.d.cells[i]? := by
  intro i hi
  rcases (show i = 0 ∨ i = 1 ∨ i = 2 ∨ i = 3 ∨ i = 4 ∨ i = 5 ∨ i = 6 ∨ i = 7 ∨ i = 8 from by omega) with rfl | rfl | rfl | rfl | rfl | rfl | rfl | rfl | rfl <;> simp [St.vals, Dat.cells]
theorem St.set_a (t : St) (v : Int) : t.vals.setIfInBounds 9 (.int .u32 v) = (St.mk t.d { t.s with a := v } t.p t.r).vals := by simp [St.vals, Dat.cells]
theorem St.set_x (t : St) (v : Int) : t.vals.setIfInBounds 10 (.int .u32 v) = (St.mk t.d { t.s with x := v } t.p t.r).vals := by simp [St.vals, Dat.cells]
theorem St.set_cell (t : St) (k : Nat) (v : Int) (h : t.s.cells.length = 16) (hk : k < 16) : t.vals.setIfInBounds (11 + k) (.int .u32 v) = (St.mk t.d { t.s with cells := t.s.cells.set k v } t.p t.r).vals := by
  rw [show 11 + k = k + 1 + 1 + 1 + 1 + 1 + 1 + 1 + 1 + 1 + 1 + 1 from by omega]
  simp [St.vals, Dat.cells, List.map_set, h, hk]
theorem St.set_p (t : St) (v : Int) (h : t.s.cells.length = 16) : t.vals.setIfInBounds 27 (.int .i64 v) = (St.mk t.d t.s v t.r).vals := by
  simp [St.vals, Dat.cells, h]
theorem St.set_r (t : St) (v : Int) (h : t.s.cells.length = 16) : t.vals.setIfInBounds 28 (.int .u32 v) = (St.mk t.d t.s t.p v).vals := by
  simp [St.vals, Dat.cells, h]

/-- What a method leaves that turns the state. -/
def Stood (g : Nat) (v : Value) (t : St) (w : World) : Ending → World → Prop :=
  fun r w' => r = .returned v ∧ Box w' g 52 t.vals ∧ w.grownBy w' (some g)
/-- What a method leaves that hands back nothing. -/
def StoodU (g : Nat) (t : St) (w : World) : Ending → World → Prop :=
  fun r w' => r = .returned (.tuple #[]) ∧ Box w' g 52 t.vals ∧ w.grownBy w' (some g)

/-- What stands beside A. -/
def operandOf (c k x : Int) : Int := if bits BinOp.and IntKind.i64 c 8 != 0 then x else k

set_option maxHeartbeats 4000000 in
theorem operand_any (g : Nat) (t : St) (c jt jf k : Int) (w : World) (hb : Box w g 52 t.vals) :
    Calls Try.prog 44 #[.pointer (some ⟨g, 0, none⟩), .agg #[.int .i64 c, .int .i64 jt, .int .i64 jf, .int .u32 k]] w fun e w' => e = .returned (.int .u32 (operandOf c k t.s.x)) ∧ Below w.heap.size w w' := by
  have hx : w.cell? ⟨g, 10, none⟩ = some (.int .u32 t.s.x) := (hb.cell 10).trans t.at_x
  have hgl := hb.lt
  clear hb
  by_cases h8 : (bits BinOp.and IntKind.i64 c 8 != 0) = true
  · have ho : operandOf c k t.s.x = t.s.x := by unfold operandOf; rw [if_pos h8]
    rw [ho]
    clear ho
    go_enter Try.func44, Try.ntmps44
    go_wp2
    go_ret
    exact ⟨rfl, (Below.refl _ _).alloc (Nat.le_refl _) _⟩
  · have ho : operandOf c k t.s.x = k := by unfold operandOf; rw [if_neg h8]
    have h8' : (bits BinOp.and IntKind.i64 c 8 != 0) = false := by simpa using h8
    rw [ho]
    clear ho h8
    go_enter Try.func44, Try.ntmps44
    go_wp2
    go_ret
    exact ⟨rfl, (Below.refl _ _).alloc (Nat.le_refl _) _⟩

set_option maxHeartbeats 4000000 in
theorem end_any (g : Nat) (t : St) (n : Int) (w : World) (hs : t.s.Ok) (hb : Box w g 52 t.vals) :
    Calls Try.prog 37 #[.pointer (some ⟨g, 0, none⟩), .int .u32 n] w (Stood g (.int .i64 1) ⟨t.d, t.s, t.p, n⟩ w) := by
  have HB := Lib.hid hb
  have HL := Lib.hid hs.len
  have q : w.cell? ⟨g, 28, none⟩ = some (.int .u32 t.r) := (hb.cell 28).trans (t.at_r hs.len)
  have z : w.frozen? ⟨g, 28, none⟩ = false := hb.free 28
  clear hb hs
  go_enter Try.func37, Try.ntmps37
  go_wp2
  go_ret
  exact ⟨rfl, by rw [← St.set_r t n HL.out]; exact HB.out.set 28 _, only_set _ _ _ _⟩

set_option maxHeartbeats 4000000 in
theorem jump_any (g : Nat) (t : St) (n : Int) (w : World) (hs : t.s.Ok) (hb : Box w g 52 t.vals) :
    Calls Try.prog 35 #[.pointer (some ⟨g, 0, none⟩), .int .i64 n] w (StoodU g ⟨t.d, t.s, wrap64 (t.p + n), t.r⟩ w) := by
  have HB := Lib.hid hb
  have HL := Lib.hid hs.len
  have q : w.cell? ⟨g, 27, none⟩ = some (.int .i64 t.p) := (hb.cell 27).trans (t.at_p hs.len)
  have z : w.frozen? ⟨g, 27, none⟩ = false := hb.free 27
  clear hb hs
  go_enter Try.func35, Try.ntmps35
  go_wp2
  go_end0
  exact ⟨rfl, by rw [← St.set_p t _ HL.out]; exact HB.out.set 27 _, only_set _ _ _ _⟩

end Go.Proofs.Ytlghhnfpmekdnaa.Landed
