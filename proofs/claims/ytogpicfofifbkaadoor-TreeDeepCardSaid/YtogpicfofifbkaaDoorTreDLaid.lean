/- One world that meets what the rows list of the start: two tables of the library's, which the landed code never reads. -/
import Derived.Test.YtogpicfofifbkaaDoorRows
import Derived.Test.YtogpicfofifbkaaDoorBase
import Derived.Lib.LaidU8
import Derived.Shelf.Vars
import Derived.LaidLaws
namespace Go.Proofs.YtogpicfofifbkaaDoor
open Go.RowKit

/-- What the rows list. -/
def laidList : List (String × DataW Unit) := Rows.treeDeepRow.laid

/-- Nothing of it is leant on. -/
theorem laid_of {W : World} (_ : laidMetH Tryd.prog laidList W) (_ : W.ShapedOpen Tryd.prog) : True := trivial

/-! ### One world that fits -/
def litCells : DataW Unit → List Value
  | .lit (.int k n) => [.int k n]
  | .lit (.string l) => [.string (strOf l)]
  | _ => []
def rowCells : DataW Unit → List Value
  | .agg ds => ds.flatMap litCells
  | d => litCells d
def flatOf : DataW Unit → List Value
  | .agg ds => ds.flatMap rowCells
  | d => litCells d

def putCells (cs : Array Value) : Obj → Obj
  | .cells _ t fr => .cells cs t fr
  | o => o
noncomputable def laidWorld (os : Os) : World :=
  let w0 := World.holding Tryd.prog os ⟨#[], #[], []⟩
  { w0 with heap := (w0.heap.modify 1 (putCells (flatOf Rows.laid_unicode_utf8_first).toArray)).modify 2 (putCells (flatOf Rows.laid_unicode_utf8_acceptRanges).toArray) }

set_option maxRecDepth 100000 in
theorem laidWorld_met (os : Os) (args : Array Value) : laidMetH Tryd.prog laidList ((laidWorld os).forCall (fun _ _ => 0) ⟨#[], args, []⟩).memory := by
  have h : laidMet Tryd.prog laidList ((laidWorld os).forCall (fun _ _ => 0) ⟨#[], args, []⟩).memory := laidMet_of_run' 8 (by kernel_rfl) (by kernel_rfl)
  exact h

end Go.Proofs.YtogpicfofifbkaaDoor
