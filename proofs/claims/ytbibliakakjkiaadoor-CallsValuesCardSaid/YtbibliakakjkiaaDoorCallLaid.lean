/- From the row's condition on what the start lays to what the landed code reads of it; one world that meets the condition. -/
import Derived.Test.YtbibliakakjkiaaDoorRows
import Derived.Test.YtbibliakakjkiaaDoorCallLib
import Derived.Lib.LaidU8
import Derived.Shelf.Vars
import Derived.LaidLaws
namespace Go.Proofs.YtbibliakakjkiaaDoor
open Go.RowKit

/-- What the rows list. -/
def laidList : List (String × DataW Unit) := Rows.callsTellRow.laid

theorem tab_reads {w : World} (h : Lib.VarReads Tryd.prog w "strings.asciiSpace" (Lib.tabData .u8 Lib.asciiSpaceTab)) : Lib.TabIs Tryd.prog w "strings.asciiSpace" .u8 Lib.asciiSpaceTab := by
  obtain ⟨g', t', cs, fuel, p, hg', ht', hv, hd⟩ := h
  obtain rfl := Option.some.inj ((show Tryd.prog.globalNamed "strings.asciiSpace" = some 0 by kernel_rfl).symm.trans hg')
  obtain rfl := Option.some.inj ((show (Tryd.prog.globals[0]?).map (·.type) = some 54 by kernel_rfl).symm.trans ht')
  have := Lib.cells_of_tab Tryd.underlying54 Tryd.underlying5 (by kernel_rfl) (by kernel_rfl) hd
  unfold Lib.TabIs
  rw [hv, ← this]

theorem laid_of {W : World} (h : laidMetH Tryd.prog laidList W) (_ : W.ShapedOpen Tryd.prog) : Laid W := by
  have h' : laidMet Tryd.prog laidList W := h
  have r1 := Lib.laidMet.reads h' (List.mem_cons_of_mem _ (List.mem_cons_self ..))
  have e1 : (Rows.laid_strings_asciiSpace : DataW Unit) = Lib.tabData .u8 Lib.asciiSpaceTab := by kernel_rfl
  rw [e1] at r1
  exact ⟨tab_reads r1⟩

/-! ### One world that fits -/
def litCells : DataW Unit → List Value
  | .lit (.int k n) => [.int k n]
  | .lit (.string l) => [.string (strOf l)]
  | _ => []
def rowCells : DataW Unit → List Value
  | .agg ds => ds.flatMap litCells
  | d => litCells d
def flatOf : DataW Unit → List Value
  | .agg ds => ds.flatMap rowCells
  | d => litCells d

def putCells (cs : Array Value) : Obj → Obj
  | .cells _ t fr => .cells cs t fr
  | o => o
def spaces : DataW Unit → List Value
  | .ptr (.agg (.slice ds _ :: _)) => ds.flatMap rowCells
  | _ => []
noncomputable def lowest : Nat := (World.holding Tryd.prog default ⟨#[], #[], []⟩).heap.size
noncomputable def laidWorld (os : Os) : World :=
  let w0 := World.holding Tryd.prog os ⟨#[.cells #[.slice (some ⟨lowest + 1, 0, none⟩) 7 7, .slice none 0 0, .int .i64 2] 65, .cells (spaces Rows.laid_unicode_White_Space).toArray 68], #[], []⟩
  { w0 with heap := (w0.heap.modify 0 (putCells (flatOf Rows.laid_strings_asciiSpace).toArray)).modify 1 (putCells #[.pointer (some ⟨lowest, 0, none⟩)]) }

set_option maxRecDepth 100000 in
theorem laidWorld_met (os : Os) (args : Array Value) : laidMetH Tryd.prog laidList ((laidWorld os).forCall (fun _ _ => 0) ⟨#[], args, []⟩).memory := by
  have h : laidMet Tryd.prog laidList ((laidWorld os).forCall (fun _ _ => 0) ⟨#[], args, []⟩).memory := laidMet_of_run' 8 (by kernel_rfl) (by kernel_rfl)
  exact h

end Go.Proofs.YtbibliakakjkiaaDoor
