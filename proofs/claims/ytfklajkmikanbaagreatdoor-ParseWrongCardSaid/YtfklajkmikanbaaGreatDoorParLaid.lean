/- From the rows' condition on what the start lays to what the landed code reads of it; one world that meets the condition. -/
import Derived.Test.YtfklajkmikanbaaGreatDoorRows
import Derived.Test.YtfklajkmikanbaaGreatDoorPart9
import Derived.Lib.LaidU8
import Derived.Shelf.Vars
import Derived.LaidLaws
namespace Go.Proofs.YtfklajkmikanbaaGreatDoor
open Go.RowKit

/-- What the rows list. -/
def laidList : List (String × DataW Unit) := Rows.parseRanksRow.laid

/-! ### Each variable's cells -/
theorem iface_cell {w : World} {g t : Nat} {ms : Array (String × TypeId)} {n nm : String} {d : DataW Unit} (h : Lib.VarReads Tryz.prog w n (.iface nm d)) (hg : Tryz.prog.globalNamed n = some g) (ht : (Tryz.prog.globals[g]?).map (·.type) = some t) (hi : Tryz.prog.underlying t = some (.interface ms)) :
    ∃ u v, w.cell? ⟨g, 0, none⟩ = some (.iface u v) := by
  obtain ⟨g', t', cs, fuel, p, hg', ht', hv, hd⟩ := h
  obtain rfl := Option.some.inj (hg.symm.trans hg')
  obtain rfl := Option.some.inj (ht.symm.trans ht')
  obtain ⟨_, u, v, hcs, _, _⟩ := iface_of_trod hi hd
  refine ⟨u, v, ?_⟩
  rw [World.var?_cell hg hv 0, ← Array.getElem?_toList, hcs]
  rfl

theorem laid_of {W : World} (h : laidMetH Tryz.prog laidList W) (hsh : W.ShapedOpen Tryz.prog) : Laid W := by
  have h' : laidMet Tryz.prog laidList W := h
  have r4 := Lib.laidMet.reads h' (List.mem_cons_of_mem _ (List.mem_cons_of_mem _ (List.mem_cons_of_mem _ (List.mem_cons_of_mem _ (List.mem_cons_self ..)))))
  have r5 := Lib.laidMet.reads h' (List.mem_cons_of_mem _ (List.mem_cons_of_mem _ (List.mem_cons_of_mem _ (List.mem_cons_of_mem _ (List.mem_cons_of_mem _ (List.mem_cons_self ..))))))
  have hmost := cell_of_shapedOpen_int (g := 0) (zero := #[.int .i64 0]) (t := 3) hsh (of_decide_eq_true (by kernel_rfl)) (by kernel_rfl) rfl (by kernel_rfl) (by kernel_rfl) Tryz.underlying3
  have hrng := iface_cell (g := 4) (t := 127) r4 (by kernel_rfl) (by kernel_rfl) Tryz.underlying127
  have hsyn := iface_cell (g := 3) (t := 127) r5 (by kernel_rfl) (by kernel_rfl) Tryz.underlying127
  refine ⟨hmost, hsyn, hrng, ?_⟩
  obtain ⟨m, hm⟩ := hmost
  obtain ⟨u, v, hs⟩ := hsyn
  obtain ⟨u2, v2, hr⟩ := hrng
  exact ⟨World.block_lt_of_cell? W _ hm, World.block_lt_of_cell? W _ hs, World.block_lt_of_cell? W _ hr⟩

/-! ### One world that fits -/
def litCells : DataW Unit → List Value
  | .lit (.int k n) => [.int k n]
  | .lit (.string l) => [.string (strOf l)]
  | _ => []
def rowCells : DataW Unit → List Value
  | .agg ds => ds.flatMap litCells
  | d => litCells d
def flatOf : DataW Unit → List Value
  | .agg ds => ds.flatMap rowCells
  | d => litCells d

def putCells (cs : Array Value) : Obj → Obj
  | .cells _ t fr => .cells cs t fr
  | o => o
noncomputable def lowest : Nat := (World.holding Tryz.prog default ⟨#[], #[], []⟩).heap.size
noncomputable def laidWorld (os : Os) : World :=
  let w0 := World.holding Tryz.prog os ⟨#[.cells #[.string (strOf [118, 97, 108, 117, 101, 32, 111, 117, 116, 32, 111, 102, 32, 114, 97, 110, 103, 101])] 171, .cells #[.string (strOf [105, 110, 118, 97, 108, 105, 100, 32, 115, 121, 110, 116, 97, 120])] 171], #[], []⟩
  { w0 with heap := ((((((w0.heap.modify 6 (putCells (flatOf Rows.laid_math_bits_deBruijn32tab).toArray)).modify 7 (putCells (flatOf Rows.laid_math_bits_deBruijn64tab).toArray)).modify 5 (putCells (flatOf Rows.laid_internal_strconv_uint64pow10).toArray)).modify 4 (putCells #[.iface 169 (.pointer (some ⟨lowest, 0, none⟩))])).modify 3 (putCells #[.iface 169 (.pointer (some ⟨lowest + 1, 0, none⟩))])).modify 1 (putCells (flatOf Rows.laid_unicode_utf8_first).toArray)).modify 2 (putCells (flatOf Rows.laid_unicode_utf8_acceptRanges).toArray) }

set_option maxRecDepth 100000 in
theorem laidWorld_met (os : Os) (args : Array Value) : laidMetH Tryz.prog laidList ((laidWorld os).forCall (fun _ _ => 0) ⟨#[], args, []⟩).memory := by
  have h : laidMet Tryz.prog laidList ((laidWorld os).forCall (fun _ _ => 0) ⟨#[], args, []⟩).memory := laidMet_of_run' 8 (by kernel_rfl) (by kernel_rfl)
  exact h

end Go.Proofs.YtfklajkmikanbaaGreatDoor
