/- From the row's condition on what the start lays to what the landed code reads of it; one world that meets the condition. -/
import Derived.Test.YtdcpdieejknliaaDoorRows
import Derived.Test.YtdcpdieejknliaaDoorListLib
import Derived.Lib.LaidU8
import Derived.Shelf.Vars
import Derived.LaidLaws
namespace Go.Proofs.YtdcpdieejknliaaDoor
open Go.RowKit

/-- What the rows list. -/
def laidList : List (String × DataW Unit) := Rows.listingTellsRow.laid

/-! ### Each variable's cells -/
theorem iface_cell {w : World} {g t : Nat} {ms : Array (String × TypeId)} {n nm : String} {d : DataW Unit} (h : Lib.VarReads Tryd.prog w n (.iface nm d)) (hg : Tryd.prog.globalNamed n = some g) (ht : (Tryd.prog.globals[g]?).map (·.type) = some t) (hi : Tryd.prog.underlying t = some (.interface ms)) :
    ∃ u v, w.cell? ⟨g, 0, none⟩ = some (.iface u v) := by
  obtain ⟨g', t', cs, fuel, p, hg', ht', hv, hd⟩ := h
  obtain rfl := Option.some.inj (hg.symm.trans hg')
  obtain rfl := Option.some.inj (ht.symm.trans ht')
  obtain ⟨_, u, v, hcs, _, _⟩ := iface_of_trod hi hd
  refine ⟨u, v, ?_⟩
  rw [World.var?_cell hg hv 0, ← Array.getElem?_toList, hcs]
  rfl

theorem tab_reads {w : World} (h : Lib.VarReads Tryd.prog w "internal/strconv.uint64pow10" (Lib.tabData .u64 Lib.pow10Tab)) : Lib.TabIs Tryd.prog w "internal/strconv.uint64pow10" .u64 Lib.pow10Tab := by
  obtain ⟨g', t', cs, fuel, p, hg', ht', hv, hd⟩ := h
  obtain rfl := Option.some.inj ((show Tryd.prog.globalNamed "internal/strconv.uint64pow10" = some 4 by kernel_rfl).symm.trans hg')
  obtain rfl := Option.some.inj ((show (Tryd.prog.globals[4]?).map (·.type) = some 93 by kernel_rfl).symm.trans ht')
  have := Lib.cells_of_tab Tryd.underlying93 Tryd.underlying49 (by kernel_rfl) (by kernel_rfl) hd
  unfold Lib.TabIs
  rw [hv, ← this]

theorem names_reads {w : World} (h : Lib.VarReads Tryd.prog w "tipstaff/listing.names" (.agg (landTab.map fun t => .agg [.lit (.int .i64 t.1), .lit (.string t.2)]))) : w.rangeAt 0 0 landCells := by
  obtain ⟨g', t', cs, fuel, p, hg', ht', hv, hd⟩ := h
  have hg := (show Tryd.prog.globalNamed "tipstaff/listing.names" = some 0 by kernel_rfl)
  obtain rfl := Option.some.inj (hg.symm.trans hg')
  obtain rfl := Option.some.inj ((show (Tryd.prog.globals[0]?).map (·.type) = some 69 by kernel_rfl).symm.trans ht')
  have hc : Tryd.prog.cellsOf 68 = 2 := by kernel_rfl
  have c1 : Tryd.prog.cellsOf 3 = 1 := by kernel_rfl
  have c2 : Tryd.prog.cellsOf 9 = 1 := by kernel_rfl
  have key : ∀ (i : Nat) (t : Int × List UInt8), landTab[i]? = some t → cs[i * 2]? = some (.int .i64 t.1) ∧ cs[i * 2 + 1]? = some (.string (strOf t.2)) := by
    intro i t ht
    have hi : i < 41 := (List.getElem?_eq_some_iff.1 ht).1
    obtain ⟨f2, d, q, hdi, hel⟩ := Lib.array_elem Tryd.underlying69 hd i hi
    rw [List.getElem?_map, ht] at hdi
    obtain rfl := Option.some.inj hdi
    rw [hc] at hel
    obtain ⟨xs, k, _, hx, hlen, hxl, hf⟩ := DataW.trod_struct Tryd.underlying68 hel
    have hx1 : xs.map (·.1) = [.lit (.int .i64 t.1), .lit (.string t.2)] := by
      have := congrArg Prod.fst hx
      simpa using this.symm
    match xs, hxl, hx1 with
    | [x0, x1], _, hx1 =>
      simp only [List.map_cons, List.map_nil, List.cons.injEq, and_true] at hx1
      have g0 := hf 0 _ rfl
      have g1 := hf 1 _ rfl
      simp [c1, c2] at g0 g1
      obtain ⟨n0, e0, r0, _⟩ := DataW.trod_int Tryd.underlying3 g0
      obtain ⟨s1, e1, r1, _⟩ := DataW.trod_string Tryd.underlying9 g1
      have hn : n0 = t.1 := by
        have := hx1.1
        rw [r0] at this
        simpa using this
      have hs : s1 = strOf t.2 := by
        have h2 := hx1.2
        rw [r1] at h2
        have h3 : s1.data.toList = t.2 := by simpa using h2
        rw [← h3, strOf_of]
      subst hn hs
      have q0 := congrArg (·[0]?) e0
      have q1 := congrArg (·[0]?) e1
      simp [List.getElem?_drop] at q0 q1
      exact ⟨q0, q1⟩
  have flat : ∀ (l : List (Int × List UInt8)) (j : Nat) (v : Value), (l.flatMap landRow)[j]? = some v → ∃ (i : Nat) (t : Int × List UInt8), l[i]? = some t ∧ ((j = i * 2 ∧ v = .int .i64 t.1) ∨ (j = i * 2 + 1 ∧ v = .string (strOf t.2))) := by
    intro l
    induction l with
    | nil => intro j v h; simp at h
    | cons t r ih =>
      intro j v h
      match j, h with
      | 0, h => exact ⟨0, t, rfl, .inl ⟨rfl, by simpa [landRow] using h.symm⟩⟩
      | 1, h => exact ⟨0, t, rfl, .inr ⟨rfl, by simpa [landRow] using h.symm⟩⟩
      | j + 2, h =>
        obtain ⟨i, u, hu, hx⟩ := ih j v (by simpa [landRow] using h)
        refine ⟨i + 1, u, by simpa using hu, ?_⟩
        rcases hx with ⟨h1, h2⟩ | ⟨h1, h2⟩
        · exact .inl ⟨by omega, h2⟩
        · exact .inr ⟨by omega, h2⟩
  intro j v hj
  rw [Nat.zero_add, World.var?_cell hg hv j]
  obtain ⟨i, t, ht, ⟨rfl, rfl⟩ | ⟨rfl, rfl⟩⟩ := flat landTab j v hj
  · exact (key i t ht).1
  · exact (key i t ht).2

theorem laid_of {W : World} (h : laidMetH Tryd.prog laidList W) (hsh : W.ShapedOpen Tryd.prog) : Laid W := by
  have h' : laidMet Tryd.prog laidList W := h
  have r3 := Lib.laidMet.reads h' (List.mem_cons_of_mem _ (List.mem_cons_of_mem _ (List.mem_cons_self ..)))
  have r4 := Lib.laidMet.reads h' (List.mem_cons_of_mem _ (List.mem_cons_of_mem _ (List.mem_cons_of_mem _ (List.mem_cons_self ..))))
  have r5 := Lib.laidMet.reads h' (List.mem_cons_of_mem _ (List.mem_cons_of_mem _ (List.mem_cons_of_mem _ (List.mem_cons_of_mem _ (List.mem_cons_self ..)))))
  have r6 := Lib.laidMet.reads h' (List.mem_cons_of_mem _ (List.mem_cons_of_mem _ (List.mem_cons_of_mem _ (List.mem_cons_of_mem _ (List.mem_cons_of_mem _ (List.mem_cons_self ..))))))
  have e3 : (Rows.laid_internal_strconv_uint64pow10 : DataW Unit) = Lib.tabData .u64 Lib.pow10Tab := by rfl
  have e6 : (Rows.laid_tipstaff_listing_names : DataW Unit) = .agg (landTab.map fun t => .agg [.lit (.int .i64 t.1), .lit (.string t.2)]) := by rfl
  rw [e3] at r3
  rw [e6] at r6
  have hpow := tab_reads r3
  have hnames := names_reads r6
  have hmost := cell_of_shapedOpen_int (g := 1) (zero := #[.int .i64 0]) (t := 3) hsh (of_decide_eq_true (by kernel_rfl)) (by kernel_rfl) rfl (by kernel_rfl) (by kernel_rfl) Tryd.underlying3
  have hrng := iface_cell (g := 3) (t := 65) r4 (by kernel_rfl) (by kernel_rfl) Tryd.underlying65
  have hsyn := iface_cell (g := 2) (t := 65) r5 (by kernel_rfl) (by kernel_rfl) Tryd.underlying65
  refine ⟨hmost, hsyn, hrng, hpow, hnames, ?_⟩
  obtain ⟨m, hm⟩ := hmost
  obtain ⟨u, v, hs⟩ := hsyn
  obtain ⟨u2, v2, hr⟩ := hrng
  have hp := Lib.TabIs.cell hpow (g := 4) (by kernel_rfl) 0 (by rw [Lib.pow10Tab_length]; omega)
  have hn := hnames 0 (.int .i64 0) rfl
  exact ⟨World.block_lt_of_cell? W _ hm, World.block_lt_of_cell? W _ hs, World.block_lt_of_cell? W _ hr, World.block_lt_of_cell? W _ hp, World.block_lt_of_cell? W _ hn⟩

/-! ### One world that fits -/
def litCells : DataW Unit → List Value
  | .lit (.int k n) => [.int k n]
  | .lit (.string l) => [.string (strOf l)]
  | _ => []
def rowCells : DataW Unit → List Value
  | .agg ds => ds.flatMap litCells
  | d => litCells d
def flatOf : DataW Unit → List Value
  | .agg ds => ds.flatMap rowCells
  | d => litCells d

def putCells (cs : Array Value) : Obj → Obj
  | .cells _ t fr => .cells cs t fr
  | o => o
noncomputable def lowest : Nat := (World.holding Tryd.prog default ⟨#[], #[], []⟩).heap.size
noncomputable def laidWorld (os : Os) : World :=
  let w0 := World.holding Tryd.prog os ⟨#[.cells #[.string (strOf [118, 97, 108, 117, 101, 32, 111, 117, 116, 32, 111, 102, 32, 114, 97, 110, 103, 101])] 99, .cells #[.string (strOf [105, 110, 118, 97, 108, 105, 100, 32, 115, 121, 110, 116, 97, 120])] 99], #[], []⟩
  { w0 with heap := (((((w0.heap.modify 5 (putCells (flatOf Rows.laid_math_bits_deBruijn32tab).toArray)).modify 6 (putCells (flatOf Rows.laid_math_bits_deBruijn64tab).toArray)).modify 4 (putCells (flatOf Rows.laid_internal_strconv_uint64pow10).toArray)).modify 3 (putCells #[.iface 97 (.pointer (some ⟨lowest, 0, none⟩))])).modify 2 (putCells #[.iface 97 (.pointer (some ⟨lowest + 1, 0, none⟩))])).modify 0 (putCells (flatOf Rows.laid_tipstaff_listing_names).toArray) }

set_option maxRecDepth 100000 in
theorem laidWorld_met (os : Os) (args : Array Value) : laidMetH Tryd.prog laidList ((laidWorld os).forCall (fun _ _ => 0) ⟨#[], args, []⟩).memory := by
  have h : laidMet Tryd.prog laidList ((laidWorld os).forCall (fun _ _ => 0) ⟨#[], args, []⟩).memory := laidMet_of_run' 8 (by kernel_rfl) (by kernel_rfl)
  exact h

end Go.Proofs.YtdcpdieejknliaaDoor
