/- A struct among a call's results, read off the block that holds it. -/
import Derived.Test.YtgabeacpgmomhaaDoorStore
import Derived.Deep.MidRow
namespace Go.Proofs.YtgabeacpgmomhaaDoor
open Go.RowKit

theorem Box.other {w : World} {g g' i : Nat} {t : TypeId} {cs : Array Value} {u : Value} (h : Box w g t cs) (hg : g ≠ g') : Box (w.setCell ⟨g', i, none⟩ u) g t cs := by
  have := (only_set w g' i u).block g h.lt (by simpa using hg)
  unfold Box
  rw [this]
  exact h

theorem Box.range {w : World} {g : Nat} {t : TypeId} {cs : Array Value} (h : Box w g t cs) : w.rangeAt g 0 cs.toList := by
  intro j v hj
  rw [Nat.zero_add, h.cell j]
  simpa using hj

/-- A struct and one more. -/
theorem results_box_tmp {P : Program} {fn : Func} {a u : Tmp} {ty : TypeId} (h : fn.results = #[.cell a ty, .tmp u]) (tmps : Array Value) (w : World) (g : Nat) (T : TypeId) (cs : Array Value)
    (ht : tmps.getD a undef = .pointer (some ⟨g, 0, none⟩)) (hb : Box w g T cs) (d : TypeDesc) (hu : P.underlying ty = some d) (hd : d.isRow = true) (hi : (P.info? ty).map (·.size) = some cs.size) :
    (results fn tmps).run P w = .ok (.tuple #[.agg cs, tmps.getD u undef]) w := by
  have hl := run_loadVar_mid (P := P) w g 0 ty cs.toList d hb.range hu hd (by simpa using hi)
  simp only [Array.toArray_toList] at hl
  have ht' : tmps[a]?.getD undef = .pointer (some ⟨g, 0, none⟩) := by simpa using ht
  simp [results, h, ht', asAddr, hl]

/-- A struct and two more. -/
theorem results_box_tmp2 {P : Program} {fn : Func} {a u v : Tmp} {ty : TypeId} (h : fn.results = #[.cell a ty, .tmp u, .tmp v]) (tmps : Array Value) (w : World) (g : Nat) (T : TypeId) (cs : Array Value)
    (ht : tmps.getD a undef = .pointer (some ⟨g, 0, none⟩)) (hb : Box w g T cs) (d : TypeDesc) (hu : P.underlying ty = some d) (hd : d.isRow = true) (hi : (P.info? ty).map (·.size) = some cs.size) :
    (results fn tmps).run P w = .ok (.tuple #[.agg cs, tmps.getD u undef, tmps.getD v undef]) w := by
  have hl := run_loadVar_mid (P := P) w g 0 ty cs.toList d hb.range hu hd (by simpa using hi)
  simp only [Array.toArray_toList] at hl
  have ht' : tmps[a]?.getD undef = .pointer (some ⟨g, 0, none⟩) := by simpa using ht
  simp [results, h, ht', asAddr, hl]

/-- One more, and a struct. -/
theorem results_tmp_box {P : Program} {fn : Func} {a u : Tmp} {ty : TypeId} (h : fn.results = #[.tmp u, .cell a ty]) (tmps : Array Value) (w : World) (g : Nat) (T : TypeId) (cs : Array Value)
    (ht : tmps.getD a undef = .pointer (some ⟨g, 0, none⟩)) (hb : Box w g T cs) (d : TypeDesc) (hu : P.underlying ty = some d) (hd : d.isRow = true) (hi : (P.info? ty).map (·.size) = some cs.size) :
    (results fn tmps).run P w = .ok (.tuple #[tmps.getD u undef, .agg cs]) w := by
  have hl := run_loadVar_mid (P := P) w g 0 ty cs.toList d hb.range hu hd (by simpa using hi)
  simp only [Array.toArray_toList] at hl
  have ht' : tmps[a]?.getD undef = .pointer (some ⟨g, 0, none⟩) := by simpa using ht
  simp [results, h, ht', asAddr, hl]

/-- A struct alone. -/
theorem results_box {P : Program} {fn : Func} {a : Tmp} {ty : TypeId} (h : fn.results = #[.cell a ty]) (tmps : Array Value) (w : World) (g : Nat) (T : TypeId) (cs : Array Value)
    (ht : tmps.getD a undef = .pointer (some ⟨g, 0, none⟩)) (hb : Box w g T cs) (d : TypeDesc) (hu : P.underlying ty = some d) (hd : d.isRow = true) (hi : (P.info? ty).map (·.size) = some cs.size) :
    (results fn tmps).run P w = .ok (.agg cs) w := by
  have hl := run_loadVar_mid (P := P) w g 0 ty cs.toList d hb.range hu hd (by simpa using hi)
  simp only [Array.toArray_toList] at hl
  have ht' : tmps[a]?.getD undef = .pointer (some ⟨g, 0, none⟩) := by simpa using ht
  simp [results, h, ht', asAddr, hl]

/-- Four cells of a block of four, stored. -/
theorem box_four {w : World} {g : Nat} {T : TypeId} {z0 z1 z2 z3 a b c d : Value} (h : Box w g T #[z0, z1, z2, z3]) :
    Box ((((w.setCell ⟨g, 0, none⟩ a).setCell ⟨g, 1, none⟩ b).setCell ⟨g, 2, none⟩ c).setCell ⟨g, 3, none⟩ d) g T #[a, b, c, d] := by
  have := (((h.set 0 a).set 1 b).set 2 c).set 3 d
  simpa using this

theorem box_trio {w : World} {g : Nat} {T : TypeId} {z0 z1 z2 a b c : Value} (h : Box w g T #[z0, z1, z2]) :
    Box (((w.setCell ⟨g, 0, none⟩ a).setCell ⟨g, 1, none⟩ b).setCell ⟨g, 2, none⟩ c) g T #[a, b, c] := by
  have := ((h.set 0 a).set 1 b).set 2 c
  simpa using this

end Go.Proofs.YtgabeacpgmomhaaDoor
