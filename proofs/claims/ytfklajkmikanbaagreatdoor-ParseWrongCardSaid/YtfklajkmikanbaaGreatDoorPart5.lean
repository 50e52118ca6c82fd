/- Texts of mine put together (a claim has at most so many files): ResBox, Append. -/
import Derived.Test.YtfklajkmikanbaaGreatDoorPart2
import Derived.Deep.MidRow
/- A struct among a call's results, read off the block that holds it. -/
namespace Go.Proofs.YtfklajkmikanbaaGreatDoor
open Go.RowKit

theorem Box.other {w : World} {g g' i : Nat} {t : TypeId} {cs : Array Value} {u : Value} (h : Box w g t cs) (hg : g ≠ g') : Box (w.setCell ⟨g', i, none⟩ u) g t cs := by
  have := (only_set w g' i u).block g h.lt (by simpa using hg)
  unfold Box
  rw [this]
  exact h

theorem Box.range {w : World} {g : Nat} {t : TypeId} {cs : Array Value} (h : Box w g t cs) : w.rangeAt g 0 cs.toList := by
  intro j v hj
  rw [Nat.zero_add, h.cell j]
  simpa using hj

/-- A struct and one more. -/
theorem results_box_tmp {P : Program} {fn : Func} {a u : Tmp} {ty : TypeId} (h : fn.results = #[.cell a ty, .tmp u]) (tmps : Array Value) (w : World) (g : Nat) (T : TypeId) (cs : Array Value)
    (ht : tmps.getD a undef = .pointer (some ⟨g, 0, none⟩)) (hb : Box w g T cs) (d : TypeDesc) (hu : P.underlying ty = some d) (hd : d.isRow = true) (hi : (P.info? ty).map (·.size) = some cs.size) :
    (results fn tmps).run P w = .ok (.tuple #[.agg cs, tmps.getD u undef]) w := by
  have hl := run_loadVar_mid (P := P) w g 0 ty cs.toList d hb.range hu hd (by simpa using hi)
  simp only [Array.toArray_toList] at hl
  have ht' : tmps[a]?.getD undef = .pointer (some ⟨g, 0, none⟩) := by simpa using ht
  simp [results, h, ht', asAddr, hl]

/-- A struct and two more. -/
theorem results_box_tmp2 {P : Program} {fn : Func} {a u v : Tmp} {ty : TypeId} (h : fn.results = #[.cell a ty, .tmp u, .tmp v]) (tmps : Array Value) (w : World) (g : Nat) (T : TypeId) (cs : Array Value)
    (ht : tmps.getD a undef = .pointer (some ⟨g, 0, none⟩)) (hb : Box w g T cs) (d : TypeDesc) (hu : P.underlying ty = some d) (hd : d.isRow = true) (hi : (P.info? ty).map (·.size) = some cs.size) :
    (results fn tmps).run P w = .ok (.tuple #[.agg cs, tmps.getD u undef, tmps.getD v undef]) w := by
  have hl := run_loadVar_mid (P := P) w g 0 ty cs.toList d hb.range hu hd (by simpa using hi)
  simp only [Array.toArray_toList] at hl
  have ht' : tmps[a]?.getD undef = .pointer (some ⟨g, 0, none⟩) := by simpa using ht
  simp [results, h, ht', asAddr, hl]

/-- One more, and a struct. -/
theorem results_tmp_box {P : Program} {fn : Func} {a u : Tmp} {ty : TypeId} (h : fn.results = #[.tmp u, .cell a ty]) (tmps : Array Value) (w : World) (g : Nat) (T : TypeId) (cs : Array Value)
    (ht : tmps.getD a undef = .pointer (some ⟨g, 0, none⟩)) (hb : Box w g T cs) (d : TypeDesc) (hu : P.underlying ty = some d) (hd : d.isRow = true) (hi : (P.info? ty).map (·.size) = some cs.size) :
    (results fn tmps).run P w = .ok (.tuple #[tmps.getD u undef, .agg cs]) w := by
  have hl := run_loadVar_mid (P := P) w g 0 ty cs.toList d hb.range hu hd (by simpa using hi)
  simp only [Array.toArray_toList] at hl
  have ht' : tmps[a]?.getD undef = .pointer (some ⟨g, 0, none⟩) := by simpa using ht
  simp [results, h, ht', asAddr, hl]

/-- A struct alone. -/
theorem results_box {P : Program} {fn : Func} {a : Tmp} {ty : TypeId} (h : fn.results = #[.cell a ty]) (tmps : Array Value) (w : World) (g : Nat) (T : TypeId) (cs : Array Value)
    (ht : tmps.getD a undef = .pointer (some ⟨g, 0, none⟩)) (hb : Box w g T cs) (d : TypeDesc) (hu : P.underlying ty = some d) (hd : d.isRow = true) (hi : (P.info? ty).map (·.size) = some cs.size) :
    (results fn tmps).run P w = .ok (.agg cs) w := by
  have hl := run_loadVar_mid (P := P) w g 0 ty cs.toList d hb.range hu hd (by simpa using hi)
  simp only [Array.toArray_toList] at hl
  have ht' : tmps[a]?.getD undef = .pointer (some ⟨g, 0, none⟩) := by simpa using ht
  simp [results, h, ht', asAddr, hl]

/-- Four cells of a block of four, stored. -/
theorem box_four {w : World} {g : Nat} {T : TypeId} {z0 z1 z2 z3 a b c d : Value} (h : Box w g T #[z0, z1, z2, z3]) :
    Box ((((w.setCell ⟨g, 0, none⟩ a).setCell ⟨g, 1, none⟩ b).setCell ⟨g, 2, none⟩ c).setCell ⟨g, 3, none⟩ d) g T #[a, b, c, d] := by
  have := (((h.set 0 a).set 1 b).set 2 c).set 3 d
  simpa using this

theorem box_trio {w : World} {g : Nat} {T : TypeId} {z0 z1 z2 a b c : Value} (h : Box w g T #[z0, z1, z2]) :
    Box (((w.setCell ⟨g, 0, none⟩ a).setCell ⟨g, 1, none⟩ b).setCell ⟨g, 2, none⟩ c) g T #[a, b, c] := by
  have := ((h.set 0 a).set 1 b).set 2 c
  simpa using this

end Go.Proofs.YtfklajkmikanbaaGreatDoor

/- An append at a step of a region that draws its order. -/
namespace Go.Proofs.YtfklajkmikanbaaGreatDoor
open Go.RowKit

/-- An append at a step of a region that draws its order. -/
theorem step_append {P : Program} (w : World) {ops : Array Oper} {o : Oper} {a : Act} {K : Act → World → Prop} {Q : Exit → Act → World → Prop} {E : Prop} (hgd : o.guard = none) (s x : Operand) (t : TypeId)
    (ho : o.op = .call { callee := .builtin .append, args := #[s, x], argTypes := #[t, t] })
    (base : Nat) (e : TypeId) (i : TypeInfo) (z : Value) (size bytes : Nat) (ht : P.underlying t = some (.slice e)) (hi : P.info? e = some i) (hz : i.zero = some z)
    (hsize : i.size = size) (hby : i.bytes = bytes) (hzs : z.cells.size = size) (hsz : 0 < size)
    (v : Value) (n : Nat) (xs : List Value) (hs : a.eval s = v) (hown : w.ownsRow base e size v n xs)
    (B : Nat) (A : Option Addr) (m c : Nat) (news : List Value) (hx : a.eval x = .slice A m c) (hr : Lies w B size A m news) (h1 : ∀ u ∈ news, u.oneCell' = true)
    (h63 : n + m ≤ maxLen) (hbytes : (n + m) * bytes ≤ 140737488355328) (hbase : base ≤ w.heap.size)
    (h : ∀ v' w', w'.ownsRow base e size v' (n + m) (xs ++ news) → w.grownBy w' v.ownBlock → K (a.put o.dst v') w') :
    if Region.wanted o (yielded ops a.tmps) = true then Oper.wp P o a w K Q else E := by
  have hw : Region.wanted o (yielded ops a.tmps) = true := by simp [Region.wanted, hgd]
  rw [if_pos hw]
  obtain ⟨v', w', hrun, h2, h3⟩ := run_append_lies (P := P) w base t o.type e i z size bytes ht hi hz hsize hby hzs hsz v n xs hown B A m c news hr h1 h63 hbytes hbase
  unfold Oper.wp execOp
  simp only [ho, resolve, invoke, builtin, Sem.run_bind, Sem.run_pure, Result.andThen_ok, List.map_toArray, List.map_cons, List.map_nil, hs, hx, hrun]
  exact h v' w' h2 h3

/-- What has just been laid, behind a draw. -/
theorem lies_fresh {w : World} {t : TypeId} {cs : Array Value} {xs : List Value} (n size : Nat) (hc : cs.toList = xs) (hn : cs.size = n * size) : Lies ((w.alloc (.cells cs t)).drew) (w.heap.size + 1) size (some ⟨w.heap.size, 0, none⟩) n xs := by
  have h := lies_new (w := w) (t := t) w.heap.size n size rfl hc hn
  rw [show (w.alloc (.cells cs t)).heap.size = w.heap.size + 1 by simp] at h
  exact h.below (Below.refl _ _).drew

end Go.Proofs.YtfklajkmikanbaaGreatDoor
