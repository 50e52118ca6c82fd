/- Texts of mine put together (a claim has at most so many files): ResBox, Append, TokOne, TokTwo, SpotRef. -/
import Derived.Test.YtdjhpgpekomjeaaDoorStore
import Derived.Deep.MidRow
import Derived.Test.YtdjhpgpekomjeaaDoorPart2
import Derived.Test.YtdjhpgpekomjeaaDoorPart1
import Derived.Test.YtdjhpgpekomjeaaDoorChecked
import Derived.Lib.Hide
import Derived.Lib.Strings
import Derived.WalkLawsBesides
/- A struct among a call's results, read off the block that holds it. -/
namespace Go.Proofs.YtdjhpgpekomjeaaDoor
open Go.RowKit

theorem Box.other {w : World} {g g' i : Nat} {t : TypeId} {cs : Array Value} {u : Value} (h : Box w g t cs) (hg : g ≠ g') : Box (w.setCell ⟨g', i, none⟩ u) g t cs := by
  have := (only_set w g' i u).block g h.lt (by simpa using hg)
  unfold Box
  rw [this]
  exact h

theorem Box.range {w : World} {g : Nat} {t : TypeId} {cs : Array Value} (h : Box w g t cs) : w.rangeAt g 0 cs.toList := by
  intro j v hj
  rw [Nat.zero_add, h.cell j]
  simpa using hj

/-- A struct and one more. -/
theorem results_box_tmp {P : Program} {fn : Func} {a u : Tmp} {ty : TypeId} (h : fn.results = #[.cell a ty, .tmp u]) (tmps : Array Value) (w : World) (g : Nat) (T : TypeId) (cs : Array Value)
    (ht : tmps.getD a undef = .pointer (some ⟨g, 0, none⟩)) (hb : Box w g T cs) (d : TypeDesc) (hu : P.underlying ty = some d) (hd : d.isRow = true) (hi : (P.info? ty).map (·.size) = some cs.size) :
    (results fn tmps).run P w = .ok (.tuple #[.agg cs, tmps.getD u undef]) w := by
  have hl := run_loadVar_mid (P := P) w g 0 ty cs.toList d hb.range hu hd (by simpa using hi)
  simp only [Array.toArray_toList] at hl
  have ht' : tmps[a]?.getD undef = .pointer (some ⟨g, 0, none⟩) := by simpa using ht
  simp [results, h, ht', asAddr, hl]

/-- A struct and two more. -/
theorem results_box_tmp2 {P : Program} {fn : Func} {a u v : Tmp} {ty : TypeId} (h : fn.results = #[.cell a ty, .tmp u, .tmp v]) (tmps : Array Value) (w : World) (g : Nat) (T : TypeId) (cs : Array Value)
    (ht : tmps.getD a undef = .pointer (some ⟨g, 0, none⟩)) (hb : Box w g T cs) (d : TypeDesc) (hu : P.underlying ty = some d) (hd : d.isRow = true) (hi : (P.info? ty).map (·.size) = some cs.size) :
    (results fn tmps).run P w = .ok (.tuple #[.agg cs, tmps.getD u undef, tmps.getD v undef]) w := by
  have hl := run_loadVar_mid (P := P) w g 0 ty cs.toList d hb.range hu hd (by simpa using hi)
  simp only [Array.toArray_toList] at hl
  have ht' : tmps[a]?.getD undef = .pointer (some ⟨g, 0, none⟩) := by simpa using ht
  simp [results, h, ht', asAddr, hl]

/-- One more, and a struct. -/
theorem results_tmp_box {P : Program} {fn : Func} {a u : Tmp} {ty : TypeId} (h : fn.results = #[.tmp u, .cell a ty]) (tmps : Array Value) (w : World) (g : Nat) (T : TypeId) (cs : Array Value)
    (ht : tmps.getD a undef = .pointer (some ⟨g, 0, none⟩)) (hb : Box w g T cs) (d : TypeDesc) (hu : P.underlying ty = some d) (hd : d.isRow = true) (hi : (P.info? ty).map (·.size) = some cs.size) :
    (results fn tmps).run P w = .ok (.tuple #[tmps.getD u undef, .agg cs]) w := by
  have hl := run_loadVar_mid (P := P) w g 0 ty cs.toList d hb.range hu hd (by simpa using hi)
  simp only [Array.toArray_toList] at hl
  have ht' : tmps[a]?.getD undef = .pointer (some ⟨g, 0, none⟩) := by simpa using ht
  simp [results, h, ht', asAddr, hl]

/-- A struct alone. -/
theorem results_box {P : Program} {fn : Func} {a : Tmp} {ty : TypeId} (h : fn.results = #[.cell a ty]) (tmps : Array Value) (w : World) (g : Nat) (T : TypeId) (cs : Array Value)
    (ht : tmps.getD a undef = .pointer (some ⟨g, 0, none⟩)) (hb : Box w g T cs) (d : TypeDesc) (hu : P.underlying ty = some d) (hd : d.isRow = true) (hi : (P.info? ty).map (·.size) = some cs.size) :
    (results fn tmps).run P w = .ok (.agg cs) w := by
  have hl := run_loadVar_mid (P := P) w g 0 ty cs.toList d hb.range hu hd (by simpa using hi)
  simp only [Array.toArray_toList] at hl
  have ht' : tmps[a]?.getD undef = .pointer (some ⟨g, 0, none⟩) := by simpa using ht
  simp [results, h, ht', asAddr, hl]

/-- Four cells of a block of four, stored. -/
theorem box_four {w : World} {g : Nat} {T : TypeId} {z0 z1 z2 z3 a b c d : Value} (h : Box w g T #[z0, z1, z2, z3]) :
    Box ((((w.setCell ⟨g, 0, none⟩ a).setCell ⟨g, 1, none⟩ b).setCell ⟨g, 2, none⟩ c).setCell ⟨g, 3, none⟩ d) g T #[a, b, c, d] := by
  have := (((h.set 0 a).set 1 b).set 2 c).set 3 d
  simpa using this

theorem box_trio {w : World} {g : Nat} {T : TypeId} {z0 z1 z2 a b c : Value} (h : Box w g T #[z0, z1, z2]) :
    Box (((w.setCell ⟨g, 0, none⟩ a).setCell ⟨g, 1, none⟩ b).setCell ⟨g, 2, none⟩ c) g T #[a, b, c] := by
  have := ((h.set 0 a).set 1 b).set 2 c
  simpa using this

end Go.Proofs.YtdjhpgpekomjeaaDoor

/- An append at a step of a region that draws its order. -/
namespace Go.Proofs.YtdjhpgpekomjeaaDoor
open Go.RowKit

/-- An append at a step of a region that draws its order. -/
theorem step_append {P : Program} (w : World) {ops : Array Oper} {o : Oper} {a : Act} {K : Act → World → Prop} {Q : Exit → Act → World → Prop} {E : Prop} (hgd : o.guard = none) (s x : Operand) (t : TypeId)
    (ho : o.op = .call { callee := .builtin .append, args := #[s, x], argTypes := #[t, t] })
    (base : Nat) (e : TypeId) (i : TypeInfo) (z : Value) (size bytes : Nat) (ht : P.underlying t = some (.slice e)) (hi : P.info? e = some i) (hz : i.zero = some z)
    (hsize : i.size = size) (hby : i.bytes = bytes) (hzs : z.cells.size = size) (hsz : 0 < size)
    (v : Value) (n : Nat) (xs : List Value) (hs : a.eval s = v) (hown : w.ownsRow base e size v n xs)
    (B : Nat) (A : Option Addr) (m c : Nat) (news : List Value) (hx : a.eval x = .slice A m c) (hr : Lies w B size A m news) (h1 : ∀ u ∈ news, u.oneCell' = true)
    (h63 : n + m ≤ maxLen) (hbytes : (n + m) * bytes ≤ 140737488355328) (hbase : base ≤ w.heap.size)
    (h : ∀ v' w', w'.ownsRow base e size v' (n + m) (xs ++ news) → w.grownBy w' v.ownBlock → K (a.put o.dst v') w') :
    if Region.wanted o (yielded ops a.tmps) = true then Oper.wp P o a w K Q else E := by
  have hw : Region.wanted o (yielded ops a.tmps) = true := by simp [Region.wanted, hgd]
  rw [if_pos hw]
  obtain ⟨v', w', hrun, h2, h3⟩ := run_append_lies (P := P) w base t o.type e i z size bytes ht hi hz hsize hby hzs hsz v n xs hown B A m c news hr h1 h63 hbytes hbase
  unfold Oper.wp execOp
  simp only [ho, resolve, invoke, builtin, Sem.run_bind, Sem.run_pure, Result.andThen_ok, List.map_toArray, List.map_cons, List.map_nil, hs, hx, hrun]
  exact h v' w' h2 h3

/-- What has just been laid, behind a draw. -/
theorem lies_fresh {w : World} {t : TypeId} {cs : Array Value} {xs : List Value} (n size : Nat) (hc : cs.toList = xs) (hn : cs.size = n * size) : Lies ((w.alloc (.cells cs t)).drew) (w.heap.size + 1) size (some ⟨w.heap.size, 0, none⟩) n xs := by
  have h := lies_new (w := w) (t := t) w.heap.size n size rfl hc hn
  rw [show (w.alloc (.cells cs t)).heap.size = w.heap.size + 1 by simp] at h
  exact h.below (Below.refl _ _).drew

end Go.Proofs.YtdjhpgpekomjeaaDoor

/- What the document's own one gives: the token that begins at a place. -/
namespace Go.Proofs.YtdjhpgpekomjeaaDoor
open Go.RowKit

def tokCells (k : Int) (x : ByteArray) (f : Int) (re im : Nat) : Array Value := #[.int .i64 k, .string x, .int .i64 f, .complex .f64 re im]
/-- What a function that hands back a token, a place and a bool gives. -/
def TokAt (t : Option (Int × List UInt8 × Nat)) (at0 : Nat) (w : World) : Ending → World → Prop := fun r w' => r = .returned (match t with
  | none => .tuple #[.agg (tokCells 0 ⟨#[]⟩ 0 0 0), .int .i64 0, .bool false]
  | some v => .tuple #[.agg (tokCells v.1 (strOf v.2.1) 0 0 0), .int .i64 ((at0 + v.2.2 : Nat) : Int), .bool true]) ∧ Below w.heap.size w w'

theorem store_cx (re im : Nat) (a : Addr) (W : World) (m : Mode) : (store a (.complex .f64 re im) m).run Tryd.prog W = stored Tryd.prog W a (.complex .f64 re im) m := run_store _ W a _ m rfl

theorem tokSize : (Tryd.prog.info? 35).map (·.size) = some 4 := by kernel_rfl

/-- The end of each way: the token is stored, then all comes back. -/
theorem one_end (w w' : World) (hb : Below w.heap.size w w') (g : Nat) (hg : g = w.heap.size) (t : Option (Int × List UInt8 × Nat)) (at0 : Nat) (k : Int) (x : ByteArray) (e : Int) (b : Bool)
    (h : (match t with
      | none => Value.tuple #[.agg (tokCells 0 ⟨#[]⟩ 0 0 0), .int .i64 0, .bool false]
      | some v => .tuple #[.agg (tokCells v.1 (strOf v.2.1) 0 0 0), .int .i64 ((at0 + v.2.2 : Nat) : Int), .bool true]) = .tuple #[.agg #[.int .i64 k, .string x, .int .i64 0, .complex .f64 0 0], .int .i64 e, .bool b]) :
    TokAt t at0 w (.returned (.tuple #[.agg #[.int .i64 k, .string x, .int .i64 0, .complex .f64 0 0], .int .i64 e, .bool b])) ((((w'.setCell ⟨g, 0, none⟩ (.int .i64 k)).setCell ⟨g, 1, none⟩ (.string x)).setCell ⟨g, 2, none⟩ (.int .i64 0)).setCell ⟨g, 3, none⟩ (.complex .f64 0 0)) := by
  subst hg
  refine ⟨by rw [h], ?_⟩
  iterate 4 (with_reducible refine below_set (Nat.le_refl _) ?_)
  exact hb

theorem digits_len (base : Nat) : ∀ (r : List UInt8) (n v k : Nat), digitsOf base n r = some (v, k) → k ≤ r.length
  | [], n, v, k, h => by
    simp [digitsOf] at h
    omega
  | c :: r, n, v, k, h => by
    rw [digitsOf] at h
    split at h
    · split at h
      · cases h
      · cases hd : digitsOf base (n * base + (hexOf c).toNat) r with
        | none => rw [hd] at h; cases h
        | some t =>
          rw [hd] at h
          have := digits_len base r _ t.1 t.2 hd
          simp only [Option.map_some, Option.some.injEq, Prod.mk.injEq] at h
          rw [List.length_cons]
          omega
    · simp only [Option.some.injEq, Prod.mk.injEq] at h
      omega
theorem num_len {r : List UInt8} {v : Nat × Nat} (h : numL r = some v) : v.2 ≤ r.length := by
  rw [num_is] at h
  cases hf : numFrom (if hexAhead r then 16 else 10) (r.drop (if hexAhead r then 2 else 0)) with
  | none => rw [hf] at h; cases h
  | some t =>
    rw [hf] at h
    simp only [Option.map_some, Option.some.injEq] at h
    have h1 : t.2 ≤ (r.drop (if hexAhead r then 2 else 0)).length := by
      unfold numFrom at hf
      cases hd : digitsOf (if hexAhead r then 16 else 10) 0 (r.drop (if hexAhead r then 2 else 0)) with
      | none => rw [hd] at hf; cases hf
      | some u =>
        obtain ⟨v1, k1⟩ := u
        rw [hd] at hf
        dsimp only at hf
        by_cases hk : k1 = 0 ∨ goesOn ((r.drop (if hexAhead r then 2 else 0)).drop k1) = true
        · rw [if_pos hk] at hf
          cases hf
        · rw [if_neg hk] at hf
          simp only [Option.some.injEq] at hf
          rw [← hf]
          exact digits_len _ _ _ _ _ hd
    have h2 : (if hexAhead r then 2 else 0) ≤ r.length := by
      split
      · rename_i hx
        cases r with
        | nil => cases hx
        | cons a r =>
          cases r with
          | nil => cases hx
          | cons b r => simp
      · omega
    rw [← h]
    rw [List.length_drop] at h1
    show (if hexAhead r then 2 else 0) + t.2 ≤ _
    omega
theorem sign_len {r : List UInt8} : signL r ≤ r.length := by
  unfold signL
  split
  · rename_i h
    have hm : r.take 2 ∈ twoSigns := by simpa using h
    have hlen : (r.take 2).length = 2 := by
      simp only [twoSigns, List.mem_cons, List.not_mem_nil, or_false] at hm
      rcases hm with e | e | e | e | e | e <;> rw [e] <;> rfl
    rw [List.length_take] at hlen
    omega
  · cases r with
    | nil => exact Nat.le_refl _
    | cons c r =>
      dsimp only
      split <;> simp

end Go.Proofs.YtdjhpgpekomjeaaDoor

/- What the document's own one gives: texts and words with '#'; all ways together. -/
namespace Go.Proofs.YtdjhpgpekomjeaaDoor
open Go.RowKit

end Go.Proofs.YtdjhpgpekomjeaaDoor

/- What the document's own At, Spot and Place give. -/
namespace Go.Proofs.YtdjhpgpekomjeaaDoor
open Go.RowKit

/-- A whole number as a float. -/
def fl (n : Int) : Nat := floatOfInt .f64 n
theorem fl1 : fl 1 = 4607182418800017408 := by decide +kernel
def fcx (p : Nat × Nat) : Value := .complex .f64 (fl (p.1 : Int)) (fl (p.2 : Int))
def feq (a b : Nat) : Bool := FloatKind.f64.format.order a b == some .eq

def stepPos (p : Nat × Nat) (b : UInt8) : Nat × Nat := if b = 10 then (p.1 + 1, 1) else (p.1, p.2 + 1)
def posFrom (p : Nat × Nat) (l : List UInt8) : Nat × Nat := l.foldl stepPos p
/-- A number cut to a text. -/
def cutTo (n : Nat) (i : Int) : Nat := if i < 0 then 0 else if (n : Int) < i then n else i.toNat
/-- Line and column. -/
def posAt (s : List UInt8) (i : Int) : Nat × Nat := posFrom (1, 1) (s.take (cutTo s.length i))

theorem pos_le : ∀ (l : List UInt8) (p : Nat × Nat), (posFrom p l).1 ≤ p.1 + l.length ∧ (posFrom p l).2 ≤ max p.2 1 + l.length
  | [], p => by simp [posFrom]; omega
  | b :: l, p => by
    have := pos_le l (stepPos p b)
    unfold posFrom at this ⊢
    rw [List.foldl_cons]
    simp only [stepPos, List.length_cons] at this ⊢
    split at this <;> rename_i h <;> simp only [h, if_true, if_false] <;> omega
theorem pos_snoc (l : List UInt8) (b : UInt8) (p : Nat × Nat) : posFrom p (l ++ [b]) = stepPos (posFrom p l) b := by simp [posFrom, List.foldl_append]

def Ats (s : ByteArray) (m : Nat) (w : World) (y x k' : Value) (wr : World) : Prop :=
  (∃ k : Nat, k ≤ m ∧ k' = .int .i64 k ∧ y = .int .i64 ((posFrom (1, 1) (s.data.toList.take k)).1 : Int) ∧ x = .int .i64 ((posFrom (1, 1) (s.data.toList.take k)).2 : Int)) ∧ w = wr

end Go.Proofs.YtdjhpgpekomjeaaDoor
