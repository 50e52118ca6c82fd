/- Texts of mine put together (a claim has at most so many files): Str, TokPlain, Store. -/
import Derived.Test.YtfklajkmikanbaaGreatDoorBase
import Derived.Lib.Strings
import Derived.Deep.MidRow
import Derived.Maps.AppendAt
/- A text as a list of bytes, and back. No condition. -/
namespace Go.Proofs.YtfklajkmikanbaaGreatDoor
open Go.RowKit

theorem strOf_size (l : List UInt8) : (strOf l).size = l.length := by simp [strOf, ByteArray.size]
theorem strOf_data (l : List UInt8) : (strOf l).data.toList = l := rfl
theorem strOf_toList (l : List UInt8) : (strOf l).toList = l := by rw [ByteArray.toList_eq]; rfl
theorem strOf_of (s : ByteArray) : strOf s.data.toList = s := by
  unfold strOf
  apply ByteArray.ext
  simp

theorem str_ne (s : ByteArray) (h : s.size ≠ 0) : s.toList.isEmpty = false ∧ (s.toList == []) = false := by
  have e : s.toList = s.data.toList := ByteArray.toList_eq s
  have hl : s.data.toList.length ≠ 0 := by simpa using h
  rw [e]
  cases hs : s.data.toList with
  | nil => rw [hs] at hl; simp at hl
  | cons a l => exact ⟨rfl, rfl⟩
theorem str_no (s : ByteArray) (h : s.size = 0) : s.toList.isEmpty = true ∧ (s.toList == []) = true ∧ s.toList = [] := by
  have e : s.toList = s.data.toList := ByteArray.toList_eq s
  have hl : s.data.toList = [] := List.eq_nil_of_length_eq_zero (by simpa using h)
  rw [e, hl]
  exact ⟨rfl, rfl, rfl⟩

theorem str_at (s : ByteArray) (k : Nat) (h : k < s.size) : s.data.toList[k]? = some s[k] := by
  rw [List.getElem?_eq_getElem (by simpa using h)]
  rfl

def strsV (l : List (List UInt8)) : List Value := l.map fun x => .string (strOf x)

theorem strsV_len (l : List (List UInt8)) : (strsV l).length = l.length := by simp [strsV]
theorem strsV_snoc (l : List (List UInt8)) (x : List UInt8) : strsV (l ++ [x]) = strsV l ++ [.string (strOf x)] := by simp [strsV]
theorem strsV_one (l : List (List UInt8)) : ∀ u ∈ strsV l, u.oneCell' = true := by
  intro u hu
  obtain ⟨x, _, rfl⟩ := List.mem_map.1 hu
  rfl

end Go.Proofs.YtfklajkmikanbaaGreatDoor

/- Tokens of a text, as plain functions of what is left of it. -/
namespace Go.Proofs.YtfklajkmikanbaaGreatDoor
open Go.RowKit

def letterB (c : UInt8) : Bool := (decide (97 ≤ (c.toNat : Int)) && decide ((c.toNat : Int) ≤ 122)) || ((decide (65 ≤ (c.toNat : Int)) && decide ((c.toNat : Int) ≤ 90)) || ((c.toNat : Int) == 95))
def digB (c : UInt8) : Bool := decide (48 ≤ (c.toNat : Int)) && decide ((c.toNat : Int) ≤ 57)
def wordB (c : UInt8) : Bool := letterB c || digB c
/-- A byte as a digit of base 16; below 0, if it is none. -/
def hexOf (c : UInt8) : Int :=
  if digB c then (c.toNat : Int) - 48
  else if 97 ≤ (c.toNat : Int) ∧ (c.toNat : Int) ≤ 102 then (c.toNat : Int) - 87
  else if 65 ≤ (c.toNat : Int) ∧ (c.toNat : Int) ≤ 70 then (c.toNat : Int) - 55
  else -1
def isHex (base : Nat) (c : UInt8) : Bool := decide (0 ≤ hexOf c) && decide (hexOf c < (base : Int))

/-- How many at the beginning are so. -/
def runLen (p : UInt8 → Bool) : List UInt8 → Nat
  | [] => 0
  | c :: r => if p c then runLen p r + 1 else 0
/-- What the digits at the beginning say behind n, and how many they are; nothing: too great. -/
def digitsOf (base n : Nat) : List UInt8 → Option (Nat × Nat)
  | [] => some (n, 0)
  | c :: r => if isHex base c then (if (18446744073709551615 - (hexOf c).toNat) / base < n then none else (digitsOf base (n * base + (hexOf c).toNat) r).map fun t => (t.1, t.2 + 1)) else some (n, 0)
def hexAhead (r : List UInt8) : Bool := match r with
  | a :: b :: _ => a == 48 && b == 120
  | _ => false
/-- Goes a word on? -/
def goesOn (r : List UInt8) : Bool := match r with
  | [] => false
  | c :: _ => wordB c
def numL (r : List UInt8) : Option (Nat × Nat) :=
  let off := if hexAhead r then 2 else 0
  match digitsOf (if hexAhead r then 16 else 10) 0 (r.drop off) with
  | none => none
  | some (v, k) => if k = 0 ∨ goesOn (r.drop (off + k)) = true then none else some (v, off + k)

def twoSigns : List (List UInt8) := [[38, 38], [124, 124], [61, 61], [33, 61], [60, 61], [62, 61]]
def oneSigns : List UInt8 := [123, 125, 40, 41, 44, 33, 38, 124, 60, 62]
def signL (r : List UInt8) : Nat := if twoSigns.contains (r.take 2) then 2 else match r with
  | [] => 0
  | c :: _ => if oneSigns.contains c then 1 else 0

def beginsL (t r : List UInt8) : Bool := r.take t.length == t
/-- How far to behind the end of a remark. -/
def endOf : List UInt8 → Option Nat
  | [] => none
  | c :: r => if beginsL [42, 47] (c :: r) then some 2 else (endOf r).map (· + 1)
def blankB (c : UInt8) : Bool := (c == 32) || ((c == 9) || ((c == 10) || (c == 13)))
/-- How many tell nothing; nothing: they don't end. -/
def skipL (r : List UInt8) : Option Nat := match r with
  | [] => some 0
  | c :: _ =>
    if blankB c then some 1
    else if beginsL [47, 47] r then some (runLen (fun x => !(x == 10)) r)
    else if beginsL [47, 42] r then (endOf (r.drop 2)).map (· + 2)
    else some 0

/-- A token: its kind, its text, how many bytes it takes. -/
def oneL (r : List UInt8) : Option (Int × List UInt8 × Nat) := match r with
  | [] => none
  | c :: t =>
    if letterB c then some (1, r.take (runLen wordB r), runLen wordB r)
    else if digB c then (numL r).map fun v => (2, r.take v.2, v.2)
    else if c = 34 then
      (match t.drop (runLen (fun x => !(x == 34) && !(x == 10)) t) with
      | 34 :: _ => some (4, t.take (runLen (fun x => !(x == 34) && !(x == 10)) t), runLen (fun x => !(x == 34) && !(x == 10)) t + 2)
      | _ => none)
    else if c = 35 then
      (if beginsL [35, 105, 110, 99, 108, 117, 100, 101] r && !goesOn (r.drop 8) then some (5, [35, 105, 110, 99, 108, 117, 100, 101], 8)
      else if beginsL [35, 100, 101, 102, 105, 110, 101] r && !goesOn (r.drop 7) then some (5, [35, 100, 101, 102, 105, 110, 101], 7)
      else none)
    else if signL r = 0 then none else some (3, r.take (signL r), signL r)

/-! ### Where a byte stands in what is left -/
theorem drop_at (s : ByteArray) (k : Nat) (h : k < s.size) : s.data.toList.drop k = s[k]'h :: s.data.toList.drop (k + 1) := by
  have hl : k < s.data.toList.length := by rw [Array.length_toList]; exact h
  rw [List.drop_eq_getElem_cons hl]
  rfl
theorem drop_end (s : ByteArray) (k : Nat) (h : s.size ≤ k) : s.data.toList.drop k = [] := List.drop_eq_nil_of_le (by rw [Array.length_toList]; exact h)
theorem run_le (p : UInt8 → Bool) : ∀ r : List UInt8, runLen p r ≤ r.length
  | [] => Nat.le_refl _
  | c :: r => by
    rw [runLen]
    split
    · have := run_le p r
      rw [List.length_cons]
      omega
    · exact Nat.zero_le _
theorem take_str (s : ByteArray) (i k : Nat) : s.extract i k = strOf ((s.data.toList.drop i).take (k - i)) := Go.Lib.extract_eq s i k

end Go.Proofs.YtfklajkmikanbaaGreatDoor

/- A whole struct stored into a block that is known whole; small steps of 'Below' and 'Box'. No condition. -/
namespace Go.Proofs.YtfklajkmikanbaaGreatDoor
open Go.RowKit

theorem Box.setCells {g : Nat} {t : TypeId} : ∀ (vs : List Value) (o : Nat) (w : World) (cs : Array Value), Box w g t cs → ∃ cs' : Array Value, cs'.size = cs.size ∧ Box (w.setCells g o vs) g t cs'
  | [], _, _, cs, h => ⟨cs, rfl, h⟩
  | v :: r, o, w, cs, h => by
    obtain ⟨cs', hs, hb⟩ := Box.setCells r (o + 1) _ _ (h.set o v)
    exact ⟨cs', by rw [hs]; simp, hb⟩

theorem only_setCells {g : Nat} : ∀ (vs : List Value) (o : Nat) (w : World), w.grownBy (w.setCells g o vs) (some g)
  | [], _, w => only_refl w g
  | v :: r, o, w => only_trans (only_set w g o v) (only_setCells r (o + 1) _)

theorem Box.there {w : World} {g : Nat} {t : TypeId} {cs : Array Value} (h : Box w g t cs) : w.there g 0 cs.size := fun j hj => by
  rw [Nat.zero_add]
  exact ⟨by rw [h.cell j, Array.getElem?_eq_getElem hj]; rfl, h.free j⟩

theorem Box.store {w : World} {g : Nat} {t : TypeId} {cs vs : Array Value} (h : Box w g t cs) (hs : cs.size = vs.size) : Box (w.setCells g 0 vs.toList) g t vs := by
  obtain ⟨cs', hs', hb⟩ := Box.setCells vs.toList 0 w cs h
  have hr := World.rangeAt_setCells_same w g 0 vs.toList (by rw [Array.length_toList, ← hs]; exact h.there)
  have e : cs' = vs := by
    apply Array.ext
    · omega
    · intro i h1 h2
      have := hr i vs[i] (by simp [Array.getElem?_toList, Array.getElem?_eq_getElem h2])
      rw [Nat.zero_add, hb.cell i, Array.getElem?_eq_getElem h1] at this
      exact Option.some.inj this
  rwa [e] at hb

/-- A whole struct is stored. -/
theorem wp_store_box {P : Program} {op : Oper} {a : Act} {w : World} {K : Act → World → Prop} {Q : Exit → Act → World → Prop} (ty : TypeId) (x y : Operand) (ho : op.op = .store ty x y)
    (g : Nat) (t : TypeId) (cs vs : Array Value) (hx : a.eval x = .pointer (some ⟨g, 0, none⟩)) (hy : a.eval y = .agg vs) (hb : Box w g t cs) (hs : cs.size = vs.size)
    (hi : (P.info? ty).map (·.size) = some vs.size) (h1 : vs.all (·.oneCell') = true)
    (h : ∀ w', Box w' g t vs → w.grownBy w' (some g) → K (a.put op.dst undef) w') : op.wp P a w K Q :=
  wp_store_mid ty x y ho g 0 vs hx hy (by rw [← hs]; exact hb.there) hi h1 (h _ (hb.store hs) (only_setCells _ _ _))

theorem wpList_store_box {P : Program} {ops : Array Oper} {rest : List Oper} {op : Oper} {a : Act} {w : World} {Q : Exit → Act → World → Prop} (hgd : op.guard = none) (ty : TypeId) (x y : Operand) (ho : op.op = .store ty x y)
    (g : Nat) (t : TypeId) (cs vs : Array Value) (hx : a.eval x = .pointer (some ⟨g, 0, none⟩)) (hy : a.eval y = .agg vs) (hb : Box w g t cs) (hs : cs.size = vs.size)
    (hi : (P.info? ty).map (·.size) = some vs.size) (h1 : vs.all (·.oneCell') = true)
    (h : ∀ w', Box w' g t vs → w.grownBy w' (some g) → wpList P ops Q rest (a.put op.dst undef) w') : wpList P ops Q (op :: rest) a w :=
  wpList_plain hgd fun _ hK => wp_store_box ty x y ho g t cs vs hx hy hb hs hi h1 fun w' hb' hg' => hK _ _ (h w' hb' hg')

/-- The same at a step of a region that draws its order. -/
theorem step_store_box {P : Program} {ops : Array Oper} {op : Oper} {a : Act} {w : World} {K : Act → World → Prop} {Q : Exit → Act → World → Prop} {E : Prop} (hgd : op.guard = none) (ty : TypeId) (x y : Operand) (ho : op.op = .store ty x y)
    (g : Nat) (t : TypeId) (cs vs : Array Value) (hx : a.eval x = .pointer (some ⟨g, 0, none⟩)) (hy : a.eval y = .agg vs) (hb : Box w g t cs) (hs : cs.size = vs.size)
    (hi : (P.info? ty).map (·.size) = some vs.size) (h1 : vs.all (·.oneCell') = true)
    (h : ∀ w', Box w' g t vs → w.grownBy w' (some g) → K (a.put op.dst undef) w') : if Region.wanted op (yielded ops a.tmps) = true then Oper.wp P op a w K Q else E := by
  have hw : Region.wanted op (yielded ops a.tmps) = true := by simp [Region.wanted, hgd]
  rw [if_pos hw]
  exact wp_store_box ty x y ho g t cs vs hx hy hb hs hi h1 h

/-- A block that is known whole, behind a call that writes nothing that was there. -/
theorem Box.step {w w' : World} {g : Nat} {t : TypeId} {cs : Array Value} (h : Box w g t cs) (hb : Below w.heap.size w w') : Box w' g t cs := h.below hb h.lt

theorem below_step {B : Nat} {a W w1 : World} (h : Below B a W) (hB : B ≤ a.heap.size) (hb : Below W.heap.size W w1) : Below B a w1 := h.trans (hb.mono (Nat.le_trans hB h.size))
theorem below_alloc {B : Nat} {a W : World} (h : Below B a W) (hB : B ≤ a.heap.size) (o : Obj) : Below B a (W.alloc o) := h.alloc (Nat.le_trans hB h.size) o
theorem below_set {B g i : Nat} {a W : World} {u : Value} (hB : B ≤ g) (h : Below B a W) : Below B a (W.setCell ⟨g, i, none⟩ u) := h.setCell (p := ⟨g, i, none⟩) hB u

theorem to_below {P : Program} {f : FuncId} {args : Array Value} {W : World} {v : Ending} (h : Calls P f args W fun r w' => r = v ∧ ∃ m, w' = W.drewN m) : Calls P f args W fun r w' => r = v ∧ Below W.heap.size W w' :=
  h.mono fun _ _ ⟨he, m, hm⟩ => ⟨he, by rw [hm]; exact below_drewN (Below.refl _ _) m⟩

/-- What a slice literal has just laid down. -/
theorem lies_new {w : World} {t : TypeId} {cs : Array Value} {xs : List Value} (g n size : Nat) (hg : g = w.heap.size) (hc : cs.toList = xs) (hn : cs.size = n * size) : Lies (w.alloc (.cells cs t)) (w.alloc (.cells cs t)).heap.size size (some ⟨g, 0, none⟩) n xs := by
  subst hc hg
  have h := Box.new w t cs
  exact ⟨by simpa using hn, fun _ => ⟨w.heap.size, 0, rfl, h.lt, fun j u hu => by rw [Nat.zero_add, h.cell j]; simpa using hu⟩⟩

/-- A block that is not the one that turned. -/
theorem box_only {w w' : World} {g k : Nat} {t : TypeId} {cs : Array Value} (h : Box w k t cs) (hk : k ≠ g) (ho : w.grownBy w' (some g)) : Box w' k t cs :=
  (ho.block k h.lt (fun e => hk (Option.some.inj e))).trans h

/-! ### Two rows that grow side by side -/
/-- Two rows don't lie in one block. -/
def Apart (v u : Value) : Prop := ∀ k, v.ownBlock = some k → u.ownBlock = some k → False

theorem Apart.symm {v u : Value} (h : Apart v u) : Apart u v := fun k h1 h2 => h k h2 h1
theorem Apart.nil_left (u : Value) : Apart (.slice none 0 0) u := fun k h => by simp [Value.ownBlock] at h
theorem Apart.nil_right (u : Value) : Apart u (.slice none 0 0) := (Apart.nil_left u).symm

/-- The other row behind an append to the one. -/
theorem own_apart {w w' : World} {base size n : Nat} {e : TypeId} {u v : Value} {xs : List Value} (h : w.ownsRow base e size u n xs) (hg : w.grownBy w' v.ownBlock) (ha : Apart v u) : w'.ownsRow base e size u n xs := by
  refine h.kept hg ?_
  cases hu : u.ownBlock with
  | none => exact .inl rfl
  | some k => exact .inr fun e => ha k e.symm hu

theorem Apart.grown {w : World} {base size n : Nat} {e : TypeId} {u v v' : Value} {xs : List Value} (ha : Apart v u) (h : w.ownsRow base e size u n xs) {H : Nat} (hH : w.heap.size ≤ H) (h4 : v'.ownBlock = v.ownBlock ∨ v'.ownBlock = some H) : Apart v' u := by
  intro k h1 h2
  rcases h4 with h4 | h4
  · exact ha k (h4 ▸ h1) h2
  · rw [h4] at h1
    have := (h.lt k h2).2
    injection h1 with e
    omega

/-- append(out, x, y ..), a literal, with the block that the row then lies in. -/
theorem wpList_append_lit_at {P : Program} (w : World) {ops : Array Oper} {rest : List Oper} {o : Oper} {a : Act} {Q : Exit → Act → World → Prop} (hgd : o.guard = none) (s x : Operand) (t : TypeId)
    (ho : o.op = .call { callee := .builtin .append, args := #[s, x], argTypes := #[t, t] })
    (base : Nat) (e : TypeId) (i : TypeInfo) (z : Value) (size bytes : Nat) (ht : P.underlying t = some (.slice e)) (hi : P.info? e = some i) (hz : i.zero = some z)
    (hsize : i.size = size) (hby : i.bytes = bytes) (hzs : z.cells.size = size) (hsz : 0 < size)
    (v : Value) (n : Nat) (xs : List Value) (hs : a.eval s = v) (hown : w.ownsRow base e size v n xs)
    (cs : Array Value) (et : TypeId) (m c : Nat) (hx : a.eval x = .slice (some ⟨w.heap.size, 0, none⟩) m c) (hm : cs.size = m * size) (h1 : ∀ u ∈ cs.toList, u.oneCell' = true)
    (h63 : n + m ≤ maxLen) (hbytes : (n + m) * bytes ≤ 140737488355328) (hbase : base ≤ w.heap.size)
    (h : ∀ v' w', w'.ownsRow base e size v' (n + m) (xs ++ cs.toList) → (w.alloc (.cells cs et)).grownBy w' v.ownBlock → (v'.ownBlock = v.ownBlock ∨ v'.ownBlock = some (w.heap.size + 1)) → wpList P ops Q rest (a.put o.dst v') w') : wpList P ops Q (o :: rest) a (w.alloc (.cells cs et)) := by
  refine wpList_append_own_at _ hgd s x t ho base e i z size bytes ht hi hz hsize hby hzs hsz v n xs hs (hown.alloc _) ⟨w.heap.size, 0, none⟩ m c cs.toList hx (by simpa using hm) (fun j u hu => ?_) h1 h63 hbytes (by simp; omega) (fun v' w' h1 h2 _ h4 => h v' w' h1 h2 (by simpa using h4))
  rw [addr_lit, cell_of_row _ w.heap.size (0 + j) cs et (0, 0) (heap_alloc_new w _)]
  simpa using hu

end Go.Proofs.YtfklajkmikanbaaGreatDoor
