/- Expressions, rules, policies and units as they lie in memory. No program. -/
import Derived.Test.YtfklajkmikanbaaGreatDoorBase
namespace Go.Proofs.YtfklajkmikanbaaGreatDoor
open Go.RowKit

/-- An expression, with the place of its kids. -/
inductive Ex where
  | node (kd : Int) (op nm : ByteArray) (nu : Int) (A : Option Addr) (c : Nat) (ks : List Ex)

def Ex.kids : Ex → List Ex | .node _ _ _ _ _ _ ks => ks
def Ex.cells : Ex → List Value | .node kd op nm nu A c ks => [.int .i64 kd, .string op, .string nm, .int .u64 nu, .slice A ks.length c]
def Ex.val : Ex → Value | .node kd op nm nu A c ks => .agg #[.int .i64 kd, .string op, .string nm, .int .u64 nu, .slice A ks.length c]
theorem Ex.cells_len (e : Ex) : e.cells.length = 5 := by cases e; rfl

structure Rul where
  call : ByteArray
  pA : Option Addr
  pc : Nat
  params : List ByteArray
  cA : Option Addr
  cc : Nat
  cond : List Ex
structure Par where
  use : ByteArray
  kind : Int
  data : Int
  rA : Option Addr
  rc : Nat
  rules : List Rul
structure Pol where
  name : ByteArray
  A : Option Addr
  c : Nat
  parts : List Par
structure Dfn where
  name : ByteArray
  ex : Ex
structure Unt where
  dA : Option Addr
  dc : Nat
  defs : List Dfn
  pA : Option Addr
  pc : Nat
  pols : List Pol
  mA : Option Addr
  mc : Nat
  main : List ByteArray
  kind : Int
  data : Int

def strCells (s : ByteArray) : List Value := [.string s]
def Rul.cells (r : Rul) : List Value := [.string r.call, .slice r.pA r.params.length r.pc, .slice r.cA r.cond.length r.cc]
def Rul.val (r : Rul) : Value := .agg #[.string r.call, .slice r.pA r.params.length r.pc, .slice r.cA r.cond.length r.cc]
def Par.cells (p : Par) : List Value := [.string p.use, .int .i64 p.kind, .int .i64 p.data, .slice p.rA p.rules.length p.rc]
def Par.val (p : Par) : Value := .agg #[.string p.use, .int .i64 p.kind, .int .i64 p.data, .slice p.rA p.rules.length p.rc]
def Pol.cells (p : Pol) : List Value := [.string p.name, .slice p.A p.parts.length p.c]
def Pol.val (p : Pol) : Value := .agg #[.string p.name, .slice p.A p.parts.length p.c]
def Dfn.cells (d : Dfn) : List Value := .string d.name :: d.ex.cells
def Unt.cells (u : Unt) : List Value := [.slice u.dA u.defs.length u.dc, .slice u.pA u.pols.length u.pc, .slice u.mA u.main.length u.mc, .int .i64 u.kind, .int .i64 u.data]
def Unt.val (u : Unt) : Value := .agg #[.slice u.dA u.defs.length u.dc, .slice u.pA u.pols.length u.pc, .slice u.mA u.main.length u.mc, .int .i64 u.kind, .int .i64 u.data]

theorem Rul.cells_len (r : Rul) : r.cells.length = 3 := rfl
theorem Par.cells_len (p : Par) : p.cells.length = 4 := rfl
theorem Pol.cells_len (p : Pol) : p.cells.length = 2 := rfl
theorem Dfn.cells_len (d : Dfn) : d.cells.length = 6 := by show d.ex.cells.length + 1 = 6; rw [Ex.cells_len]
theorem str_len (s : ByteArray) : (strCells s).length = 1 := rfl

def I64 (n : Int) : Prop := -9223372036854775808 ≤ n ∧ n ≤ 9223372036854775807
def U64 (n : Int) : Prop := 0 ≤ n ∧ n ≤ 18446744073709551615

/-- A slice at A of capacity c holds the elements l, each of C cells, each as P says, below block B. -/
structure SlIn {α : Type} (w : World) (B C : Nat) (f : α → List Value) (P : α → Prop) (A : Option Addr) (c : Nat) (l : List α) : Prop where
  lies : Lies w B C A l.length (l.flatMap f)
  all : ∀ x ∈ l, P x
  cap : l.length ≤ c
  room : c ≤ maxLen

theorem flat_at {α : Type} {f : α → List Value} {C : Nat} (hC : ∀ x, (f x).length = C) : ∀ (l : List α) (k : Nat) (x : α), l[k]? = some x → ∀ j u, (f x)[j]? = some u → (l.flatMap f)[k * C + j]? = some u
  | [], k, x, h, _, _, _ => by simp at h
  | y :: l, k, x, h, j, u, hu => by
    have hj : j < C := by rw [← hC x]; exact (List.getElem?_eq_some_iff.1 hu).1
    rw [List.flatMap_cons]
    cases k with
    | zero =>
      obtain rfl : y = x := by simpa using h
      rw [Nat.zero_mul, Nat.zero_add, List.getElem?_append_left (by rw [hC]; exact hj)]
      exact hu
    | succ k =>
      have h' : l[k]? = some x := by simpa using h
      rw [List.getElem?_append_right (by rw [hC, Nat.add_mul]; omega), hC, show (k + 1) * C + j - C = k * C + j from by rw [Nat.add_mul]; omega]
      exact flat_at hC l k x h' j u hu

section
variable {α : Type} {w w' : World} {B B' C c : Nat} {f : α → List Value} {P Q : α → Prop} {A : Option Addr} {l : List α}

theorem SlIn.at (h : SlIn w B C f P A c l) (hC : ∀ x, (f x).length = C) {k : Nat} (hk : k < l.length) :
    ∃ b o x, A = some ⟨b, o, none⟩ ∧ b < B ∧ l[k]? = some x ∧ P x ∧ x ∈ l ∧ ∀ j u, (f x)[j]? = some u → w.cell? ⟨b, o + k * C + j, none⟩ = some u := by
  obtain ⟨b, o, hA, hb, hc⟩ := h.lies.2 (by omega)
  have hm : l[k] ∈ l := List.getElem_mem hk
  refine ⟨b, o, l[k], hA, hb, List.getElem?_eq_getElem hk, h.all _ hm, hm, fun j u hu => ?_⟩
  rw [Nat.add_assoc]
  exact hc _ _ (flat_at hC l k l[k] (List.getElem?_eq_getElem hk) j u hu)
theorem SlIn.mono (h : SlIn w B C f P A c l) (hb : Below B w w') (hP : ∀ x ∈ l, P x → Q x) : SlIn w' B C f Q A c l := ⟨h.lies.below hb, fun x hx => hP x hx (h.all x hx), h.cap, h.room⟩
theorem SlIn.wide (h : SlIn w B C f P A c l) (hb : B ≤ B') (hP : ∀ x ∈ l, P x → Q x) : SlIn w B' C f Q A c l := ⟨h.lies.wider hb, fun x hx => hP x hx (h.all x hx), h.cap, h.room⟩
end

/-- An expression that lies below block B. -/
inductive ExIn (w : World) (B : Nat) : Ex → Prop
  | mk {kd : Int} {op nm : ByteArray} {nu : Int} {A : Option Addr} {c : Nat} {ks : List Ex} (lies : Lies w B 5 A ks.length (ks.flatMap Ex.cells)) (all : ∀ k ∈ ks, ExIn w B k) (cap : ks.length ≤ c) (room : c ≤ maxLen)
      (hk : I64 kd) (ho : op.size ≤ maxLen) (hn : nm.size ≤ maxLen) (hu : U64 nu) : ExIn w B (.node kd op nm nu A c ks)

theorem ExIn.kids {w : World} {B : Nat} {kd : Int} {op nm : ByteArray} {nu : Int} {A : Option Addr} {c : Nat} {ks : List Ex} (h : ExIn w B (.node kd op nm nu A c ks)) : SlIn w B 5 Ex.cells (ExIn w B) A c ks := by
  cases h with
  | mk h1 h2 h3 h4 => exact ⟨h1, h2, h3, h4⟩
theorem ExIn.bounds {w : World} {B : Nat} {kd : Int} {op nm : ByteArray} {nu : Int} {A : Option Addr} {c : Nat} {ks : List Ex} (h : ExIn w B (.node kd op nm nu A c ks)) : I64 kd ∧ op.size ≤ maxLen ∧ nm.size ≤ maxLen ∧ U64 nu := by
  cases h with
  | mk _ _ _ _ h5 h6 h7 h8 => exact ⟨h5, h6, h7, h8⟩
theorem ExIn.keep {w w' : World} {B : Nat} {e : Ex} (h : ExIn w B e) (hb : Below B w w') : ExIn w' B e := by
  induction h with
  | mk h1 _ h3 h4 h5 h6 h7 h8 ih => exact .mk (h1.below hb) ih h3 h4 h5 h6 h7 h8
theorem ExIn.wider {w : World} {B B' : Nat} {e : Ex} (h : ExIn w B e) (hb : B ≤ B') : ExIn w B' e := by
  induction h with
  | mk h1 _ h3 h4 h5 h6 h7 h8 ih => exact .mk (h1.wider hb) ih h3 h4 h5 h6 h7 h8

/-- A kid's cells. -/
theorem SlIn.ex {w : World} {B c : Nat} {P : Ex → Prop} {A : Option Addr} {l : List Ex} (h : SlIn w B 5 Ex.cells P A c l) {k : Nat} (hk : k < l.length) :
    ∃ b o kd op nm nu A' c' ks, A = some ⟨b, o, none⟩ ∧ b < B ∧ l[k]? = some (.node kd op nm nu A' c' ks) ∧ P (.node kd op nm nu A' c' ks) ∧ Ex.node kd op nm nu A' c' ks ∈ l ∧
      w.cell? ⟨b, o + k * 5, none⟩ = some (.int .i64 kd) ∧ w.cell? ⟨b, o + k * 5 + 1, none⟩ = some (.string op) ∧ w.cell? ⟨b, o + k * 5 + 2, none⟩ = some (.string nm) ∧
      w.cell? ⟨b, o + k * 5 + 3, none⟩ = some (.int .u64 nu) ∧ w.cell? ⟨b, o + k * 5 + 4, none⟩ = some (.slice A' ks.length c') := by
  obtain ⟨b, o, x, hA, hb, hx, hP, hm, hc⟩ := h.at Ex.cells_len hk
  obtain ⟨kd, op, nm, nu, A', c', ks⟩ := x
  exact ⟨b, o, kd, op, nm, nu, A', c', ks, hA, hb, hx, hP, hm, hc 0 _ rfl, hc 1 _ rfl, hc 2 _ rfl, hc 3 _ rfl, hc 4 _ rfl⟩

/-- The cells of an expression at a place. -/
def ExAt (w : World) (b o : Nat) : Ex → Prop
  | .node kd op nm nu A c ks => w.cell? ⟨b, o, none⟩ = some (.int .i64 kd) ∧ w.cell? ⟨b, o + 1, none⟩ = some (.string op) ∧ w.cell? ⟨b, o + 2, none⟩ = some (.string nm) ∧ w.cell? ⟨b, o + 3, none⟩ = some (.int .u64 nu) ∧ w.cell? ⟨b, o + 4, none⟩ = some (.slice A ks.length c)
theorem ExAt.below {w w' : World} {B b o : Nat} {e : Ex} (h : ExAt w b o e) (hb : b < B) (hl : Below B w w') : ExAt w' b o e := by
  cases e with
  | node kd op nm nu A c ks =>
    obtain ⟨h0, h1, h2, h3, h4⟩ := h
    exact ⟨(hl.cell hb).trans h0, (hl.cell hb).trans h1, (hl.cell hb).trans h2, (hl.cell hb).trans h3, (hl.cell hb).trans h4⟩
theorem SlIn.nth {w : World} {B c : Nat} {P : Ex → Prop} {A : Option Addr} {l : List Ex} (h : SlIn w B 5 Ex.cells P A c l) {k : Nat} {x : Ex} (hx : l[k]? = some x) :
    ∃ b o, A = some ⟨b, o, none⟩ ∧ b < B ∧ P x ∧ ExAt w b (o + k * 5) x := by
  obtain ⟨hk, _⟩ := List.getElem?_eq_some_iff.1 hx
  obtain ⟨b, o, kd, op, nm, nu, A', c', ks, hA, hb, hx', hP, _, e⟩ := h.ex hk
  rw [hx] at hx'
  cases hx'
  exact ⟨b, o, hA, hb, hP, e⟩
theorem SlIn.two {w : World} {B c : Nat} {P : Ex → Prop} {A : Option Addr} {x y : Ex} (h : SlIn w B 5 Ex.cells P A c [x, y]) : ∃ b o, A = some ⟨b, o, none⟩ ∧ b < B ∧ P x ∧ P y ∧ ExAt w b o x ∧ ExAt w b (o + 5) y := by
  obtain ⟨b, o, hA, hb, hP, h0⟩ := h.nth (k := 0) rfl
  obtain ⟨b', o', hA', _, hP', h1⟩ := h.nth (k := 1) rfl
  rw [hA] at hA'
  cases hA'
  rw [Nat.zero_mul, Nat.add_zero] at h0
  rw [Nat.one_mul] at h1
  exact ⟨b, o, hA, hb, hP, hP', h0, h1⟩
theorem SlIn.one {w : World} {B c : Nat} {P : Ex → Prop} {A : Option Addr} {x : Ex} (h : SlIn w B 5 Ex.cells P A c [x]) : ∃ b o, A = some ⟨b, o, none⟩ ∧ b < B ∧ P x ∧ ExAt w b o x := by
  obtain ⟨b, o, hA, hb, hP, h0⟩ := h.nth (k := 0) rfl
  rw [Nat.zero_mul, Nat.add_zero] at h0
  exact ⟨b, o, hA, hb, hP, h0⟩

def StrIn (s : ByteArray) : Prop := s.size ≤ maxLen
structure RulIn (w : World) (B : Nat) (r : Rul) : Prop where
  call : StrIn r.call
  params : SlIn w B 1 strCells StrIn r.pA r.pc r.params
  cond : SlIn w B 5 Ex.cells (ExIn w B) r.cA r.cc r.cond
structure ParIn (w : World) (B : Nat) (p : Par) : Prop where
  use : StrIn p.use
  kind : I64 p.kind
  data : I64 p.data
  rules : SlIn w B 3 Rul.cells (RulIn w B) p.rA p.rc p.rules
structure PolIn (w : World) (B : Nat) (p : Pol) : Prop where
  name : StrIn p.name
  parts : SlIn w B 4 Par.cells (ParIn w B) p.A p.c p.parts
structure DfnIn (w : World) (B : Nat) (d : Dfn) : Prop where
  name : StrIn d.name
  ex : ExIn w B d.ex
structure UntIn (w : World) (B : Nat) (u : Unt) : Prop where
  defs : SlIn w B 6 Dfn.cells (DfnIn w B) u.dA u.dc u.defs
  pols : SlIn w B 2 Pol.cells (PolIn w B) u.pA u.pc u.pols
  main : SlIn w B 1 strCells StrIn u.mA u.mc u.main
  kind : I64 u.kind
  data : I64 u.data

section
variable {w w' : World} {B B' : Nat}
theorem RulIn.below {r : Rul} (h : RulIn w B r) (hb : Below B w w') : RulIn w' B r := ⟨h.call, h.params.mono hb fun _ _ h => h, h.cond.mono hb fun _ _ h => h.keep hb⟩
theorem ParIn.below {p : Par} (h : ParIn w B p) (hb : Below B w w') : ParIn w' B p := ⟨h.use, h.kind, h.data, h.rules.mono hb fun _ _ h => h.below hb⟩
theorem PolIn.below {p : Pol} (h : PolIn w B p) (hb : Below B w w') : PolIn w' B p := ⟨h.name, h.parts.mono hb fun _ _ h => h.below hb⟩
theorem DfnIn.below {d : Dfn} (h : DfnIn w B d) (hb : Below B w w') : DfnIn w' B d := ⟨h.name, h.ex.keep hb⟩
theorem UntIn.below {u : Unt} (h : UntIn w B u) (hb : Below B w w') : UntIn w' B u := ⟨h.defs.mono hb fun _ _ h => h.below hb, h.pols.mono hb fun _ _ h => h.below hb, h.main.mono hb fun _ _ h => h, h.kind, h.data⟩
theorem RulIn.wider {r : Rul} (h : RulIn w B r) (hb : B ≤ B') : RulIn w B' r := ⟨h.call, h.params.wide hb fun _ _ h => h, h.cond.wide hb fun _ _ h => h.wider hb⟩
theorem ParIn.wider {p : Par} (h : ParIn w B p) (hb : B ≤ B') : ParIn w B' p := ⟨h.use, h.kind, h.data, h.rules.wide hb fun _ _ h => h.wider hb⟩
theorem PolIn.wider {p : Pol} (h : PolIn w B p) (hb : B ≤ B') : PolIn w B' p := ⟨h.name, h.parts.wide hb fun _ _ h => h.wider hb⟩
theorem DfnIn.wider {d : Dfn} (h : DfnIn w B d) (hb : B ≤ B') : DfnIn w B' d := ⟨h.name, h.ex.wider hb⟩
theorem UntIn.wider {u : Unt} (h : UntIn w B u) (hb : B ≤ B') : UntIn w B' u := ⟨h.defs.wide hb fun _ _ h => h.wider hb, h.pols.wide hb fun _ _ h => h.wider hb, h.main.wide hb fun _ _ h => h, h.kind, h.data⟩

theorem SlIn.str {c : Nat} {P : ByteArray → Prop} {A : Option Addr} {l : List ByteArray} (h : SlIn w B 1 strCells P A c l) {k : Nat} (hk : k < l.length) :
    ∃ b o s, A = some ⟨b, o, none⟩ ∧ b < B ∧ l[k]? = some s ∧ P s ∧ w.cell? ⟨b, o + k, none⟩ = some (.string s) := by
  obtain ⟨b, o, x, hA, hb, hx, hP, _, hc⟩ := h.at str_len hk
  have := hc 0 _ rfl
  rw [Nat.mul_one, Nat.add_zero] at this
  exact ⟨b, o, x, hA, hb, hx, hP, this⟩
theorem SlIn.rul {c : Nat} {P : Rul → Prop} {A : Option Addr} {l : List Rul} (h : SlIn w B 3 Rul.cells P A c l) {k : Nat} (hk : k < l.length) :
    ∃ b o r, A = some ⟨b, o, none⟩ ∧ b < B ∧ l[k]? = some r ∧ P r ∧ w.cell? ⟨b, o + k * 3, none⟩ = some (.string r.call) ∧ w.cell? ⟨b, o + k * 3 + 1, none⟩ = some (.slice r.pA r.params.length r.pc) ∧ w.cell? ⟨b, o + k * 3 + 2, none⟩ = some (.slice r.cA r.cond.length r.cc) := by
  obtain ⟨b, o, x, hA, hb, hx, hP, _, hc⟩ := h.at Rul.cells_len hk
  exact ⟨b, o, x, hA, hb, hx, hP, hc 0 _ rfl, hc 1 _ rfl, hc 2 _ rfl⟩
theorem SlIn.par {c : Nat} {P : Par → Prop} {A : Option Addr} {l : List Par} (h : SlIn w B 4 Par.cells P A c l) {k : Nat} (hk : k < l.length) :
    ∃ b o p, A = some ⟨b, o, none⟩ ∧ b < B ∧ l[k]? = some p ∧ P p ∧ w.cell? ⟨b, o + k * 4, none⟩ = some (.string p.use) ∧ w.cell? ⟨b, o + k * 4 + 1, none⟩ = some (.int .i64 p.kind) ∧ w.cell? ⟨b, o + k * 4 + 2, none⟩ = some (.int .i64 p.data) ∧ w.cell? ⟨b, o + k * 4 + 3, none⟩ = some (.slice p.rA p.rules.length p.rc) := by
  obtain ⟨b, o, x, hA, hb, hx, hP, _, hc⟩ := h.at Par.cells_len hk
  exact ⟨b, o, x, hA, hb, hx, hP, hc 0 _ rfl, hc 1 _ rfl, hc 2 _ rfl, hc 3 _ rfl⟩
theorem SlIn.pol {c : Nat} {P : Pol → Prop} {A : Option Addr} {l : List Pol} (h : SlIn w B 2 Pol.cells P A c l) {k : Nat} (hk : k < l.length) :
    ∃ b o p, A = some ⟨b, o, none⟩ ∧ b < B ∧ l[k]? = some p ∧ P p ∧ w.cell? ⟨b, o + k * 2, none⟩ = some (.string p.name) ∧ w.cell? ⟨b, o + k * 2 + 1, none⟩ = some (.slice p.A p.parts.length p.c) := by
  obtain ⟨b, o, x, hA, hb, hx, hP, _, hc⟩ := h.at Pol.cells_len hk
  exact ⟨b, o, x, hA, hb, hx, hP, hc 0 _ rfl, hc 1 _ rfl⟩
theorem SlIn.dfn {c : Nat} {P : Dfn → Prop} {A : Option Addr} {l : List Dfn} (h : SlIn w B 6 Dfn.cells P A c l) {k : Nat} (hk : k < l.length) :
    ∃ b o name kd op nm nu A' c' ks, A = some ⟨b, o, none⟩ ∧ b < B ∧ l[k]? = some ⟨name, .node kd op nm nu A' c' ks⟩ ∧ P ⟨name, .node kd op nm nu A' c' ks⟩ ∧ w.cell? ⟨b, o + k * 6, none⟩ = some (.string name) ∧
      w.cell? ⟨b, o + k * 6 + 1, none⟩ = some (.int .i64 kd) ∧ w.cell? ⟨b, o + k * 6 + 2, none⟩ = some (.string op) ∧ w.cell? ⟨b, o + k * 6 + 3, none⟩ = some (.string nm) ∧
      w.cell? ⟨b, o + k * 6 + 4, none⟩ = some (.int .u64 nu) ∧ w.cell? ⟨b, o + k * 6 + 5, none⟩ = some (.slice A' ks.length c') := by
  obtain ⟨b, o, x, hA, hb, hx, hP, _, hc⟩ := h.at Dfn.cells_len hk
  obtain ⟨name, ex⟩ := x
  obtain ⟨kd, op, nm, nu, A', c', ks⟩ := ex
  exact ⟨b, o, name, kd, op, nm, nu, A', c', ks, hA, hb, hx, hP, hc 0 _ rfl, hc 1 _ rfl, hc 2 _ rfl, hc 3 _ rfl, hc 4 _ rfl, hc 5 _ rfl⟩
end

end Go.Proofs.YtfklajkmikanbaaGreatDoor
