/- Instructions as lists of their numbers; slices of them that came in. -/
import Derived.Test.YtdcpdieejknliaaDoorBase
namespace Go.Proofs.YtdcpdieejknliaaDoor
open Go.RowKit

/-- An instruction: its four numbers. -/
structure Ins where
  code : Int
  jt : Int
  jf : Int
  k : Int

def Ins.cells (x : Ins) : List Value := [.int .i64 x.code, .int .i64 x.jt, .int .i64 x.jf, .int .u32 x.k]
def Ins.val (x : Ins) : Value := .agg #[.int .i64 x.code, .int .i64 x.jt, .int .i64 x.jf, .int .u32 x.k]
/-- Its numbers are of their kinds. -/
structure Ins.Ok (x : Ins) : Prop where
  c0 : -9223372036854775808 ≤ x.code
  c1 : x.code ≤ 9223372036854775807
  t0 : -9223372036854775808 ≤ x.jt
  t1 : x.jt ≤ 9223372036854775807
  f0 : -9223372036854775808 ≤ x.jf
  f1 : x.jf ≤ 9223372036854775807
  k0 : 0 ≤ x.k
  k1 : x.k ≤ 4294967295

def cellsOf (l : List Ins) : List Value := l.flatMap Ins.cells

theorem cells_len (l : List Ins) : (cellsOf l).length = 4 * l.length := by
  induction l with
  | nil => rfl
  | cons x l ih => simp [cellsOf, Ins.cells] at ih ⊢; omega

theorem cell_at (l : List Ins) (k : Nat) (x : Ins) (h : l[k]? = some x) :
    (cellsOf l)[k * 4]? = some (.int .i64 x.code) ∧ (cellsOf l)[k * 4 + 1]? = some (.int .i64 x.jt) ∧ (cellsOf l)[k * 4 + 2]? = some (.int .i64 x.jf) ∧ (cellsOf l)[k * 4 + 3]? = some (.int .u32 x.k) := by
  induction l generalizing k with
  | nil => simp at h
  | cons y l ih =>
    cases k with
    | zero => simp at h; subst h; exact ⟨rfl, rfl, rfl, rfl⟩
    | succ k =>
      have h' : l[k]? = some x := by simpa using h
      have := ih k h'
      rw [show (k + 1) * 4 = k * 4 + 4 from by omega]
      exact this

theorem Lies.ins {w : World} {B n : Nat} {A : Option Addr} {l : List Ins} (h : Lies w B 4 A n (cellsOf l)) {k : Nat} (hk : k < n) :
    ∃ b o x, A = some ⟨b, o, none⟩ ∧ b < B ∧ l[k]? = some x ∧ w.cell? ⟨b, o + k * 4, none⟩ = some (.int .i64 x.code) ∧ w.cell? ⟨b, o + k * 4 + 1, none⟩ = some (.int .i64 x.jt) ∧
      w.cell? ⟨b, o + k * 4 + 2, none⟩ = some (.int .i64 x.jf) ∧ w.cell? ⟨b, o + k * 4 + 3, none⟩ = some (.int .u32 x.k) := by
  obtain ⟨b, o, hA, hb, hc⟩ := h.2 (by omega)
  have hl : k < l.length := by have := h.1; rw [cells_len] at this; omega
  obtain ⟨h0, h1, h2, h3⟩ := cell_at l k l[k] (List.getElem?_eq_getElem hl)
  exact ⟨b, o, l[k], hA, hb, List.getElem?_eq_getElem hl, hc _ _ h0, hc _ _ h1, hc _ _ h2, hc _ _ h3⟩

theorem cells_one (l : List Ins) : ∀ u ∈ cellsOf l, u.oneCell' = true := by
  intro u hu
  obtain ⟨x, _, hx⟩ := List.mem_flatMap.1 hu
  simp [Ins.cells] at hx
  rcases hx with rfl | rfl | rfl | rfl <;> rfl

end Go.Proofs.YtdcpdieejknliaaDoor
