/- The filters of the statement MachineCells, run by the document's machine: plain facts. -/
import Derived.Test.YtljkkbfokjhfpaaReckPlain
namespace Go.Proofs.Ytljkkbfokjhfpaa
open Go.RowKit

/-- Bit 4. -/
def bit4 (a : Int) : Bool := bits .and .i64 a 16 != 0
def cellI (t : Int × Int) : List Ins := if bit4 t.1 then [⟨1, 0, 0, t.2⟩, ⟨3, 0, 0, t.1 % 16⟩] else [⟨0, 0, 0, t.2⟩, ⟨2, 0, 0, t.1 % 16⟩]
def cellL (ps : List (Int × Int)) : List Ins := ps.flatMap cellI
def mstep (s : Mac) (t : Int × Int) : Mac := if bit4 t.1 then { s with x := t.2, cells := s.cells.set (t.1 % 16).toNat t.2 } else { s with a := t.2, cells := s.cells.set (t.1 % 16).toNat t.2 }
def wantOf (look : Int) (ps : List (Int × Int)) : Int := ps.foldl (fun v t => if t.1 % 16 = look then t.2 else v) 0

theorem cellI_len (t : Int × Int) : (cellI t).length = 2 := by unfold cellI; split <;> rfl
theorem cellL_len (ps : List (Int × Int)) : (cellL ps).length = 2 * ps.length := by
  induction ps with
  | nil => rfl
  | cons t ps ih => simp [cellL, cellI_len] at ih ⊢; omega
theorem cellL_snoc (ps : List (Int × Int)) (t : Int × Int) : cellL (ps ++ [t]) = cellL ps ++ cellI t := by simp [cellL]
theorem wantOf_snoc (look : Int) (ps : List (Int × Int)) (t : Int × Int) : wantOf look (ps ++ [t]) = if t.1 % 16 = look then t.2 else wantOf look ps := by simp [wantOf]

theorem cells_steps (d : Dat) (tail : List Ins) : ∀ (ps : List (Int × Int)) (pre : List Ins) (k : Nat) (s : Mac) (R : Int × Nat × Bool), k + 2 * ps.length < 4096 →
    runFrom (pre ++ (cellL ps ++ tail)) d (4096 - k) k pre.length s = R → runFrom (pre ++ (cellL ps ++ tail)) d (4096 - (k + 2 * ps.length)) (k + 2 * ps.length) (pre.length + 2 * ps.length) (ps.foldl mstep s) = R
  | [], pre, k, s, R, _, h => by simpa using h
  | t :: ps, pre, k, s, R, hk, h => by
    have hl : pre ++ (cellL (t :: ps) ++ tail) = (pre ++ cellI t) ++ (cellL ps ++ tail) := by simp [cellL]
    have hlen : (pre ++ cellI t).length = pre.length + 2 := by simp [cellI_len]
    rw [List.length_cons] at hk
    have h16 : (0 : Int) ≤ t.1 % 16 ∧ t.1 % 16 < 16 := by omega
    have h2 : runFrom (pre ++ (cellL (t :: ps) ++ tail)) d (4096 - (k + 2)) (k + 2) (pre.length + 2) (mstep s t) = R := by
      have hx0 : (pre ++ (cellL (t :: ps) ++ tail))[pre.length]? = (cellI t)[0]? := by
        rw [hl, List.append_assoc, List.getElem?_append_right (Nat.le_refl _), Nat.sub_self, List.getElem?_append_left (by rw [cellI_len]; omega)]
      have hx1 : (pre ++ (cellL (t :: ps) ++ tail))[pre.length + 1]? = (cellI t)[1]? := by
        rw [hl, List.append_assoc, List.getElem?_append_right (by omega), Nat.add_sub_cancel_left, List.getElem?_append_left (by rw [cellI_len]; omega)]
      by_cases hb : bit4 t.1 = true
      · have ei : cellI t = [⟨1, 0, 0, t.2⟩, ⟨3, 0, 0, t.1 % 16⟩] := by unfold cellI; rw [if_pos hb]
        have em : mstep s t = { s with x := t.2, cells := s.cells.set (t.1 % 16).toNat t.2 } := by unfold mstep; rw [if_pos hb]
        rw [ei] at hx0 hx1
        have s0 : stepOf (pre ++ (cellL (t :: ps) ++ tail)) d pre.length s = .inr (pre.length + 1, { s with x := t.2 }) := by
          unfold stepOf; rw [hx0]; rfl
        have s1 : stepOf (pre ++ (cellL (t :: ps) ++ tail)) d (pre.length + 1) { s with x := t.2 } = .inr (pre.length + 1 + 1, mstep s t) := by
          have e : plainOf { s with x := t.2 } 3 (t.1 % 16) d = (mstep s t, true, false) := by
            have h0 : isAlu 3 = false := rfl
            unfold plainOf
            rw [em]
            simp [h0, show ¬ (16 : Int) ≤ t.1 % 16 by omega]
          unfold stepOf
          rw [hx1]
          have h5 : isJump 3 = false := rfl
          simp [h5, e]
        exact run_on (run_on h (by omega) s0) (by omega) s1
      · have ei : cellI t = [⟨0, 0, 0, t.2⟩, ⟨2, 0, 0, t.1 % 16⟩] := by unfold cellI; rw [if_neg hb]
        have em : mstep s t = { s with a := t.2, cells := s.cells.set (t.1 % 16).toNat t.2 } := by unfold mstep; rw [if_neg hb]
        rw [ei] at hx0 hx1
        have s0 : stepOf (pre ++ (cellL (t :: ps) ++ tail)) d pre.length s = .inr (pre.length + 1, { s with a := t.2 }) := by
          unfold stepOf; rw [hx0]; rfl
        have s1 : stepOf (pre ++ (cellL (t :: ps) ++ tail)) d (pre.length + 1) { s with a := t.2 } = .inr (pre.length + 1 + 1, mstep s t) := by
          have e : plainOf { s with a := t.2 } 2 (t.1 % 16) d = (mstep s t, true, false) := by
            have h0 : isAlu 2 = false := rfl
            unfold plainOf
            rw [em]
            simp [h0, show ¬ (16 : Int) ≤ t.1 % 16 by omega]
          unfold stepOf
          rw [hx1]
          have h5 : isJump 2 = false := rfl
          simp [h5, e]
        exact run_on (run_on h (by omega) s0) (by omega) s1
    rw [hl, show pre.length + 2 = (pre ++ cellI t).length from hlen.symm] at h2
    have ih := cells_steps d tail ps (pre ++ cellI t) (k + 2) (mstep s t) R (by omega) h2
    rw [hlen] at ih
    rw [hl, List.length_cons, List.foldl_cons, show k + 2 * (ps.length + 1) = k + 2 + 2 * ps.length from by omega, show pre.length + 2 * (ps.length + 1) = pre.length + 2 + 2 * ps.length from by omega]
    exact ih

theorem want_cell (look : Nat) (hlook : look ≤ 15) : ∀ (ps : List (Int × Int)) (s : Mac) (v : Int), s.cells.length = 16 → s.cells.getD look 0 = v →
    (ps.foldl mstep s).cells.length = 16 ∧ (ps.foldl mstep s).cells.getD look 0 = ps.foldl (fun v t => if t.1 % 16 = (look : Int) then t.2 else v) v
  | [], s, v, h1, h2 => ⟨h1, h2⟩
  | t :: ps, s, v, h1, h2 => by
    have hc : (mstep s t).cells = s.cells.set (t.1 % 16).toNat t.2 := by unfold mstep; split <;> rfl
    refine want_cell look hlook ps (mstep s t) _ (by rw [hc]; simpa using h1) ?_
    rw [hc]
    show (s.cells.set (t.1 % 16).toNat t.2).getD look 0 = if t.1 % 16 = (look : Int) then t.2 else v
    by_cases h : t.1 % 16 = (look : Int)
    · rw [if_pos h, h]
      simp [List.getD, h1, show look < 16 by omega]
    · rw [if_neg h, ← h2]
      simp only [List.getD]
      rw [List.getElem?_set_ne (by omega)]

def tail1 (look : Int) : List Ins := [⟨96, 0, 0, look⟩, ⟨22, 0, 0, 0⟩]
def tail2 (look : Int) : List Ins := [⟨97, 0, 0, look⟩, ⟨135, 0, 0, 0⟩, ⟨22, 0, 0, 0⟩]

theorem at_tail (ps : List (Int × Int)) (tail : List Ins) (j : Nat) : (cellL ps ++ tail)[2 * ps.length + j]? = tail[j]? := by
  rw [List.getElem?_append_right (by rw [cellL_len]; omega), cellL_len, Nat.add_sub_cancel_left]

theorem cells_run1 (ps : List (Int × Int)) (look : Nat) (d : Dat) (hlook : look ≤ 15) (hp : ps.length ≤ 60) : runOf (cellL ps ++ tail1 look) d = (wantOf look ps, 2 * ps.length + 2, true) := by
  have h0 := cells_steps d (tail1 look) ps [] 0 Mac.zero (runOf (cellL ps ++ tail1 look) d) (by omega) rfl
  simp only [List.nil_append, List.length_nil, Nat.zero_add] at h0
  obtain ⟨hl, hw⟩ := want_cell look hlook ps Mac.zero 0 rfl (by
    rcases (show look = 0 ∨ look = 1 ∨ look = 2 ∨ look = 3 ∨ look = 4 ∨ look = 5 ∨ look = 6 ∨ look = 7 ∨ look = 8 ∨ look = 9 ∨ look = 10 ∨ look = 11 ∨ look = 12 ∨ look = 13 ∨ look = 14 ∨ look = 15 from by omega) with rfl | rfl | rfl | rfl | rfl | rfl | rfl | rfl | rfl | rfl | rfl | rfl | rfl | rfl | rfl | rfl <;> rfl)
  generalize ps.foldl mstep Mac.zero = s at *
  have x0 := at_tail ps (tail1 look) 0
  have x1 := at_tail ps (tail1 look) 1
  rw [Nat.add_zero] at x0
  have s0 : stepOf (cellL ps ++ tail1 look) d (2 * ps.length) s = .inr (2 * ps.length + 1, { s with a := s.cells.getD look 0 }) := by
    have e : plainOf s 96 look d = ({ s with a := s.cells.getD look 0 }, true, false) := by
      have h0 : isAlu 96 = false := rfl
      unfold plainOf
      simp [h0, show ¬ (16 : Int) ≤ look by omega]
    have h5 : isJump 96 = false := rfl
    unfold stepOf
    rw [x0]
    simp [tail1, h5, e]
  have s1 : stepOf (cellL ps ++ tail1 look) d (2 * ps.length + 1) { s with a := s.cells.getD look 0 } = .inl (s.cells.getD look 0, 1, true) := by
    unfold stepOf
    rw [x1]
    rfl
  have r := run_end (run_on h0 (by omega) s0) (by omega) s1
  rw [r, hw]
  rfl

theorem cells_run2 (ps : List (Int × Int)) (look : Nat) (d : Dat) (hlook : look ≤ 15) (hp : ps.length ≤ 60) : runOf (cellL ps ++ tail2 look) d = (wantOf look ps, 2 * ps.length + 3, true) := by
  have h0 := cells_steps d (tail2 look) ps [] 0 Mac.zero (runOf (cellL ps ++ tail2 look) d) (by omega) rfl
  simp only [List.nil_append, List.length_nil, Nat.zero_add] at h0
  obtain ⟨hl, hw⟩ := want_cell look hlook ps Mac.zero 0 rfl (by
    rcases (show look = 0 ∨ look = 1 ∨ look = 2 ∨ look = 3 ∨ look = 4 ∨ look = 5 ∨ look = 6 ∨ look = 7 ∨ look = 8 ∨ look = 9 ∨ look = 10 ∨ look = 11 ∨ look = 12 ∨ look = 13 ∨ look = 14 ∨ look = 15 from by omega) with rfl | rfl | rfl | rfl | rfl | rfl | rfl | rfl | rfl | rfl | rfl | rfl | rfl | rfl | rfl | rfl <;> rfl)
  generalize ps.foldl mstep Mac.zero = s at *
  have x0 := at_tail ps (tail2 look) 0
  have x1 := at_tail ps (tail2 look) 1
  have x2 := at_tail ps (tail2 look) 2
  rw [Nat.add_zero] at x0
  have s0 : stepOf (cellL ps ++ tail2 look) d (2 * ps.length) s = .inr (2 * ps.length + 1, { s with x := s.cells.getD look 0 }) := by
    have e : plainOf s 97 look d = ({ s with x := s.cells.getD look 0 }, true, false) := by
      have h0 : isAlu 97 = false := rfl
      unfold plainOf
      simp [h0, show ¬ (16 : Int) ≤ look by omega]
    have h5 : isJump 97 = false := rfl
    unfold stepOf
    rw [x0]
    simp [tail2, h5, e]
  have s1 : stepOf (cellL ps ++ tail2 look) d (2 * ps.length + 1) { s with x := s.cells.getD look 0 } = .inr (2 * ps.length + 1 + 1, { s with x := s.cells.getD look 0, a := s.cells.getD look 0 }) := by
    unfold stepOf
    rw [x1]
    rfl
  have s2 : stepOf (cellL ps ++ tail2 look) d (2 * ps.length + 1 + 1) { s with x := s.cells.getD look 0, a := s.cells.getD look 0 } = .inl (s.cells.getD look 0, 1, true) := by
    unfold stepOf
    rw [x2]
    rfl
  have r := run_end (run_on (run_on h0 (by omega) s0) (by omega) s1) (by omega) s2
  rw [r, hw]
  rfl

theorem cellL_ok (ps : List (Int × Int)) (h : ∀ t ∈ ps, 0 ≤ t.2 ∧ t.2 ≤ 4294967295) : ∀ y ∈ cellL ps, y.Ok := by
  intro y hy
  obtain ⟨t, ht, hy⟩ := List.mem_flatMap.1 hy
  have hv := h t ht
  unfold cellI at hy
  split at hy
  all_goals
    simp only [List.mem_cons, List.not_mem_nil, or_false] at hy
    rcases hy with rfl | rfl
    · exact ins_ok (by omega) (by omega) (by omega) hv
    · exact ins_ok (by omega) (by omega) (by omega) (by omega)

theorem and15 (a : Int) : bits .and .i64 a 15 = a % 16 := by
  show IntKind.i64.wrap ((BitVec.ofInt 64 a &&& BitVec.ofInt 64 15).toNat : Int) = _
  rw [BitVec.toNat_and, show (BitVec.ofInt 64 15).toNat = 2 ^ 4 - 1 from rfl, Nat.and_two_pow_sub_one_eq_mod, BitVec.toNat_ofInt, IntKind.wrap_i64]
  omega

end Go.Proofs.Ytljkkbfokjhfpaa
