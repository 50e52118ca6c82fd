/- What a run of the document's own machine gives. -/
import Derived.Test.YtlghhnfpmekdnaaPlainMem
import Derived.Test.YtlghhnfpmekdnaaIns
namespace Go.Proofs.Ytlghhnfpmekdnaa
open Go.RowKit

/-- Where a conditional jump leads, from behind it. -/
def jumpTo (len at' : Nat) (j : Int) : Nat := if (j < 0 ∧ at' + j < 0) ∨ (len : Int) < j then len else (at' + j).toNat

/-- One step: what it ends with (a value, steps more, well), or where it goes on. -/
def stepOf (l : List Ins) (d : Dat) (p : Nat) (s : Mac) : (Int × Nat × Bool) ⊕ (Nat × Mac) :=
  match l[p]? with
  | none => .inl (0, 0, false)
  | some x =>
    if x.code = 6 then .inl (x.k, 1, true)
    else if x.code = 22 then .inl (s.a, 1, true)
    else if x.code = 5 then .inr (if (l.length : Int) < x.k then l.length else p + 1 + x.k.toNat, s)
    else if isJump x.code then .inr (jumpTo l.length (p + 1) (if jumpOf x.code s.a (other s x.code x.k) then x.jt else x.jf), s)
    else if (plainOf s x.code x.k d).2.2 then .inl (0, 1, true)
    else if (plainOf s x.code x.k d).2.1 then .inr (p + 1, (plainOf s x.code x.k d).1)
    else .inl (0, 0, false)

/-- So many steps at most. -/
def runFrom (l : List Ins) (d : Dat) : Nat → Nat → Nat → Mac → Int × Nat × Bool
  | 0, k, _, _ => (0, k, false)
  | f + 1, k, p, s =>
    match stepOf l d p s with
    | .inl (v, e, ok) => (v, k + e, ok)
    | .inr (q, t) => runFrom l d f (k + 1) q t

def Mac.zero : Mac := ⟨0, 0, List.replicate 16 0⟩
def runOf (l : List Ins) (d : Dat) : Int × Nat × Bool := runFrom l d 4096 0 0 Mac.zero

/-- What Run hands back. -/
def Ran (t : Int × Nat × Bool) (w : World) : Ending → World → Prop :=
  fun r w' => r = .returned (.tuple #[.int .u32 t.1, .int .i64 t.2.1, .bool t.2.2]) ∧ Below w.heap.size w w'

theorem Mac.zero_ok : Mac.zero.Ok := by
  refine ⟨by decide, by decide, by decide, by decide, by decide, ?_⟩
  intro n hn
  have : n = 0 := by simpa [Mac.zero] using hn
  omega

theorem alu_bd (c a b : Int) (a0 : 0 ≤ a) (a1 : a ≤ 4294967295) (b0 : 0 ≤ b) : 0 ≤ aluOf c a b ∧ aluOf c a b ≤ 4294967295 := by
  have hm : ∀ x : Int, 0 ≤ x % 4294967296 ∧ x % 4294967296 ≤ 4294967295 := fun x => by omega
  have hd : ∀ y : Int, 0 ≤ y → 0 ≤ a / y ∧ a / y ≤ 4294967295 := fun y hy => ⟨Int.ediv_nonneg a0 hy, Int.le_trans (Int.ediv_le_self _ a0) a1⟩
  have h1 : 0 ≤ bits .or .u32 a b ∧ bits .or .u32 a b ≤ 4294967295 := by
    rw [show bits .or .u32 a b = IntKind.u32.wrap ((BitVec.ofInt 32 a ||| BitVec.ofInt 32 b).toNat : Int) from rfl, IntKind.wrap_u32]
    omega
  have h2 : 0 ≤ bits .and .u32 a b ∧ bits .and .u32 a b ≤ 4294967295 := by
    rw [show bits .and .u32 a b = IntKind.u32.wrap ((BitVec.ofInt 32 a &&& BitVec.ofInt 32 b).toNat : Int) from rfl, IntKind.wrap_u32]
    omega
  have h3 : 0 ≤ bits .xor .u32 a b ∧ bits .xor .u32 a b ≤ 4294967295 := by
    rw [show bits .xor .u32 a b = IntKind.u32.wrap ((BitVec.ofInt 32 a ^^^ BitVec.ofInt 32 b).toNat : Int) from rfl, IntKind.wrap_u32]
    omega
  unfold aluOf
  repeat' split
  all_goals first
    | exact hm _
    | exact h1
    | exact h2
    | exact h3
    | exact hd _ b0
    | exact hd _ (Int.le_of_lt (by apply Int.pow_pos; omega))

theorem other_bd (s : Mac) (c k : Int) (hs : s.Ok) (k0 : 0 ≤ k) (k1 : k ≤ 4294967295) : 0 ≤ other s c k ∧ other s c k ≤ 4294967295 := by
  unfold other
  split
  · exact ⟨k0, k1⟩
  · exact ⟨hs.x0, hs.x1⟩

theorem Mac.Ok.seta {s : Mac} (hs : s.Ok) {v : Int} (h : 0 ≤ v ∧ v ≤ 4294967295) : ({ s with a := v } : Mac).Ok := ⟨h.1, h.2, hs.x0, hs.x1, hs.len, hs.all⟩
theorem Mac.Ok.setx {s : Mac} (hs : s.Ok) {v : Int} (h : 0 ≤ v ∧ v ≤ 4294967295) : ({ s with x := v } : Mac).Ok := ⟨hs.a0, hs.a1, h.1, h.2, hs.len, hs.all⟩
theorem Mac.Ok.setc {s : Mac} (hs : s.Ok) {v : Int} (k : Nat) (h : 0 ≤ v ∧ v ≤ 4294967295) : ({ s with cells := s.cells.set k v } : Mac).Ok :=
  ⟨hs.a0, hs.a1, hs.x0, hs.x1, by simp [hs.len], fun n hn => by
    rcases List.mem_or_eq_of_mem_set hn with hn | rfl
    · exact hs.all n hn
    · exact h⟩
theorem Mac.Ok.getc {s : Mac} (hs : s.Ok) (k : Nat) : 0 ≤ s.cells.getD k 0 ∧ s.cells.getD k 0 ≤ 4294967295 := by
  by_cases h : k < s.cells.length
  · rw [show s.cells.getD k 0 = s.cells[k] by simp [List.getD, h]]
    exact hs.all _ (List.getElem_mem h)
  · rw [show s.cells.getD k 0 = 0 by rw [List.getD, List.getElem?_eq_none (by omega)]; rfl]
    omega

theorem word_bd (d : Dat) (k : Int) : 0 ≤ wordOf d k ∧ wordOf d k ≤ 4294967295 := by
  unfold wordOf
  split
  · have := seg4 d.bytes k.toNat
    omega
  · omega

theorem plain_ok (s : Mac) (c k : Int) (d : Dat) (hs : s.Ok) (k0 : 0 ≤ k) (k1 : k ≤ 4294967295) : (plainOf s c k d).1.Ok := by
  have ho := other_bd s c k hs k0 k1
  have pick : ∀ (q : Prop) [Decidable q] (a b : Mac × Bool × Bool), a.1.Ok → b.1.Ok → (if q then a else b).1.Ok := by
    intro q _ a b ha hb
    split
    · exact ha
    · exact hb
  unfold plainOf
  repeat' refine pick _ _ _ ?_ ?_
  all_goals first
    | exact hs
    | exact hs.seta (alu_bd _ _ _ hs.a0 hs.a1 ho.1)
    | exact hs.seta ⟨k0, k1⟩
    | exact hs.setx ⟨k0, k1⟩
    | exact hs.seta (by omega)
    | exact hs.setx (by omega)
    | exact hs.setx ⟨hs.a0, hs.a1⟩
    | exact hs.seta ⟨hs.x0, hs.x1⟩
    | exact hs.seta (word_bd _ _)
    | exact hs.setc _ ⟨hs.a0, hs.a1⟩
    | exact hs.setc _ ⟨hs.x0, hs.x1⟩
    | exact hs.seta (hs.getc _)
    | exact hs.setx (hs.getc _)

theorem run_step (l : List Ins) (d : Dat) (f k p : Nat) (s : Mac) (hf : 1 ≤ f) :
    runFrom l d f k p s = match stepOf l d p s with
      | .inl (v, e, ok) => (v, k + e, ok)
      | .inr (q, t) => runFrom l d (f - 1) (k + 1) q t := by
  obtain ⟨g, rfl⟩ := Nat.exists_eq_add_of_le hf
  rw [Nat.add_comm]
  rfl

theorem run_on {l : List Ins} {d : Dat} {k p q : Nat} {s t : Mac} {R : Int × Nat × Bool} (hr : runFrom l d (4096 - k) k p s = R) (hk : k < 4096) (h : stepOf l d p s = .inr (q, t)) : runFrom l d (4096 - (k + 1)) (k + 1) q t = R := by
  rw [run_step _ _ _ _ _ _ (by omega), h] at hr
  rw [show 4096 - (k + 1) = 4096 - k - 1 from by omega]
  exact hr
theorem run_end {l : List Ins} {d : Dat} {k p e : Nat} {s : Mac} {v : Int} {ok : Bool} {R : Int × Nat × Bool} (hr : runFrom l d (4096 - k) k p s = R) (hk : k < 4096) (h : stepOf l d p s = .inl (v, e, ok)) : R = (v, k + e, ok) := by
  rw [run_step _ _ _ _ _ _ (by omega), h] at hr
  exact hr.symm
theorem Box.drewN {w : World} {g : Nat} {t : TypeId} {cs : Array Value} (h : Box w g t cs) (n : Nat) : Box (w.drewN n) g t cs := h

end Go.Proofs.Ytlghhnfpmekdnaa
