/- What the small functions of the document's own machine give. -/
import Derived.Test.YtlghhnfpmekdnaaBase
import Derived.Test.YtlghhnfpmekdnaaChecked
import Derived.IntWalk
namespace Go.Proofs.Ytlghhnfpmekdnaa
open Go.RowKit

def aluCodes : List Int := [4, 12, 20, 28, 36, 44, 52, 60, 68, 76, 84, 92, 164, 172, 100, 108, 116, 124]
def jumpCodes : List Int := [21, 29, 37, 45, 53, 61, 69, 77]
def isAlu (c : Int) : Bool := aluCodes.contains c
def isJump (c : Int) : Bool := jumpCodes.contains c

theorem alu_mem {c : Int} (h : isAlu c = true) : c = 4 ∨ c = 12 ∨ c = 20 ∨ c = 28 ∨ c = 36 ∨ c = 44 ∨ c = 52 ∨ c = 60 ∨ c = 68 ∨ c = 76 ∨ c = 84 ∨ c = 92 ∨ c = 164 ∨ c = 172 ∨ c = 100 ∨ c = 108 ∨ c = 116 ∨ c = 124 := by
  simpa [isAlu, aluCodes] using h
theorem jump_mem {c : Int} (h : isJump c = true) : c = 21 ∨ c = 29 ∨ c = 37 ∨ c = 45 ∨ c = 53 ∨ c = 61 ∨ c = 69 ∨ c = 77 := by
  simpa [isJump, jumpCodes] using h

set_option maxRecDepth 100000 in
set_option maxHeartbeats 4000000 in
theorem isAlu_any (c : Int) (w : World) : Calls Try.prog 39 #[.int .i64 c] w fun e w' => e = .returned (.bool (isAlu c)) ∧ w = w' := by
  by_cases h : isAlu c = true
  · have hm := alu_mem h
    rcases hm with rfl | rfl | rfl | rfl | rfl | rfl | rfl | rfl | rfl | rfl | rfl | rfl | rfl | rfl | rfl | rfl | rfl | rfl
    all_goals
      clear h
      go_enter Try.func39, Try.ntmps39
      go_wp2
      go_ret
      exact ⟨rfl, rfl⟩
  · have hf : isAlu c = false := by simpa using h
    have hall := hf
    simp only [isAlu, aluCodes, List.contains_cons, List.contains_nil, Bool.or_eq_false_iff] at hall
    obtain ⟨c0, c1, c2, c3, c4, c5, c6, c7, c8, c9, c10, c11, c12, c13, c14, c15, c16, c17, _⟩ := hall
    rw [hf]
    clear h hf
    go_enter Try.func39, Try.ntmps39
    go_wp2
    go_ret
    exact ⟨rfl, rfl⟩

set_option maxRecDepth 100000 in
set_option maxHeartbeats 4000000 in
theorem isJump_any (c : Int) (w : World) : Calls Try.prog 22 #[.int .i64 c] w fun e w' => e = .returned (.bool (isJump c)) ∧ w = w' := by
  by_cases h : isJump c = true
  · have hm := jump_mem h
    rcases hm with rfl | rfl | rfl | rfl | rfl | rfl | rfl | rfl
    all_goals
      clear h
      go_enter Try.func22, Try.ntmps22
      go_wp2
      go_ret
      exact ⟨rfl, rfl⟩
  · have hf : isJump c = false := by simpa using h
    have hall := hf
    simp only [isJump, jumpCodes, List.contains_cons, List.contains_nil, Bool.or_eq_false_iff] at hall
    obtain ⟨c0, c1, c2, c3, c4, c5, c6, c7, _⟩ := hall
    rw [hf]
    clear h hf
    go_enter Try.func22, Try.ntmps22
    go_wp2
    go_ret
    exact ⟨rfl, rfl⟩

/-- What a code reckons of two numbers. -/
def aluOf (c a b : Int) : Int :=
  if c = 4 ∨ c = 12 then (a + b) % 4294967296
  else if c = 20 ∨ c = 28 then (a - b) % 4294967296
  else if c = 36 ∨ c = 44 then a * b % 4294967296
  else if c = 52 ∨ c = 60 then a / b
  else if c = 68 ∨ c = 76 then bits .or .u32 a b
  else if c = 84 ∨ c = 92 then bits .and .u32 a b
  else if c = 164 ∨ c = 172 then bits .xor .u32 a b
  else if c = 100 ∨ c = 108 then a * 2 ^ (b % 32).toNat % 4294967296
  else a / 2 ^ (b % 32).toNat

/-- Does a conditional jump hold? -/
def jumpOf (c a b : Int) : Bool :=
  if c = 21 ∨ c = 29 then a == b
  else if c = 37 ∨ c = 45 then decide (b < a)
  else if c = 53 ∨ c = 61 then decide (b ≤ a)
  else bits .and .u32 a b != 0

set_option maxRecDepth 100000 in
set_option maxHeartbeats 4000000 in
theorem alu_any (c a b : Int) (w : World) (a0 : 0 ≤ a) (a1 : a ≤ 4294967295) (b0 : 0 ≤ b) (b1 : b ≤ 4294967295) (hc : isAlu c = true) (hd : (c = 52 ∨ c = 60) → 1 ≤ b) :
    Calls Try.prog 40 #[.int .i64 c, .int .u32 a, .int .u32 b] w fun e w' => e = .returned (.int .u32 (aluOf c a b)) ∧ w = w' := by
  rcases alu_mem hc with rfl | rfl | rfl | rfl | rfl | rfl | rfl | rfl | rfl | rfl | rfl | rfl | rfl | rfl | rfl | rfl | rfl | rfl
  case inr.inr.inr.inr.inr.inr.inl =>
    have h1 := hd (.inl rfl)
    clear hc hd
    go_enter Try.func40, Try.ntmps40
    go_wp2
    go_ret
    exact ⟨rfl, rfl⟩
  case inr.inr.inr.inr.inr.inr.inr.inl =>
    have h1 := hd (.inr rfl)
    clear hc hd
    go_enter Try.func40, Try.ntmps40
    go_wp2
    go_ret
    exact ⟨rfl, rfl⟩
  all_goals
    clear hc hd
    go_enter Try.func40, Try.ntmps40
    go_wp2
    go_ret
    exact ⟨rfl, rfl⟩

set_option maxRecDepth 100000 in
set_option maxHeartbeats 4000000 in
theorem jumps_any (c a b : Int) (w : World) (hc : isJump c = true) :
    Calls Try.prog 24 #[.int .i64 c, .int .u32 a, .int .u32 b] w fun e w' => e = .returned (.bool (jumpOf c a b)) ∧ w = w' := by
  rcases jump_mem hc with rfl | rfl | rfl | rfl | rfl | rfl | rfl | rfl
  all_goals
    clear hc
    go_enter Try.func24, Try.ntmps24
    go_wp2
    go_ret
    exact ⟨rfl, rfl⟩

/-- A machine's state. -/
structure Mac where
  a : Int
  x : Int
  cells : List Int

def Mac.vals (s : Mac) : Array Value := (Value.int .u32 s.a :: Value.int .u32 s.x :: s.cells.map (Value.int .u32)).toArray
structure Mac.Ok (s : Mac) : Prop where
  a0 : 0 ≤ s.a
  a1 : s.a ≤ 4294967295
  x0 : 0 ≤ s.x
  x1 : s.x ≤ 4294967295
  len : s.cells.length = 16
  all : ∀ n ∈ s.cells, 0 ≤ n ∧ n ≤ 4294967295

/-- With what an instruction works: its own number, or X. -/
def other (s : Mac) (c k : Int) : Int := if c % 16 < 8 then k else s.x

theorem bit8_jump (c : Int) (hc : isJump c = true) : (bits BinOp.and IntKind.i64 c 8 != 0) = !(decide (c % 16 < 8)) := by
  rcases jump_mem hc with rfl | rfl | rfl | rfl | rfl | rfl | rfl | rfl <;> decide +kernel

theorem bit8_alu (c : Int) (hc : isAlu c = true) : (bits BinOp.and IntKind.i64 c 8 != 0) = !(decide (c % 16 < 8)) := by
  rcases alu_mem hc with rfl | rfl | rfl | rfl | rfl | rfl | rfl | rfl | rfl | rfl | rfl | rfl | rfl | rfl | rfl | rfl | rfl | rfl <;> decide +kernel

set_option maxHeartbeats 4000000 in
theorem with_any (g : Nat) (s : Mac) (c k : Int) (w : World) (hb : Box w g 57 s.vals) (hc : isJump c = true) :
    Calls Try.prog 25 #[.pointer (some ⟨g, 0, none⟩), .int .i64 c, .int .u32 k] w fun e w' => e = .returned (.int .u32 (other s c k)) ∧ w = w' := by
  have hx : w.cell? ⟨g, 1, none⟩ = some (.int .u32 s.x) := hb.cell 1
  have hn := bit8_jump c hc
  clear hb hc
  by_cases h8 : c % 16 < 8
  · have ho : other s c k = k := by unfold other; rw [if_pos h8]
    rw [decide_eq_true h8] at hn
    have hn' : (bits BinOp.and IntKind.i64 c 8 != 0) = false := hn
    rw [ho]
    clear ho h8 hn
    go_enter Try.func25, Try.ntmps25
    go_wp2
    go_ret
    exact ⟨rfl, rfl⟩
  · have ho : other s c k = s.x := by unfold other; rw [if_neg h8]
    rw [decide_eq_false h8] at hn
    have hn' : (bits BinOp.and IntKind.i64 c 8 != 0) = true := hn
    rw [ho]
    clear ho h8 hn
    go_enter Try.func25, Try.ntmps25
    go_wp2
    go_ret
    exact ⟨rfl, rfl⟩

end Go.Proofs.Ytlghhnfpmekdnaa
