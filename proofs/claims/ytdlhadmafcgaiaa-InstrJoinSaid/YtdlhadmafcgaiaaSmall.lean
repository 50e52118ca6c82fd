/- What the small functions of package instr and of the document's answers give: the tests of one instruction's numbers. No condition. -/
import Derived.Test.YtdlhadmafcgaiaaBase
import Derived.Test.YtdlhadmafcgaiaaChecked
namespace Go.Proofs.Ytdlhadmafcgaiaa
open Go.RowKit

/-- An instruction: its four numbers. -/
structure Ins where
  code : Int
  jt : Int
  jf : Int
  k : Int

def Ins.cells (x : Ins) : List Value := [.int .i64 x.code, .int .i64 x.jt, .int .i64 x.jf, .int .u32 x.k]
def Ins.val (x : Ins) : Value := .agg #[.int .i64 x.code, .int .i64 x.jt, .int .i64 x.jf, .int .u32 x.k]
/-- Its numbers are of their kinds. -/
structure Ins.Ok (x : Ins) : Prop where
  c0 : -9223372036854775808 ≤ x.code
  c1 : x.code ≤ 9223372036854775807
  t0 : -9223372036854775808 ≤ x.jt
  t1 : x.jt ≤ 9223372036854775807
  f0 : -9223372036854775808 ≤ x.jf
  f1 : x.jf ≤ 9223372036854775807
  k0 : 0 ≤ x.k
  k1 : x.k ≤ 4294967295

def inB (n m : Int) : Bool := decide (0 ≤ n) && decide (n ≤ m)
/-- May it be written? -/
def Ins.fits (x : Ins) : Bool := inB x.code 65535 && (inB x.jt 255 && inB x.jf 255)

theorem within_any (n m : Int) (w : World) :
    Calls Try.prog 16 #[.int .i64 n, .int .i64 m] w fun e w' => e = .returned (.bool (inB n m)) ∧ w = w' := by
  by_cases h0 : 0 ≤ n
  · by_cases h1 : n ≤ m
    · go_enter Try.func16, Try.ntmps16
      go_wp2
      go_ret
      exact ⟨by simp [inB, h0, h1], rfl⟩
    · go_enter Try.func16, Try.ntmps16
      go_wp2
      go_ret
      exact ⟨by simp [inB, h0, h1], rfl⟩
  · go_enter Try.func16, Try.ntmps16
    go_wp2
    go_ret
    exact ⟨by simp [inB]; omega, rfl⟩

theorem num_any (n : Int) (w : World) :
    Calls Try.prog 12 #[.int .i64 n] w fun e w' => e = .returned (.int .i64 n) ∧ w = w' := by
  go_enter Try.func12, Try.ntmps12
  go_wp2
  go_ret
  exact ⟨rfl, rfl⟩

theorem fits_any (x : Ins) (w : World) :
    Calls Try.prog 13 #[x.val] w fun e w' => e = .returned (.bool x.fits) ∧ Below w.heap.size w w' := by
  obtain ⟨a, b, c, d⟩ := x
  unfold Ins.val
  by_cases h0 : inB a 65535 = true
  · by_cases h1 : inB b 255 = true
    · go_enter Try.func13, Try.ntmps13
      go_wp2_with (go_at_call 16; refine (within_any _ _ _).mono ?_; rintro e w' ⟨rfl, rfl⟩)
      go_ret
      exact ⟨by simp [Ins.fits, h0, h1], (Below.refl _ _).alloc (Nat.le_refl _) _⟩
    · have h1' : inB b 255 = false := by simpa using h1
      go_enter Try.func13, Try.ntmps13
      go_wp2_with (go_at_call 16; refine (within_any _ _ _).mono ?_; rintro e w' ⟨rfl, rfl⟩)
      go_ret
      exact ⟨by simp [Ins.fits, h0, h1'], (Below.refl _ _).alloc (Nat.le_refl _) _⟩
  · have h0' : inB a 65535 = false := by simpa using h0
    go_enter Try.func13, Try.ntmps13
    go_wp2_with (go_at_call 16; refine (within_any _ _ _).mono ?_; rintro e w' ⟨rfl, rfl⟩)
    go_ret
    exact ⟨by simp [Ins.fits, h0'], (Below.refl _ _).alloc (Nat.le_refl _) _⟩

theorem right_any (x : Ins) (w : World) :
    Calls Try.prog 15 #[x.val] w fun e w' => e = .returned (.bool x.fits) ∧ Below w.heap.size w w' := by
  obtain ⟨a, b, c, d⟩ := x
  unfold Ins.val
  by_cases ha : 0 ≤ a
  rotate_left
  · go_enter Try.func15, Try.ntmps15
    go_wp2
    go_ret
    exact ⟨by simp [Ins.fits, inB]; omega, (Below.refl _ _).alloc (Nat.le_refl _) _⟩
  by_cases ha' : a ≤ 65535
  rotate_left
  · go_enter Try.func15, Try.ntmps15
    go_wp2
    go_ret
    exact ⟨by simp [Ins.fits, inB]; omega, (Below.refl _ _).alloc (Nat.le_refl _) _⟩
  by_cases hb : 0 ≤ b
  rotate_left
  · go_enter Try.func15, Try.ntmps15
    go_wp2
    go_ret
    exact ⟨by simp [Ins.fits, inB]; omega, (Below.refl _ _).alloc (Nat.le_refl _) _⟩
  by_cases hb' : b ≤ 255
  rotate_left
  · go_enter Try.func15, Try.ntmps15
    go_wp2
    go_ret
    exact ⟨by simp [Ins.fits, inB]; omega, (Below.refl _ _).alloc (Nat.le_refl _) _⟩
  by_cases hc : 0 ≤ c
  rotate_left
  · go_enter Try.func15, Try.ntmps15
    go_wp2
    go_ret
    exact ⟨by simp [Ins.fits, inB]; omega, (Below.refl _ _).alloc (Nat.le_refl _) _⟩
  · go_enter Try.func15, Try.ntmps15
    go_wp2
    go_ret
    exact ⟨by simp [Ins.fits, inB, *], (Below.refl _ _).alloc (Nat.le_refl _) _⟩

end Go.Proofs.Ytdlhadmafcgaiaa
