/- What the landed checker's small functions give. -/
import Derived.Test.YtlghhnfpmekdnaaRefused
namespace Go.Proofs.Ytlghhnfpmekdnaa.LandedChk
open Go.RowKit

/-- A bool, and nothing else turns. -/
def Just (b : Bool) (w : World) : Ending → World → Prop := fun e w' => e = .returned (.bool b) ∧ w = w'
/-- A bool; what lies there stands. -/
def Tell (b : Bool) (w : World) : Ending → World → Prop := fun e w' => e = .returned (.bool b) ∧ Below w.heap.size w w'

def byteOk (n : Int) : Bool := decide (0 ≤ n) && decide (n ≤ 255)
def isRet (c : Int) : Bool := c == 6 || c == 22
def badKOf (x : Ins) : Bool :=
  if x.code = 32 then (x.k % 4 != 0) || decide (60 < x.k)
  else if x.code = 2 ∨ x.code = 3 ∨ x.code = 96 ∨ x.code = 97 then decide (16 ≤ x.k)
  else if x.code = 52 then x.k == 0
  else if x.code = 100 ∨ x.code = 116 then decide (32 ≤ x.k)
  else false

theorem isByte_any (n : Int) (w : World) : Calls Try.prog 27 #[.int .i64 n] w (Just (byteOk n) w) := by
  cases h0 : decide (0 ≤ n)
  · have e0 : ¬ 0 ≤ n := of_decide_eq_false h0
    go_enter Try.func27, Try.ntmps27
    go_wp2
    go_ret
    exact ⟨by rw [byteOk, h0]; rfl, rfl⟩
  · have e0 : 0 ≤ n := of_decide_eq_true h0
    go_enter Try.func27, Try.ntmps27
    go_wp2
    go_ret
    exact ⟨by rw [byteOk, h0]; rfl, rfl⟩

theorem returns_any (c : Int) (w : World) : Calls Try.prog 31 #[.int .i64 c] w (Just (isRet c) w) := by
  cases h0 : (c == 6)
  all_goals
    go_enter Try.func31, Try.ntmps31
    go_wp2
    go_ret
    exact ⟨by rw [isRet, h0]; rfl, rfl⟩

set_option maxRecDepth 100000 in
set_option maxHeartbeats 4000000 in
theorem compares_any (c : Int) (w : World) : Calls Try.prog 30 #[.int .i64 c] w (Just (isJump c) w) := by
  by_cases h : isJump c = true
  · have hm := jump_mem h
    rcases hm with rfl | rfl | rfl | rfl | rfl | rfl | rfl | rfl
    all_goals
      clear h
      go_enter Try.func30, Try.ntmps30
      go_wp2
      go_ret
      exact ⟨rfl, rfl⟩
  · have hf : isJump c = false := by simpa using h
    have hall := hf
    simp only [isJump, jumpCodes, List.contains_cons, List.contains_nil, Bool.or_eq_false_iff] at hall
    obtain ⟨c0, c1, c2, c3, c4, c5, c6, c7, _⟩ := hall
    rw [hf]
    clear h hf
    go_enter Try.func30, Try.ntmps30
    go_wp2
    go_ret
    exact ⟨rfl, rfl⟩

theorem sized_any (A : Option Addr) (n c : Nat) (w : World) : Calls Try.prog 15 #[.slice A n c] w (Just (decide (1 ≤ n) && decide (n ≤ 4096)) w) := by
  by_cases h : n = 0
  · subst h
    go_enter Try.func15, Try.ntmps15
    go_wp2
    go_ret
    exact ⟨rfl, rfl⟩
  · have b0 : decide ((0 : Int) < (n : Int)) = true := decide_eq_true (by omega)
    by_cases h2 : n ≤ 4096
    · have b1 : decide ((n : Int) ≤ (4096 : Int)) = true := decide_eq_true (by omega)
      have hv : (decide (1 ≤ n) && decide (n ≤ 4096)) = true := by simp; omega
      rw [hv]
      clear hv
      go_enter Try.func15, Try.ntmps15
      go_wp2
      go_ret
      exact ⟨rfl, rfl⟩
    · have b1 : decide ((n : Int) ≤ (4096 : Int)) = false := decide_eq_false (by omega)
      have hv : (decide (1 ≤ n) && decide (n ≤ 4096)) = false := by simp; omega
      rw [hv]
      clear hv
      go_enter Try.func15, Try.ntmps15
      go_wp2
      go_ret
      exact ⟨rfl, rfl⟩

/-- The codes that neither jump on a condition nor end. -/
def stepCodes : List Int := [0, 1, 2, 3, 4, 5, 7, 12, 20, 28, 32, 36, 44, 52, 60, 68, 76, 84, 92, 96, 97, 100, 108, 116, 124, 128, 129, 132, 135, 164, 172]
theorem code_parts (c : Int) : isCode c = (stepCodes.contains c || isJump c || isRet c) := by
  rw [Bool.eq_iff_iff]
  simp [isCode, codeTab, stepCodes, isJump, jumpCodes, isRet]
  omega

set_option maxRecDepth 100000 in
set_option maxHeartbeats 8000000 in
theorem known_any (c : Int) (w : World) : Calls Try.prog 28 #[.int .i64 c] w (Just (isCode c) w) := by
  cases h : stepCodes.contains c
  · have hall := h
    simp only [stepCodes, List.contains_cons, List.contains_nil, Bool.or_eq_false_iff] at hall
    obtain ⟨c0, c1, c2, c3, c4, c5, c6, c7, c8, c9, c10, c11, c12, c13, c14, c15, c16, c17, c18, c19, c20, c21, c22, c23, c24, c25, c26, c27, c28, c29, c30, _⟩ := hall
    rw [code_parts, h, Bool.false_or]
    clear h
    cases hj : isJump c
    all_goals
      have HJ := Lib.hid hj
      clear hj
      go_enter Try.func28, Try.ntmps28
      go_wp2_with fail
      refine (compares_any _ _).mono ?_
      rw [HJ.out]
      rintro r w1 ⟨rfl, rfl⟩
    · go_wp2_with fail
      refine (returns_any _ _).mono ?_
      rintro r w2 ⟨rfl, rfl⟩
      go_wp2
      go_ret
      exact ⟨rfl, rfl⟩
    · go_wp2
      go_ret
      exact ⟨rfl, rfl⟩
  · rw [code_parts, h, Bool.true_or, Bool.true_or]
    have hm : c ∈ stepCodes := by simpa using h
    clear h
    simp only [stepCodes, List.mem_cons, List.not_mem_nil, or_false] at hm
    rcases hm with rfl | rfl | rfl | rfl | rfl | rfl | rfl | rfl | rfl | rfl | rfl | rfl | rfl | rfl | rfl | rfl | rfl | rfl | rfl | rfl | rfl | rfl | rfl | rfl | rfl | rfl | rfl | rfl | rfl | rfl | rfl
    all_goals
      go_enter Try.func28, Try.ntmps28
      go_wp2
      go_ret
      exact ⟨rfl, rfl⟩

set_option maxRecDepth 100000 in
set_option maxHeartbeats 4000000 in
theorem badK_any (x : Ins) (w : World) (hx : x.Ok) : Calls Try.prog 29 #[.agg #[.int .i64 x.code, .int .i64 x.jt, .int .i64 x.jf, .int .u32 x.k]] w (Tell (badKOf x) w) := by
  obtain ⟨c, jt, jf, k⟩ := x
  obtain ⟨_, _, _, _, _, _, k0, k1⟩ := hx
  dsimp only at *
  by_cases h32 : c = 32
  · subst h32
    have hv : badKOf ⟨32, jt, jf, k⟩ = ((k % 4 != 0) || decide (60 < k)) := rfl
    rw [hv]
    clear hv
    cases h0 : (k % 4 != 0)
    all_goals
      go_enter Try.func29, Try.ntmps29
      go_wp2
      go_ret
      exact ⟨rfl, (Below.refl _ _).alloc (Nat.le_refl _) _⟩
  by_cases hm : c = 2 ∨ c = 3 ∨ c = 96 ∨ c = 97
  · have hv : badKOf ⟨c, jt, jf, k⟩ = decide (16 ≤ k) := by unfold badKOf; rw [if_neg h32, if_pos hm]
    rw [hv]
    clear hv h32
    rcases hm with rfl | rfl | rfl | rfl
    all_goals
      go_enter Try.func29, Try.ntmps29
      go_wp2
      go_ret
      exact ⟨rfl, (Below.refl _ _).alloc (Nat.le_refl _) _⟩
  by_cases h52 : c = 52
  · subst h52
    have hv : badKOf ⟨52, jt, jf, k⟩ = (k == 0) := rfl
    rw [hv]
    clear hv hm h32
    go_enter Try.func29, Try.ntmps29
    go_wp2
    go_ret
    exact ⟨rfl, (Below.refl _ _).alloc (Nat.le_refl _) _⟩
  by_cases hs : c = 100 ∨ c = 116
  · have hv : badKOf ⟨c, jt, jf, k⟩ = decide (32 ≤ k) := by unfold badKOf; rw [if_neg h32, if_neg hm, if_neg h52, if_pos hs]
    rw [hv]
    clear hv h32 hm h52
    rcases hs with rfl | rfl
    all_goals
      go_enter Try.func29, Try.ntmps29
      go_wp2
      go_ret
      exact ⟨rfl, (Below.refl _ _).alloc (Nat.le_refl _) _⟩
  · have hv : badKOf ⟨c, jt, jf, k⟩ = false := by unfold badKOf; rw [if_neg h32, if_neg hm, if_neg h52, if_neg hs]
    rw [hv]
    clear hv
    simp only [not_or] at hm hs
    have b0 : (c == 32) = false := by simpa using h32
    have b1 : (c == 2) = false := by simpa using hm.1
    have b2 : (c == 3) = false := by simpa using hm.2.1
    have b3 : (c == 96) = false := by simpa using hm.2.2.1
    have b4 : (c == 97) = false := by simpa using hm.2.2.2
    have b5 : (c == 52) = false := by simpa using h52
    have b6 : (c == 100) = false := by simpa using hs.1
    have b7 : (c == 116) = false := by simpa using hs.2
    clear h32 hm h52 hs
    go_enter Try.func29, Try.ntmps29
    go_wp2
    go_ret
    exact ⟨rfl, (Below.refl _ _).alloc (Nat.le_refl _) _⟩

end Go.Proofs.Ytlghhnfpmekdnaa.LandedChk
