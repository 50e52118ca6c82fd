/- What the document's own test of one instruction gives. -/
import Derived.Test.YtlghhnfpmekdnaaCodeName
import Derived.Test.YtlghhnfpmekdnaaAlu
import Derived.Test.YtlghhnfpmekdnaaIns
namespace Go.Proofs.Ytlghhnfpmekdnaa
open Go.RowKit

/-- Is an instruction refused, by all but what is stored, with so many behind it? -/
def refusedB (x : Ins) (left : Int) : Bool :=
  if x.jt < 0 ∨ 255 < x.jt ∨ x.jf < 0 ∨ 255 < x.jf ∨ isCode x.code = false then true
  else if x.code = 32 then (x.k % 4 != 0) || decide (60 < x.k) || (left == 0)
  else if x.code = 2 ∨ x.code = 3 ∨ x.code = 96 ∨ x.code = 97 then decide (16 ≤ x.k) || (left == 0)
  else if x.code = 52 then (x.k == 0) || (left == 0)
  else if x.code = 100 ∨ x.code = 116 then decide (32 ≤ x.k) || (left == 0)
  else if x.code = 5 then decide (left ≤ x.k)
  else if isJump x.code then decide (left ≤ x.jt) || decide (left ≤ x.jf)
  else if x.code = 6 ∨ x.code = 22 then false
  else left == 0

def refusedAt (l : List Ins) (i : Nat) : Bool := match l[i]? with
  | none => true
  | some x => refusedB x (l.length - 1 - i : Nat)

/-- Fine as far as its jumps and its code go. -/
def Ins.plain (x : Ins) : Prop := 0 ≤ x.jt ∧ x.jt ≤ 255 ∧ 0 ≤ x.jf ∧ x.jf ≤ 255 ∧ isCode x.code = true

theorem refusedB_plain (x : Ins) (left : Int) (h : x.plain) : refusedB x left =
  (if x.code = 32 then (x.k % 4 != 0) || decide (60 < x.k) || (left == 0)
  else if x.code = 2 ∨ x.code = 3 ∨ x.code = 96 ∨ x.code = 97 then decide (16 ≤ x.k) || (left == 0)
  else if x.code = 52 then (x.k == 0) || (left == 0)
  else if x.code = 100 ∨ x.code = 116 then decide (32 ≤ x.k) || (left == 0)
  else if x.code = 5 then decide (left ≤ x.k)
  else if isJump x.code then decide (left ≤ x.jt) || decide (left ≤ x.jf)
  else if x.code = 6 ∨ x.code = 22 then false
  else left == 0) := by
  obtain ⟨h1, h2, h3, h4, h5⟩ := h
  unfold refusedB
  rw [if_neg]
  rintro (h | h | h | h | h)
  · omega
  · omega
  · omega
  · omega
  · rw [h5] at h; cases h

theorem ret_bool {a b : Bool} (h : a = b) : Ending.returned (.bool a) = .returned (.bool b) := by rw [h]

/-- What one call of it is to give. -/
def Refuses (A : Option Addr) (n c i : Nat) (b : Bool) (w : World) : Prop :=
  Calls Try.prog 20 #[.slice A n c, .int .i64 i] w fun r w' => r = .returned (.bool b) ∧ Below w.heap.size w w'

set_option maxRecDepth 100000 in
set_option maxHeartbeats 2000000 in
theorem refused_bad
    (n c i b o : Nat) (x : Ins) (w : World) (hx : x.Ok) (hi : i < n) (hn : n ≤ 4398046511104) (e0 : w.cell? ⟨b, o + i * 4, none⟩ = some (.int .i64 x.code)) (e1 : w.cell? ⟨b, o + i * 4 + 1, none⟩ = some (.int .i64 x.jt)) (e2 : w.cell? ⟨b, o + i * 4 + 2, none⟩ = some (.int .i64 x.jf)) (e3 : w.cell? ⟨b, o + i * 4 + 3, none⟩ = some (.int .u32 x.k)) (hb : x.jt < 0 ∨ 255 < x.jt ∨ x.jf < 0 ∨ 255 < x.jf ∨ isCode x.code = false) : Refuses (some ⟨b, o, none⟩) n c i true w := by
  unfold Refuses
  obtain ⟨c, jt, jf, k⟩ := x
  dsimp only at *
  by_cases g0 : jt < 0
  · clear hb
    go_enter Try.func20, Try.ntmps20
    go_wp2
    go_ret
    exact ⟨rfl, (Below.refl _ _).alloc (Nat.le_refl _) _⟩
  have b0 : decide (jt < 0) = false := decide_eq_false g0
  by_cases g1 : 255 < jt
  · clear hb
    go_enter Try.func20, Try.ntmps20
    go_wp2
    go_ret
    exact ⟨rfl, (Below.refl _ _).alloc (Nat.le_refl _) _⟩
  have b1 : decide (255 < jt) = false := decide_eq_false g1
  by_cases g2 : jf < 0
  · clear hb
    go_enter Try.func20, Try.ntmps20
    go_wp2
    go_ret
    exact ⟨rfl, (Below.refl _ _).alloc (Nat.le_refl _) _⟩
  have b2 : decide (jf < 0) = false := decide_eq_false g2
  by_cases g3 : 255 < jf
  · clear hb
    go_enter Try.func20, Try.ntmps20
    go_wp2
    go_ret
    exact ⟨rfl, (Below.refl _ _).alloc (Nat.le_refl _) _⟩
  have b3 : decide (255 < jf) = false := decide_eq_false g3
  have hc : isCode c = false := by
    rcases hb with h | h | h | h | h
    · omega
    · omega
    · omega
    · omega
    · exact h
  clear hb
  have HC := Lib.hid hc
  clear hc
  go_enter Try.func20, Try.ntmps20
  go_wp2_with fail
  refine (codeName_not _ _ HC.out).mono ?_
  rintro r w1 ⟨rfl, hb1⟩
  go_wp2
  go_ret
  exact ⟨rfl, below_step ((Below.refl _ _).alloc (Nat.le_refl _) _) (Nat.le_refl _) hb1⟩

set_option maxRecDepth 100000 in
set_option maxHeartbeats 2000000 in
theorem refused_abs
    (n c i b o : Nat) (x : Ins) (w : World) (hx : x.Ok) (hi : i < n) (hn : n ≤ 4398046511104) (e0 : w.cell? ⟨b, o + i * 4, none⟩ = some (.int .i64 x.code)) (e1 : w.cell? ⟨b, o + i * 4 + 1, none⟩ = some (.int .i64 x.jt)) (e2 : w.cell? ⟨b, o + i * 4 + 2, none⟩ = some (.int .i64 x.jf)) (e3 : w.cell? ⟨b, o + i * 4 + 3, none⟩ = some (.int .u32 x.k)) (hp : x.plain) (hc : x.code = 32) : Refuses (some ⟨b, o, none⟩) n c i ((x.k % 4 != 0) || decide (60 < x.k) || (((n : Int) - 1 - (i : Int)) == 0)) w := by
  unfold Refuses
  obtain ⟨c, jt, jf, k⟩ := x
  obtain ⟨p0, p1, p2, p3, p4⟩ := hp
  obtain ⟨_, _, _, _, _, _, k0, k1⟩ := hx
  dsimp only at *
  have b0 : decide (jt < 0) = false := decide_eq_false (by omega)
  have b1 : decide (255 < jt) = false := decide_eq_false (by omega)
  have b2 : decide (jf < 0) = false := decide_eq_false (by omega)
  have b3 : decide (255 < jf) = false := decide_eq_false (by omega)
  have HC := Lib.hid p4
  clear p4
  subst hc
  go_enter Try.func20, Try.ntmps20
  go_wp2_with fail
  refine (codeName_yes _ _ HC.out).mono ?_
  rintro r w1 ⟨s, rfl, hs1, hs2, hb1⟩
  obtain ⟨hc1, hf1⟩ := cells_below hb1
  go_wp2
  all_goals
    go_ret
    exact ⟨ret_bool (by first | rfl | simp [*]), below_step ((Below.refl _ _).alloc (Nat.le_refl _) _) (Nat.le_refl _) hb1⟩

set_option maxRecDepth 100000 in
set_option maxHeartbeats 2000000 in
theorem refused_mem
    (n c i b o : Nat) (x : Ins) (w : World) (hx : x.Ok) (hi : i < n) (hn : n ≤ 4398046511104) (e0 : w.cell? ⟨b, o + i * 4, none⟩ = some (.int .i64 x.code)) (e1 : w.cell? ⟨b, o + i * 4 + 1, none⟩ = some (.int .i64 x.jt)) (e2 : w.cell? ⟨b, o + i * 4 + 2, none⟩ = some (.int .i64 x.jf)) (e3 : w.cell? ⟨b, o + i * 4 + 3, none⟩ = some (.int .u32 x.k)) (hp : x.plain) (hc : x.code = 2 ∨ x.code = 3 ∨ x.code = 96 ∨ x.code = 97) : Refuses (some ⟨b, o, none⟩) n c i (decide (16 ≤ x.k) || (((n : Int) - 1 - (i : Int)) == 0)) w := by
  unfold Refuses
  obtain ⟨c, jt, jf, k⟩ := x
  obtain ⟨p0, p1, p2, p3, p4⟩ := hp
  obtain ⟨_, _, _, _, _, _, k0, k1⟩ := hx
  dsimp only at *
  have b0 : decide (jt < 0) = false := decide_eq_false (by omega)
  have b1 : decide (255 < jt) = false := decide_eq_false (by omega)
  have b2 : decide (jf < 0) = false := decide_eq_false (by omega)
  have b3 : decide (255 < jf) = false := decide_eq_false (by omega)
  have HC := Lib.hid p4
  clear p4
  rcases hc with rfl | rfl | rfl | rfl
  all_goals
    go_enter Try.func20, Try.ntmps20
    go_wp2_with fail
    refine (codeName_yes _ _ HC.out).mono ?_
    rintro r w1 ⟨s, rfl, hs1, hs2, hb1⟩
    obtain ⟨hc1, hf1⟩ := cells_below hb1
    go_wp2
    all_goals
      go_ret
      exact ⟨ret_bool (by first | rfl | simp [*]), below_step ((Below.refl _ _).alloc (Nat.le_refl _) _) (Nat.le_refl _) hb1⟩

set_option maxRecDepth 100000 in
set_option maxHeartbeats 2000000 in
theorem refused_div
    (n c i b o : Nat) (x : Ins) (w : World) (hx : x.Ok) (hi : i < n) (hn : n ≤ 4398046511104) (e0 : w.cell? ⟨b, o + i * 4, none⟩ = some (.int .i64 x.code)) (e1 : w.cell? ⟨b, o + i * 4 + 1, none⟩ = some (.int .i64 x.jt)) (e2 : w.cell? ⟨b, o + i * 4 + 2, none⟩ = some (.int .i64 x.jf)) (e3 : w.cell? ⟨b, o + i * 4 + 3, none⟩ = some (.int .u32 x.k)) (hp : x.plain) (hc : x.code = 52) : Refuses (some ⟨b, o, none⟩) n c i ((x.k == 0) || (((n : Int) - 1 - (i : Int)) == 0)) w := by
  unfold Refuses
  obtain ⟨c, jt, jf, k⟩ := x
  obtain ⟨p0, p1, p2, p3, p4⟩ := hp
  obtain ⟨_, _, _, _, _, _, k0, k1⟩ := hx
  dsimp only at *
  have b0 : decide (jt < 0) = false := decide_eq_false (by omega)
  have b1 : decide (255 < jt) = false := decide_eq_false (by omega)
  have b2 : decide (jf < 0) = false := decide_eq_false (by omega)
  have b3 : decide (255 < jf) = false := decide_eq_false (by omega)
  have HC := Lib.hid p4
  clear p4
  subst hc
  go_enter Try.func20, Try.ntmps20
  go_wp2_with fail
  refine (codeName_yes _ _ HC.out).mono ?_
  rintro r w1 ⟨s, rfl, hs1, hs2, hb1⟩
  obtain ⟨hc1, hf1⟩ := cells_below hb1
  go_wp2
  all_goals
    go_ret
    exact ⟨ret_bool (by first | rfl | simp [*]), below_step ((Below.refl _ _).alloc (Nat.le_refl _) _) (Nat.le_refl _) hb1⟩

set_option maxRecDepth 100000 in
set_option maxHeartbeats 2000000 in
theorem refused_shift
    (n c i b o : Nat) (x : Ins) (w : World) (hx : x.Ok) (hi : i < n) (hn : n ≤ 4398046511104) (e0 : w.cell? ⟨b, o + i * 4, none⟩ = some (.int .i64 x.code)) (e1 : w.cell? ⟨b, o + i * 4 + 1, none⟩ = some (.int .i64 x.jt)) (e2 : w.cell? ⟨b, o + i * 4 + 2, none⟩ = some (.int .i64 x.jf)) (e3 : w.cell? ⟨b, o + i * 4 + 3, none⟩ = some (.int .u32 x.k)) (hp : x.plain) (hc : x.code = 100 ∨ x.code = 116) : Refuses (some ⟨b, o, none⟩) n c i (decide (32 ≤ x.k) || (((n : Int) - 1 - (i : Int)) == 0)) w := by
  unfold Refuses
  obtain ⟨c, jt, jf, k⟩ := x
  obtain ⟨p0, p1, p2, p3, p4⟩ := hp
  obtain ⟨_, _, _, _, _, _, k0, k1⟩ := hx
  dsimp only at *
  have b0 : decide (jt < 0) = false := decide_eq_false (by omega)
  have b1 : decide (255 < jt) = false := decide_eq_false (by omega)
  have b2 : decide (jf < 0) = false := decide_eq_false (by omega)
  have b3 : decide (255 < jf) = false := decide_eq_false (by omega)
  have HC := Lib.hid p4
  clear p4
  rcases hc with rfl | rfl
  all_goals
    go_enter Try.func20, Try.ntmps20
    go_wp2_with fail
    refine (codeName_yes _ _ HC.out).mono ?_
    rintro r w1 ⟨s, rfl, hs1, hs2, hb1⟩
    obtain ⟨hc1, hf1⟩ := cells_below hb1
    go_wp2
    all_goals
      go_ret
      exact ⟨ret_bool (by first | rfl | simp [*]), below_step ((Below.refl _ _).alloc (Nat.le_refl _) _) (Nat.le_refl _) hb1⟩

set_option maxRecDepth 100000 in
set_option maxHeartbeats 2000000 in
theorem refused_ja
    (n c i b o : Nat) (x : Ins) (w : World) (hx : x.Ok) (hi : i < n) (hn : n ≤ 4398046511104) (e0 : w.cell? ⟨b, o + i * 4, none⟩ = some (.int .i64 x.code)) (e1 : w.cell? ⟨b, o + i * 4 + 1, none⟩ = some (.int .i64 x.jt)) (e2 : w.cell? ⟨b, o + i * 4 + 2, none⟩ = some (.int .i64 x.jf)) (e3 : w.cell? ⟨b, o + i * 4 + 3, none⟩ = some (.int .u32 x.k)) (hp : x.plain) (hc : x.code = 5) : Refuses (some ⟨b, o, none⟩) n c i (decide (((n : Int) - 1 - (i : Int)) ≤ x.k)) w := by
  unfold Refuses
  obtain ⟨c, jt, jf, k⟩ := x
  obtain ⟨p0, p1, p2, p3, p4⟩ := hp
  obtain ⟨_, _, _, _, _, _, k0, k1⟩ := hx
  dsimp only at *
  have b0 : decide (jt < 0) = false := decide_eq_false (by omega)
  have b1 : decide (255 < jt) = false := decide_eq_false (by omega)
  have b2 : decide (jf < 0) = false := decide_eq_false (by omega)
  have b3 : decide (255 < jf) = false := decide_eq_false (by omega)
  have HC := Lib.hid p4
  clear p4
  subst hc
  go_enter Try.func20, Try.ntmps20
  go_wp2_with fail
  refine (codeName_yes _ _ HC.out).mono ?_
  rintro r w1 ⟨s, rfl, hs1, hs2, hb1⟩
  obtain ⟨hc1, hf1⟩ := cells_below hb1
  go_wp2
  all_goals
    go_ret
    exact ⟨ret_bool (by first | rfl | simp [*]), below_step ((Below.refl _ _).alloc (Nat.le_refl _) _) (Nat.le_refl _) hb1⟩

set_option maxRecDepth 100000 in
set_option maxHeartbeats 2000000 in
theorem refused_jump
    (n c i b o : Nat) (x : Ins) (w : World) (hx : x.Ok) (hi : i < n) (hn : n ≤ 4398046511104) (e0 : w.cell? ⟨b, o + i * 4, none⟩ = some (.int .i64 x.code)) (e1 : w.cell? ⟨b, o + i * 4 + 1, none⟩ = some (.int .i64 x.jt)) (e2 : w.cell? ⟨b, o + i * 4 + 2, none⟩ = some (.int .i64 x.jf)) (e3 : w.cell? ⟨b, o + i * 4 + 3, none⟩ = some (.int .u32 x.k)) (hp : x.plain) (hc : isJump x.code = true) : Refuses (some ⟨b, o, none⟩) n c i (decide (((n : Int) - 1 - (i : Int)) ≤ x.jt) || decide (((n : Int) - 1 - (i : Int)) ≤ x.jf)) w := by
  unfold Refuses
  obtain ⟨c, jt, jf, k⟩ := x
  obtain ⟨p0, p1, p2, p3, p4⟩ := hp
  obtain ⟨_, _, _, _, _, _, k0, k1⟩ := hx
  dsimp only at *
  have b0 : decide (jt < 0) = false := decide_eq_false (by omega)
  have b1 : decide (255 < jt) = false := decide_eq_false (by omega)
  have b2 : decide (jf < 0) = false := decide_eq_false (by omega)
  have b3 : decide (255 < jf) = false := decide_eq_false (by omega)
  have HC := Lib.hid p4
  clear p4
  have HJ := Lib.hid hc
  rcases jump_mem hc with rfl | rfl | rfl | rfl | rfl | rfl | rfl | rfl
  all_goals
    clear hc
    go_enter Try.func20, Try.ntmps20
    go_wp2_with fail
    refine (codeName_yes _ _ HC.out).mono ?_
    rintro r w1 ⟨s, rfl, hs1, hs2, hb1⟩
    obtain ⟨hc1, hf1⟩ := cells_below hb1
    go_wp2_with fail
    refine (isJump_any _ _).mono ?_
    rintro r w2 ⟨rfl, rfl⟩
    rw [HJ.out]
    go_wp2
    all_goals
      go_ret
      exact ⟨ret_bool (by first | rfl | simp [*]), below_step ((Below.refl _ _).alloc (Nat.le_refl _) _) (Nat.le_refl _) hb1⟩

set_option maxRecDepth 100000 in
set_option maxHeartbeats 2000000 in
theorem refused_ret
    (n c i b o : Nat) (x : Ins) (w : World) (hx : x.Ok) (hi : i < n) (hn : n ≤ 4398046511104) (e0 : w.cell? ⟨b, o + i * 4, none⟩ = some (.int .i64 x.code)) (e1 : w.cell? ⟨b, o + i * 4 + 1, none⟩ = some (.int .i64 x.jt)) (e2 : w.cell? ⟨b, o + i * 4 + 2, none⟩ = some (.int .i64 x.jf)) (e3 : w.cell? ⟨b, o + i * 4 + 3, none⟩ = some (.int .u32 x.k)) (hp : x.plain) (hc : x.code = 6 ∨ x.code = 22) : Refuses (some ⟨b, o, none⟩) n c i (false) w := by
  unfold Refuses
  obtain ⟨c, jt, jf, k⟩ := x
  obtain ⟨p0, p1, p2, p3, p4⟩ := hp
  obtain ⟨_, _, _, _, _, _, k0, k1⟩ := hx
  dsimp only at *
  have b0 : decide (jt < 0) = false := decide_eq_false (by omega)
  have b1 : decide (255 < jt) = false := decide_eq_false (by omega)
  have b2 : decide (jf < 0) = false := decide_eq_false (by omega)
  have b3 : decide (255 < jf) = false := decide_eq_false (by omega)
  have HC := Lib.hid p4
  clear p4
  rcases hc with rfl | rfl
  all_goals
    go_enter Try.func20, Try.ntmps20
    go_wp2_with fail
    refine (codeName_yes _ _ HC.out).mono ?_
    rintro r w1 ⟨s, rfl, hs1, hs2, hb1⟩
    obtain ⟨hc1, hf1⟩ := cells_below hb1
    go_wp2_with fail
    refine (isJump_any _ _).mono ?_
    rintro r w2 ⟨rfl, rfl⟩
    first | rw [show isJump 6 = false from rfl] | rw [show isJump 22 = false from rfl]
    go_wp2
    all_goals
      go_ret
      exact ⟨ret_bool (by first | rfl | simp [*]), below_step ((Below.refl _ _).alloc (Nat.le_refl _) _) (Nat.le_refl _) hb1⟩

set_option maxRecDepth 100000 in
set_option maxHeartbeats 2000000 in
theorem refused_else
    (n c i b o : Nat) (x : Ins) (w : World) (hx : x.Ok) (hi : i < n) (hn : n ≤ 4398046511104) (e0 : w.cell? ⟨b, o + i * 4, none⟩ = some (.int .i64 x.code)) (e1 : w.cell? ⟨b, o + i * 4 + 1, none⟩ = some (.int .i64 x.jt)) (e2 : w.cell? ⟨b, o + i * 4 + 2, none⟩ = some (.int .i64 x.jf)) (e3 : w.cell? ⟨b, o + i * 4 + 3, none⟩ = some (.int .u32 x.k)) (hp : x.plain) (h32 : (x.code == 32) = false) (h2 : (x.code == 2) = false) (h3 : (x.code == 3) = false) (h96 : (x.code == 96) = false) (h97 : (x.code == 97) = false) (h52 : (x.code == 52) = false) (h100 : (x.code == 100) = false) (h116 : (x.code == 116) = false) (h5 : (x.code == 5) = false) (h6 : (x.code == 6) = false) (h22 : (x.code == 22) = false) (hj : isJump x.code = false) : Refuses (some ⟨b, o, none⟩) n c i (((n : Int) - 1 - (i : Int)) == 0) w := by
  unfold Refuses
  obtain ⟨c, jt, jf, k⟩ := x
  obtain ⟨p0, p1, p2, p3, p4⟩ := hp
  obtain ⟨_, _, _, _, _, _, k0, k1⟩ := hx
  dsimp only at *
  have b0 : decide (jt < 0) = false := decide_eq_false (by omega)
  have b1 : decide (255 < jt) = false := decide_eq_false (by omega)
  have b2 : decide (jf < 0) = false := decide_eq_false (by omega)
  have b3 : decide (255 < jf) = false := decide_eq_false (by omega)
  have HC := Lib.hid p4
  clear p4
  have HJ := Lib.hid hj
  clear hj
  go_enter Try.func20, Try.ntmps20
  go_wp2_with fail
  refine (codeName_yes _ _ HC.out).mono ?_
  rintro r w1 ⟨s, rfl, hs1, hs2, hb1⟩
  obtain ⟨hc1, hf1⟩ := cells_below hb1
  go_wp2_with fail
  refine (isJump_any _ _).mono ?_
  rintro r w2 ⟨rfl, rfl⟩
  rw [HJ.out]
  go_wp2
  all_goals
    go_ret
    exact ⟨ret_bool (by first | rfl | simp [*]), below_step ((Below.refl _ _).alloc (Nat.le_refl _) _) (Nat.le_refl _) hb1⟩

theorem refused_any (A : Option Addr) (n c i : Nat) (l : List Ins) (w : World) (hl : Lies w w.heap.size 4 A n (cellsOf l)) (hok : ∀ y ∈ l, y.Ok) (hi : i < n) (hn : n ≤ 4398046511104) :
    Refuses A n c i (refusedAt l i) w := by
  have hln : l.length = n := by have := hl.1; rw [cells_len] at this; omega
  obtain ⟨b, o, rfl, _, hc⟩ := hl.2 (by omega)
  obtain ⟨x, hx⟩ : ∃ x, l[i]? = some x := ⟨_, List.getElem?_eq_getElem (by omega)⟩
  obtain ⟨a0, a1, a2, a3⟩ := cell_at l i x hx
  have hxo := hok x (List.mem_of_getElem? hx)
  have e0 := hc _ _ a0
  have e1 := hc _ _ a1
  have e2 := hc _ _ a2
  have e3 := hc _ _ a3
  rw [← Nat.add_assoc] at e1 e2 e3
  have hv : refusedAt l i = refusedB x ((n : Int) - 1 - (i : Int)) := by
    unfold refusedAt
    rw [hx, hln]
    show refusedB x ((n - 1 - i : Nat) : Int) = _
    congr 1
    omega
  rw [hv]
  by_cases hp : x.plain
  · rw [refusedB_plain x _ hp]
    by_cases h32 : x.code = 32
    · rw [if_pos h32]
      exact refused_abs n c i b o x w hxo hi hn e0 e1 e2 e3 hp h32
    rw [if_neg h32]
    by_cases hm : x.code = 2 ∨ x.code = 3 ∨ x.code = 96 ∨ x.code = 97
    · rw [if_pos hm]
      exact refused_mem n c i b o x w hxo hi hn e0 e1 e2 e3 hp hm
    rw [if_neg hm]
    by_cases h52 : x.code = 52
    · rw [if_pos h52]
      exact refused_div n c i b o x w hxo hi hn e0 e1 e2 e3 hp h52
    rw [if_neg h52]
    by_cases hs : x.code = 100 ∨ x.code = 116
    · rw [if_pos hs]
      exact refused_shift n c i b o x w hxo hi hn e0 e1 e2 e3 hp hs
    rw [if_neg hs]
    by_cases h5 : x.code = 5
    · rw [if_pos h5]
      exact refused_ja n c i b o x w hxo hi hn e0 e1 e2 e3 hp h5
    rw [if_neg h5]
    by_cases hj : isJump x.code = true
    · rw [if_pos hj]
      exact refused_jump n c i b o x w hxo hi hn e0 e1 e2 e3 hp hj
    rw [if_neg hj]
    by_cases hr : x.code = 6 ∨ x.code = 22
    · rw [if_pos hr]
      exact refused_ret n c i b o x w hxo hi hn e0 e1 e2 e3 hp hr
    rw [if_neg hr]
    simp only [not_or] at hm hs hr
    exact refused_else n c i b o x w hxo hi hn e0 e1 e2 e3 hp (by simpa using h32) (by simpa using hm.1) (by simpa using hm.2.1) (by simpa using hm.2.2.1) (by simpa using hm.2.2.2) (by simpa using h52) (by simpa using hs.1) (by simpa using hs.2) (by simpa using h5) (by simpa using hr.1) (by simpa using hr.2) (by simpa using hj)
  · have hb : x.jt < 0 ∨ 255 < x.jt ∨ x.jf < 0 ∨ 255 < x.jf ∨ isCode x.code = false := by
      by_cases h1 : x.jt < 0
      · exact .inl h1
      by_cases h2 : 255 < x.jt
      · exact .inr (.inl h2)
      by_cases h3 : x.jf < 0
      · exact .inr (.inr (.inl h3))
      by_cases h4 : 255 < x.jf
      · exact .inr (.inr (.inr (.inl h4)))
      refine .inr (.inr (.inr (.inr ?_)))
      cases h5 : isCode x.code
      · rfl
      · exact absurd ⟨by omega, by omega, by omega, by omega, h5⟩ hp
    have hv2 : refusedB x ((n : Int) - 1 - (i : Int)) = true := by unfold refusedB; rw [if_pos hb]
    rw [hv2]
    exact refused_bad n c i b o x w hxo hi hn e0 e1 e2 e3 hb

end Go.Proofs.Ytlghhnfpmekdnaa
