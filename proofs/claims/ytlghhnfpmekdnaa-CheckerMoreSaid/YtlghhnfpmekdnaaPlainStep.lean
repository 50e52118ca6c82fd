/- What one plain step of the document's own machine gives. -/
import Derived.Test.YtlghhnfpmekdnaaAlu
import Derived.Test.YtlghhnfpmekdnaaRefWord
namespace Go.Proofs.Ytlghhnfpmekdnaa
open Go.RowKit

theorem Mac.set_a (s : Mac) (v : Int) : s.vals.setIfInBounds 0 (.int .u32 v) = ({ s with a := v } : Mac).vals := by simp [Mac.vals]
theorem Mac.set_x (s : Mac) (v : Int) : s.vals.setIfInBounds 1 (.int .u32 v) = ({ s with x := v } : Mac).vals := by simp [Mac.vals]

/-- A step of an instruction that neither jumps nor ends: the state behind it; is it right; does it end with 0. -/
def plainOf (s : Mac) (c k : Int) (d : Dat) : Mac × Bool × Bool :=
  if isAlu c then
    if (c = 52 ∨ c = 60) ∧ other s c k = 0 then (s, false, c == 60)
    else ({ s with a := aluOf c s.a (other s c k) }, true, false)
  else if c = 0 then ({ s with a := k }, true, false)
  else if c = 1 then ({ s with x := k }, true, false)
  else if c = 128 then ({ s with a := 64 }, true, false)
  else if c = 129 then ({ s with x := 64 }, true, false)
  else if c = 132 then ({ s with a := -s.a % 4294967296 }, true, false)
  else if c = 7 then ({ s with x := s.a }, true, false)
  else if c = 135 then ({ s with a := s.x }, true, false)
  else if c = 32 then ({ s with a := wordOf d k }, okOff k, false)
  else if c = 2 ∨ c = 3 ∨ c = 96 ∨ c = 97 then
    if 16 ≤ k then (s, false, false)
    else if c = 2 then ({ s with cells := s.cells.set k.toNat s.a }, true, false)
    else if c = 3 then ({ s with cells := s.cells.set k.toNat s.x }, true, false)
    else if c = 96 then ({ s with a := s.cells.getD k.toNat 0 }, true, false)
    else ({ s with x := s.cells.getD k.toNat 0 }, true, false)
  else (s, false, false)

/-- What Plain leaves. -/
def Stepped (g : Nat) (t : Mac × Bool × Bool) (w : World) : Ending → World → Prop :=
  fun r w' => r = .returned (.tuple #[.bool t.2.1, .bool t.2.2]) ∧ Box w' g 57 t.1.vals ∧ w.grownBy w' (some g)

set_option maxRecDepth 100000 in
set_option maxHeartbeats 4000000 in
theorem plain_alu (g : Nat) (s : Mac) (c k : Int) (d : Dat) (w : World) (hs : s.Ok) (hb : Box w g 57 s.vals) (k0 : 0 ≤ k) (k1 : k ≤ 4294967295) (hc : isAlu c = true) (hnd : ¬ (c = 52 ∨ c = 60)) :
    Calls Try.prog 26 #[.pointer (some ⟨g, 0, none⟩), .int .i64 c, .int .u32 k, d.val] w (Stepped g ({ s with a := aluOf c s.a (other s c k) }, true, false) w) := by
  have HB := Lib.hid hb
  have hgl := hb.lt
  have x0 := hs.x0
  have x1 := hs.x1
  have a0 := hs.a0
  have a1 := hs.a1
  unfold Dat.val Dat.cells
  have q0 : w.cell? ⟨g, 0, none⟩ = some (.int .u32 s.a) := hb.cell 0
  have q1 : w.cell? ⟨g, 1, none⟩ = some (.int .u32 s.x) := hb.cell 1
  have z0 : w.frozen? ⟨g, 0, none⟩ = false := hb.free 0
  have hn := bit8_alu c hc
  have HC := Lib.hid hc
  have e1 : (c == 52) = false := by rw [beq_eq_false_iff_ne]; omega
  have e2 : (c == 60) = false := by rw [beq_eq_false_iff_ne]; omega
  have HD : Hid (∀ b : Int, (c = 52 ∨ c = 60) → 1 ≤ b) := fun b h => absurd h hnd
  clear hb hs hc hnd
  by_cases h8 : c % 16 < 8
  · have ho : other s c k = k := by unfold other; rw [if_pos h8]
    rw [decide_eq_true h8] at hn
    have hn' : (bits BinOp.and IntKind.i64 c 8 != 0) = false := hn
    rw [ho]
    clear ho h8 hn
    go_enter Try.func26, Try.ntmps26
    go_wp2_with fail
    refine (isAlu_any _ _).mono ?_
    rw [HC.out]
    rintro r w1 ⟨rfl, rfl⟩
    go_wp2_with fail
    refine (alu_any _ s.a k _ a0 a1 k0 k1 HC.out (HD.out k)).mono ?_
    rintro r w1 ⟨rfl, rfl⟩
    go_wp2
    go_ret2
    exact ⟨rfl, by rw [← Mac.set_a]; exact (HB.out.set 0 _).alloc _, only_trans (only_set _ _ _ _) (only_alloc _ _ _)⟩
  · have ho : other s c k = s.x := by unfold other; rw [if_neg h8]
    rw [decide_eq_false h8] at hn
    have hn' : (bits BinOp.and IntKind.i64 c 8 != 0) = true := hn
    rw [ho]
    clear ho h8 hn
    go_enter Try.func26, Try.ntmps26
    go_wp2_with fail
    refine (isAlu_any _ _).mono ?_
    rw [HC.out]
    rintro r w1 ⟨rfl, rfl⟩
    go_wp2_with fail
    refine (alu_any _ s.a s.x _ a0 a1 x0 x1 HC.out (HD.out s.x)).mono ?_
    rintro r w1 ⟨rfl, rfl⟩
    go_wp2
    go_ret2
    exact ⟨rfl, by rw [← Mac.set_a]; exact (HB.out.set 0 _).alloc _, only_trans (only_set _ _ _ _) (only_alloc _ _ _)⟩

set_option maxRecDepth 100000 in
set_option maxHeartbeats 4000000 in
theorem plain_divk (g : Nat) (s : Mac) (k : Int) (d : Dat) (w : World) (hs : s.Ok) (hb : Box w g 57 s.vals) (k0 : 0 ≤ k) (k1 : k ≤ 4294967295) :
    Calls Try.prog 26 #[.pointer (some ⟨g, 0, none⟩), .int .i64 52, .int .u32 k, d.val] w (Stepped g (if k = 0 then (s, false, false) else ({ s with a := aluOf 52 s.a k }, true, false)) w) := by
  have HB := Lib.hid hb
  have hgl := hb.lt
  have x0 := hs.x0
  have x1 := hs.x1
  have a0 := hs.a0
  have a1 := hs.a1
  unfold Dat.val Dat.cells
  have q0 : w.cell? ⟨g, 0, none⟩ = some (.int .u32 s.a) := hb.cell 0
  have q1 : w.cell? ⟨g, 1, none⟩ = some (.int .u32 s.x) := hb.cell 1
  have z0 : w.frozen? ⟨g, 0, none⟩ = false := hb.free 0
  have hn' : (bits BinOp.and IntKind.i64 52 8 != 0) = false := by decide +kernel
  have HC : Hid (isAlu 52 = true) := rfl
  clear hb hs
  by_cases h0 : k = 0
  · rw [if_pos h0]
    have hz : (k == 0) = true := by rw [h0]; rfl
    clear h0
    go_enter Try.func26, Try.ntmps26
    go_wp2_with fail
    refine (isAlu_any _ _).mono ?_
    rw [HC.out]
    rintro r w1 ⟨rfl, rfl⟩
    go_wp2
    go_ret2
    exact ⟨rfl, HB.out.alloc _, only_alloc _ _ _⟩
  · rw [if_neg h0]
    have hz : (k == 0) = false := by rw [beq_eq_false_iff_ne]; exact h0
    have h1 : 1 ≤ k := by omega
    have HD : Hid (1 ≤ k) := h1
    clear h0
    go_enter Try.func26, Try.ntmps26
    go_wp2_with fail
    refine (isAlu_any _ _).mono ?_
    rw [HC.out]
    rintro r w1 ⟨rfl, rfl⟩
    go_wp2_with fail
    refine (alu_any _ s.a k _ a0 a1 k0 k1 HC.out (fun _ => HD.out)).mono ?_
    rintro r w1 ⟨rfl, rfl⟩
    go_wp2
    go_ret2
    exact ⟨rfl, by rw [← Mac.set_a]; exact (HB.out.set 0 _).alloc _, only_trans (only_set _ _ _ _) (only_alloc _ _ _)⟩

set_option maxRecDepth 100000 in
set_option maxHeartbeats 4000000 in
theorem plain_divx (g : Nat) (s : Mac) (k : Int) (d : Dat) (w : World) (hs : s.Ok) (hb : Box w g 57 s.vals) :
    Calls Try.prog 26 #[.pointer (some ⟨g, 0, none⟩), .int .i64 60, .int .u32 k, d.val] w (Stepped g (if s.x = 0 then (s, false, true) else ({ s with a := aluOf 60 s.a s.x }, true, false)) w) := by
  have HB := Lib.hid hb
  have hgl := hb.lt
  have x0 := hs.x0
  have x1 := hs.x1
  have a0 := hs.a0
  have a1 := hs.a1
  unfold Dat.val Dat.cells
  have q0 : w.cell? ⟨g, 0, none⟩ = some (.int .u32 s.a) := hb.cell 0
  have q1 : w.cell? ⟨g, 1, none⟩ = some (.int .u32 s.x) := hb.cell 1
  have z0 : w.frozen? ⟨g, 0, none⟩ = false := hb.free 0
  have hn' : (bits BinOp.and IntKind.i64 60 8 != 0) = true := by decide +kernel
  have HC : Hid (isAlu 60 = true) := rfl
  clear hb hs
  by_cases h0 : s.x = 0
  · rw [if_pos h0]
    have hz : (s.x == 0) = true := by rw [h0]; rfl
    clear h0
    go_enter Try.func26, Try.ntmps26
    go_wp2_with fail
    refine (isAlu_any _ _).mono ?_
    rw [HC.out]
    rintro r w1 ⟨rfl, rfl⟩
    go_wp2
    go_ret2
    exact ⟨rfl, HB.out.alloc _, only_alloc _ _ _⟩
  · rw [if_neg h0]
    have hz : (s.x == 0) = false := by rw [beq_eq_false_iff_ne]; exact h0
    have h1 : 1 ≤ s.x := by omega
    have HD : Hid (1 ≤ s.x) := h1
    clear h0
    go_enter Try.func26, Try.ntmps26
    go_wp2_with fail
    refine (isAlu_any _ _).mono ?_
    rw [HC.out]
    rintro r w1 ⟨rfl, rfl⟩
    go_wp2_with fail
    refine (alu_any _ s.a s.x _ a0 a1 x0 x1 HC.out (fun _ => HD.out)).mono ?_
    rintro r w1 ⟨rfl, rfl⟩
    go_wp2
    go_ret2
    exact ⟨rfl, by rw [← Mac.set_a]; exact (HB.out.set 0 _).alloc _, only_trans (only_set _ _ _ _) (only_alloc _ _ _)⟩

set_option maxRecDepth 100000 in
set_option maxHeartbeats 4000000 in
theorem plain_ldimm (g : Nat) (s : Mac) (k : Int) (d : Dat) (w : World) (hs : s.Ok) (hb : Box w g 57 s.vals) :
    Calls Try.prog 26 #[.pointer (some ⟨g, 0, none⟩), .int .i64 0, .int .u32 k, d.val] w (Stepped g ({ s with a := k }, true, false) w) := by
  have HB := Lib.hid hb
  have hgl := hb.lt
  have x0 := hs.x0
  have x1 := hs.x1
  have a0 := hs.a0
  have a1 := hs.a1
  unfold Dat.val Dat.cells
  have q0 : w.cell? ⟨g, 0, none⟩ = some (.int .u32 s.a) := hb.cell 0
  have q1 : w.cell? ⟨g, 1, none⟩ = some (.int .u32 s.x) := hb.cell 1
  have z0 : w.frozen? ⟨g, 0, none⟩ = false := hb.free 0
  have z1 : w.frozen? ⟨g, 1, none⟩ = false := hb.free 1
  have HC : Hid (isAlu 0 = false) := rfl
  clear hb hs
  go_enter Try.func26, Try.ntmps26
  go_wp2_with fail
  refine (isAlu_any _ _).mono ?_
  rw [HC.out]
  rintro r w1 ⟨rfl, rfl⟩
  go_wp2
  go_ret2
  exact ⟨rfl, by rw [← Mac.set_a]; exact (HB.out.set 0 _).alloc _, only_trans (only_set _ _ _ _) (only_alloc _ _ _)⟩

set_option maxRecDepth 100000 in
set_option maxHeartbeats 4000000 in
theorem plain_ldximm (g : Nat) (s : Mac) (k : Int) (d : Dat) (w : World) (hs : s.Ok) (hb : Box w g 57 s.vals) :
    Calls Try.prog 26 #[.pointer (some ⟨g, 0, none⟩), .int .i64 1, .int .u32 k, d.val] w (Stepped g ({ s with x := k }, true, false) w) := by
  have HB := Lib.hid hb
  have hgl := hb.lt
  have x0 := hs.x0
  have x1 := hs.x1
  have a0 := hs.a0
  have a1 := hs.a1
  unfold Dat.val Dat.cells
  have q0 : w.cell? ⟨g, 0, none⟩ = some (.int .u32 s.a) := hb.cell 0
  have q1 : w.cell? ⟨g, 1, none⟩ = some (.int .u32 s.x) := hb.cell 1
  have z0 : w.frozen? ⟨g, 0, none⟩ = false := hb.free 0
  have z1 : w.frozen? ⟨g, 1, none⟩ = false := hb.free 1
  have HC : Hid (isAlu 1 = false) := rfl
  clear hb hs
  go_enter Try.func26, Try.ntmps26
  go_wp2_with fail
  refine (isAlu_any _ _).mono ?_
  rw [HC.out]
  rintro r w1 ⟨rfl, rfl⟩
  go_wp2
  go_ret2
  exact ⟨rfl, by rw [← Mac.set_x]; exact (HB.out.set 1 _).alloc _, only_trans (only_set _ _ _ _) (only_alloc _ _ _)⟩

set_option maxRecDepth 100000 in
set_option maxHeartbeats 4000000 in
theorem plain_ldlen (g : Nat) (s : Mac) (k : Int) (d : Dat) (w : World) (hs : s.Ok) (hb : Box w g 57 s.vals) :
    Calls Try.prog 26 #[.pointer (some ⟨g, 0, none⟩), .int .i64 128, .int .u32 k, d.val] w (Stepped g ({ s with a := 64 }, true, false) w) := by
  have HB := Lib.hid hb
  have hgl := hb.lt
  have x0 := hs.x0
  have x1 := hs.x1
  have a0 := hs.a0
  have a1 := hs.a1
  unfold Dat.val Dat.cells
  have q0 : w.cell? ⟨g, 0, none⟩ = some (.int .u32 s.a) := hb.cell 0
  have q1 : w.cell? ⟨g, 1, none⟩ = some (.int .u32 s.x) := hb.cell 1
  have z0 : w.frozen? ⟨g, 0, none⟩ = false := hb.free 0
  have z1 : w.frozen? ⟨g, 1, none⟩ = false := hb.free 1
  have HC : Hid (isAlu 128 = false) := rfl
  clear hb hs
  go_enter Try.func26, Try.ntmps26
  go_wp2_with fail
  refine (isAlu_any _ _).mono ?_
  rw [HC.out]
  rintro r w1 ⟨rfl, rfl⟩
  go_wp2
  go_ret2
  exact ⟨rfl, by rw [← Mac.set_a]; exact (HB.out.set 0 _).alloc _, only_trans (only_set _ _ _ _) (only_alloc _ _ _)⟩

set_option maxRecDepth 100000 in
set_option maxHeartbeats 4000000 in
theorem plain_ldxlen (g : Nat) (s : Mac) (k : Int) (d : Dat) (w : World) (hs : s.Ok) (hb : Box w g 57 s.vals) :
    Calls Try.prog 26 #[.pointer (some ⟨g, 0, none⟩), .int .i64 129, .int .u32 k, d.val] w (Stepped g ({ s with x := 64 }, true, false) w) := by
  have HB := Lib.hid hb
  have hgl := hb.lt
  have x0 := hs.x0
  have x1 := hs.x1
  have a0 := hs.a0
  have a1 := hs.a1
  unfold Dat.val Dat.cells
  have q0 : w.cell? ⟨g, 0, none⟩ = some (.int .u32 s.a) := hb.cell 0
  have q1 : w.cell? ⟨g, 1, none⟩ = some (.int .u32 s.x) := hb.cell 1
  have z0 : w.frozen? ⟨g, 0, none⟩ = false := hb.free 0
  have z1 : w.frozen? ⟨g, 1, none⟩ = false := hb.free 1
  have HC : Hid (isAlu 129 = false) := rfl
  clear hb hs
  go_enter Try.func26, Try.ntmps26
  go_wp2_with fail
  refine (isAlu_any _ _).mono ?_
  rw [HC.out]
  rintro r w1 ⟨rfl, rfl⟩
  go_wp2
  go_ret2
  exact ⟨rfl, by rw [← Mac.set_x]; exact (HB.out.set 1 _).alloc _, only_trans (only_set _ _ _ _) (only_alloc _ _ _)⟩

set_option maxRecDepth 100000 in
set_option maxHeartbeats 4000000 in
theorem plain_neg (g : Nat) (s : Mac) (k : Int) (d : Dat) (w : World) (hs : s.Ok) (hb : Box w g 57 s.vals) :
    Calls Try.prog 26 #[.pointer (some ⟨g, 0, none⟩), .int .i64 132, .int .u32 k, d.val] w (Stepped g ({ s with a := -s.a % 4294967296 }, true, false) w) := by
  have HB := Lib.hid hb
  have hgl := hb.lt
  have x0 := hs.x0
  have x1 := hs.x1
  have a0 := hs.a0
  have a1 := hs.a1
  unfold Dat.val Dat.cells
  have q0 : w.cell? ⟨g, 0, none⟩ = some (.int .u32 s.a) := hb.cell 0
  have q1 : w.cell? ⟨g, 1, none⟩ = some (.int .u32 s.x) := hb.cell 1
  have z0 : w.frozen? ⟨g, 0, none⟩ = false := hb.free 0
  have z1 : w.frozen? ⟨g, 1, none⟩ = false := hb.free 1
  have HC : Hid (isAlu 132 = false) := rfl
  clear hb hs
  go_enter Try.func26, Try.ntmps26
  go_wp2_with fail
  refine (isAlu_any _ _).mono ?_
  rw [HC.out]
  rintro r w1 ⟨rfl, rfl⟩
  go_wp2
  go_ret2
  exact ⟨rfl, by rw [← Mac.set_a]; exact (HB.out.set 0 _).alloc _, only_trans (only_set _ _ _ _) (only_alloc _ _ _)⟩

set_option maxRecDepth 100000 in
set_option maxHeartbeats 4000000 in
theorem plain_tax (g : Nat) (s : Mac) (k : Int) (d : Dat) (w : World) (hs : s.Ok) (hb : Box w g 57 s.vals) :
    Calls Try.prog 26 #[.pointer (some ⟨g, 0, none⟩), .int .i64 7, .int .u32 k, d.val] w (Stepped g ({ s with x := s.a }, true, false) w) := by
  have HB := Lib.hid hb
  have hgl := hb.lt
  have x0 := hs.x0
  have x1 := hs.x1
  have a0 := hs.a0
  have a1 := hs.a1
  unfold Dat.val Dat.cells
  have q0 : w.cell? ⟨g, 0, none⟩ = some (.int .u32 s.a) := hb.cell 0
  have q1 : w.cell? ⟨g, 1, none⟩ = some (.int .u32 s.x) := hb.cell 1
  have z0 : w.frozen? ⟨g, 0, none⟩ = false := hb.free 0
  have z1 : w.frozen? ⟨g, 1, none⟩ = false := hb.free 1
  have HC : Hid (isAlu 7 = false) := rfl
  clear hb hs
  go_enter Try.func26, Try.ntmps26
  go_wp2_with fail
  refine (isAlu_any _ _).mono ?_
  rw [HC.out]
  rintro r w1 ⟨rfl, rfl⟩
  go_wp2
  go_ret2
  exact ⟨rfl, by rw [← Mac.set_x]; exact (HB.out.set 1 _).alloc _, only_trans (only_set _ _ _ _) (only_alloc _ _ _)⟩

set_option maxRecDepth 100000 in
set_option maxHeartbeats 4000000 in
theorem plain_txa (g : Nat) (s : Mac) (k : Int) (d : Dat) (w : World) (hs : s.Ok) (hb : Box w g 57 s.vals) :
    Calls Try.prog 26 #[.pointer (some ⟨g, 0, none⟩), .int .i64 135, .int .u32 k, d.val] w (Stepped g ({ s with a := s.x }, true, false) w) := by
  have HB := Lib.hid hb
  have hgl := hb.lt
  have x0 := hs.x0
  have x1 := hs.x1
  have a0 := hs.a0
  have a1 := hs.a1
  unfold Dat.val Dat.cells
  have q0 : w.cell? ⟨g, 0, none⟩ = some (.int .u32 s.a) := hb.cell 0
  have q1 : w.cell? ⟨g, 1, none⟩ = some (.int .u32 s.x) := hb.cell 1
  have z0 : w.frozen? ⟨g, 0, none⟩ = false := hb.free 0
  have z1 : w.frozen? ⟨g, 1, none⟩ = false := hb.free 1
  have HC : Hid (isAlu 135 = false) := rfl
  clear hb hs
  go_enter Try.func26, Try.ntmps26
  go_wp2_with fail
  refine (isAlu_any _ _).mono ?_
  rw [HC.out]
  rintro r w1 ⟨rfl, rfl⟩
  go_wp2
  go_ret2
  exact ⟨rfl, by rw [← Mac.set_a]; exact (HB.out.set 0 _).alloc _, only_trans (only_set _ _ _ _) (only_alloc _ _ _)⟩

end Go.Proofs.Ytlghhnfpmekdnaa
