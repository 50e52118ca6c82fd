/- What one step of the landed machine gives. -/
import Derived.Test.YtlghhnfpmekdnaaMacBranch
import Derived.Test.YtlghhnfpmekdnaaMacReckon
namespace Go.Proofs.Ytlghhnfpmekdnaa.Landed
open Go.RowKit

/-- What a step of an instruction that neither jumps nor ends leaves. -/
def After (g : Nat) (d : Dat) (q : Mac × Bool × Bool) (p r : Int) (w : World) : Ending → World → Prop :=
  fun e w' => w.grownBy w' (some g) ∧ ((q.2.2 = true ∧ e = .returned (.int .i64 1) ∧ ∃ s : Mac, s.Ok ∧ Box w' g 52 (St.mk d s p 0).vals) ∨
    (q.2.2 = false ∧ q.2.1 = true ∧ e = .returned (.int .i64 0) ∧ Box w' g 52 (St.mk d q.1 p r).vals) ∨ (q.2.2 = false ∧ q.2.1 = false ∧ e = .returned (.int .i64 2)))

set_option maxRecDepth 100000 in
set_option maxHeartbeats 4000000 in
theorem step_0 (g : Nat) (t : St) (jt jf k : Int) (w : World) (hs : t.s.Ok) (hb : Box w g 52 t.vals) (p0 : 0 ≤ t.p) (p1 : t.p ≤ 4398046511104) :
    Calls Try.prog 23 #[.pointer (some ⟨g, 0, none⟩), .agg #[.int .i64 0, .int .i64 jt, .int .i64 jf, .int .u32 k]] w (Stood g (.int .i64 0) ⟨t.d, { t.s with a := k }, t.p + 1, t.r⟩ w) := by
  have HB := Lib.hid hb
  have HS := Lib.hid hs
  have hgl := hb.lt
  have x0 := hs.x0
  have x1 := hs.x1
  have a0 := hs.a0
  have a1 := hs.a1
  have q0 : w.cell? ⟨g, 9, none⟩ = some (.int .u32 t.s.a) := (hb.cell 9).trans t.at_a
  have q1 : w.cell? ⟨g, 10, none⟩ = some (.int .u32 t.s.x) := (hb.cell 10).trans t.at_x
  have q2 : w.cell? ⟨g, 27, none⟩ = some (.int .i64 t.p) := (hb.cell 27).trans (t.at_p hs.len)
  have z0 : w.frozen? ⟨g, 9, none⟩ = false := hb.free 9
  have z1 : w.frozen? ⟨g, 10, none⟩ = false := hb.free 10
  have z2 : w.frozen? ⟨g, 27, none⟩ = false := hb.free 27
  clear hb hs
  go_enter Try.func23, Try.ntmps23
  go_wp2
  go_ret
  exact ⟨rfl, by rw [← St.set_a ⟨t.d, t.s, t.p + 1, t.r⟩, ← St.set_p t _ HS.out.len]; exact (((HB.out.set 27 _).set 9 _).alloc _), only_trans (only_trans (only_set _ _ _ _) (only_set _ _ _ _)) (only_alloc _ _ _)⟩

set_option maxRecDepth 100000 in
set_option maxHeartbeats 4000000 in
theorem step_1 (g : Nat) (t : St) (jt jf k : Int) (w : World) (hs : t.s.Ok) (hb : Box w g 52 t.vals) (p0 : 0 ≤ t.p) (p1 : t.p ≤ 4398046511104) :
    Calls Try.prog 23 #[.pointer (some ⟨g, 0, none⟩), .agg #[.int .i64 1, .int .i64 jt, .int .i64 jf, .int .u32 k]] w (Stood g (.int .i64 0) ⟨t.d, { t.s with x := k }, t.p + 1, t.r⟩ w) := by
  have HB := Lib.hid hb
  have HS := Lib.hid hs
  have hgl := hb.lt
  have x0 := hs.x0
  have x1 := hs.x1
  have a0 := hs.a0
  have a1 := hs.a1
  have q0 : w.cell? ⟨g, 9, none⟩ = some (.int .u32 t.s.a) := (hb.cell 9).trans t.at_a
  have q1 : w.cell? ⟨g, 10, none⟩ = some (.int .u32 t.s.x) := (hb.cell 10).trans t.at_x
  have q2 : w.cell? ⟨g, 27, none⟩ = some (.int .i64 t.p) := (hb.cell 27).trans (t.at_p hs.len)
  have z0 : w.frozen? ⟨g, 9, none⟩ = false := hb.free 9
  have z1 : w.frozen? ⟨g, 10, none⟩ = false := hb.free 10
  have z2 : w.frozen? ⟨g, 27, none⟩ = false := hb.free 27
  clear hb hs
  go_enter Try.func23, Try.ntmps23
  go_wp2
  go_ret
  exact ⟨rfl, by rw [← St.set_x ⟨t.d, t.s, t.p + 1, t.r⟩, ← St.set_p t _ HS.out.len]; exact (((HB.out.set 27 _).set 10 _).alloc _), only_trans (only_trans (only_set _ _ _ _) (only_set _ _ _ _)) (only_alloc _ _ _)⟩

set_option maxRecDepth 100000 in
set_option maxHeartbeats 4000000 in
theorem step_128 (g : Nat) (t : St) (jt jf k : Int) (w : World) (hs : t.s.Ok) (hb : Box w g 52 t.vals) (p0 : 0 ≤ t.p) (p1 : t.p ≤ 4398046511104) :
    Calls Try.prog 23 #[.pointer (some ⟨g, 0, none⟩), .agg #[.int .i64 128, .int .i64 jt, .int .i64 jf, .int .u32 k]] w (Stood g (.int .i64 0) ⟨t.d, { t.s with a := 64 }, t.p + 1, t.r⟩ w) := by
  have HB := Lib.hid hb
  have HS := Lib.hid hs
  have hgl := hb.lt
  have x0 := hs.x0
  have x1 := hs.x1
  have a0 := hs.a0
  have a1 := hs.a1
  have q0 : w.cell? ⟨g, 9, none⟩ = some (.int .u32 t.s.a) := (hb.cell 9).trans t.at_a
  have q1 : w.cell? ⟨g, 10, none⟩ = some (.int .u32 t.s.x) := (hb.cell 10).trans t.at_x
  have q2 : w.cell? ⟨g, 27, none⟩ = some (.int .i64 t.p) := (hb.cell 27).trans (t.at_p hs.len)
  have z0 : w.frozen? ⟨g, 9, none⟩ = false := hb.free 9
  have z1 : w.frozen? ⟨g, 10, none⟩ = false := hb.free 10
  have z2 : w.frozen? ⟨g, 27, none⟩ = false := hb.free 27
  clear hb hs
  go_enter Try.func23, Try.ntmps23
  go_wp2
  go_ret
  exact ⟨rfl, by rw [← St.set_a ⟨t.d, t.s, t.p + 1, t.r⟩, ← St.set_p t _ HS.out.len]; exact (((HB.out.set 27 _).set 9 _).alloc _), only_trans (only_trans (only_set _ _ _ _) (only_set _ _ _ _)) (only_alloc _ _ _)⟩

set_option maxRecDepth 100000 in
set_option maxHeartbeats 4000000 in
theorem step_129 (g : Nat) (t : St) (jt jf k : Int) (w : World) (hs : t.s.Ok) (hb : Box w g 52 t.vals) (p0 : 0 ≤ t.p) (p1 : t.p ≤ 4398046511104) :
    Calls Try.prog 23 #[.pointer (some ⟨g, 0, none⟩), .agg #[.int .i64 129, .int .i64 jt, .int .i64 jf, .int .u32 k]] w (Stood g (.int .i64 0) ⟨t.d, { t.s with x := 64 }, t.p + 1, t.r⟩ w) := by
  have HB := Lib.hid hb
  have HS := Lib.hid hs
  have hgl := hb.lt
  have x0 := hs.x0
  have x1 := hs.x1
  have a0 := hs.a0
  have a1 := hs.a1
  have q0 : w.cell? ⟨g, 9, none⟩ = some (.int .u32 t.s.a) := (hb.cell 9).trans t.at_a
  have q1 : w.cell? ⟨g, 10, none⟩ = some (.int .u32 t.s.x) := (hb.cell 10).trans t.at_x
  have q2 : w.cell? ⟨g, 27, none⟩ = some (.int .i64 t.p) := (hb.cell 27).trans (t.at_p hs.len)
  have z0 : w.frozen? ⟨g, 9, none⟩ = false := hb.free 9
  have z1 : w.frozen? ⟨g, 10, none⟩ = false := hb.free 10
  have z2 : w.frozen? ⟨g, 27, none⟩ = false := hb.free 27
  clear hb hs
  go_enter Try.func23, Try.ntmps23
  go_wp2
  go_ret
  exact ⟨rfl, by rw [← St.set_x ⟨t.d, t.s, t.p + 1, t.r⟩, ← St.set_p t _ HS.out.len]; exact (((HB.out.set 27 _).set 10 _).alloc _), only_trans (only_trans (only_set _ _ _ _) (only_set _ _ _ _)) (only_alloc _ _ _)⟩

set_option maxRecDepth 100000 in
set_option maxHeartbeats 4000000 in
theorem step_7 (g : Nat) (t : St) (jt jf k : Int) (w : World) (hs : t.s.Ok) (hb : Box w g 52 t.vals) (p0 : 0 ≤ t.p) (p1 : t.p ≤ 4398046511104) :
    Calls Try.prog 23 #[.pointer (some ⟨g, 0, none⟩), .agg #[.int .i64 7, .int .i64 jt, .int .i64 jf, .int .u32 k]] w (Stood g (.int .i64 0) ⟨t.d, { t.s with x := t.s.a }, t.p + 1, t.r⟩ w) := by
  have HB := Lib.hid hb
  have HS := Lib.hid hs
  have hgl := hb.lt
  have x0 := hs.x0
  have x1 := hs.x1
  have a0 := hs.a0
  have a1 := hs.a1
  have q0 : w.cell? ⟨g, 9, none⟩ = some (.int .u32 t.s.a) := (hb.cell 9).trans t.at_a
  have q1 : w.cell? ⟨g, 10, none⟩ = some (.int .u32 t.s.x) := (hb.cell 10).trans t.at_x
  have q2 : w.cell? ⟨g, 27, none⟩ = some (.int .i64 t.p) := (hb.cell 27).trans (t.at_p hs.len)
  have z0 : w.frozen? ⟨g, 9, none⟩ = false := hb.free 9
  have z1 : w.frozen? ⟨g, 10, none⟩ = false := hb.free 10
  have z2 : w.frozen? ⟨g, 27, none⟩ = false := hb.free 27
  clear hb hs
  go_enter Try.func23, Try.ntmps23
  go_wp2
  go_ret
  exact ⟨rfl, by rw [← St.set_x ⟨t.d, t.s, t.p + 1, t.r⟩, ← St.set_p t _ HS.out.len]; exact (((HB.out.set 27 _).set 10 _).alloc _), only_trans (only_trans (only_set _ _ _ _) (only_set _ _ _ _)) (only_alloc _ _ _)⟩

set_option maxRecDepth 100000 in
set_option maxHeartbeats 4000000 in
theorem step_135 (g : Nat) (t : St) (jt jf k : Int) (w : World) (hs : t.s.Ok) (hb : Box w g 52 t.vals) (p0 : 0 ≤ t.p) (p1 : t.p ≤ 4398046511104) :
    Calls Try.prog 23 #[.pointer (some ⟨g, 0, none⟩), .agg #[.int .i64 135, .int .i64 jt, .int .i64 jf, .int .u32 k]] w (Stood g (.int .i64 0) ⟨t.d, { t.s with a := t.s.x }, t.p + 1, t.r⟩ w) := by
  have HB := Lib.hid hb
  have HS := Lib.hid hs
  have hgl := hb.lt
  have x0 := hs.x0
  have x1 := hs.x1
  have a0 := hs.a0
  have a1 := hs.a1
  have q0 : w.cell? ⟨g, 9, none⟩ = some (.int .u32 t.s.a) := (hb.cell 9).trans t.at_a
  have q1 : w.cell? ⟨g, 10, none⟩ = some (.int .u32 t.s.x) := (hb.cell 10).trans t.at_x
  have q2 : w.cell? ⟨g, 27, none⟩ = some (.int .i64 t.p) := (hb.cell 27).trans (t.at_p hs.len)
  have z0 : w.frozen? ⟨g, 9, none⟩ = false := hb.free 9
  have z1 : w.frozen? ⟨g, 10, none⟩ = false := hb.free 10
  have z2 : w.frozen? ⟨g, 27, none⟩ = false := hb.free 27
  clear hb hs
  go_enter Try.func23, Try.ntmps23
  go_wp2
  go_ret
  exact ⟨rfl, by rw [← St.set_a ⟨t.d, t.s, t.p + 1, t.r⟩, ← St.set_p t _ HS.out.len]; exact (((HB.out.set 27 _).set 9 _).alloc _), only_trans (only_trans (only_set _ _ _ _) (only_set _ _ _ _)) (only_alloc _ _ _)⟩

set_option maxRecDepth 100000 in
set_option maxHeartbeats 4000000 in
theorem step_ldabs (g : Nat) (t : St) (jt jf k : Int) (w : World) (hs : t.s.Ok) (hb : Box w g 52 t.vals) (p0 : 0 ≤ t.p) (p1 : t.p ≤ 4398046511104) (hd : t.d.Ok) (k0 : 0 ≤ k) (k1 : k ≤ 4294967295) (hk : okOff k = true) :
    Calls Try.prog 23 #[.pointer (some ⟨g, 0, none⟩), .agg #[.int .i64 32, .int .i64 jt, .int .i64 jf, .int .u32 k]] w (Stood g (.int .i64 0) ⟨t.d, { t.s with a := wordOf t.d k }, t.p + 1, t.r⟩ w) := by
  have HB := Lib.hid hb
  have HS := Lib.hid hs
  have hgl := hb.lt
  have x0 := hs.x0
  have x1 := hs.x1
  have a0 := hs.a0
  have a1 := hs.a1
  have q0 : w.cell? ⟨g, 9, none⟩ = some (.int .u32 t.s.a) := (hb.cell 9).trans t.at_a
  have q1 : w.cell? ⟨g, 10, none⟩ = some (.int .u32 t.s.x) := (hb.cell 10).trans t.at_x
  have q2 : w.cell? ⟨g, 27, none⟩ = some (.int .i64 t.p) := (hb.cell 27).trans (t.at_p hs.len)
  have z0 : w.frozen? ⟨g, 9, none⟩ = false := hb.free 9
  have z1 : w.frozen? ⟨g, 10, none⟩ = false := hb.free 10
  have z2 : w.frozen? ⟨g, 27, none⟩ = false := hb.free 27
  have HB1 : Hid (∀ o : Obj, Box ((w.setCell ⟨g, 27, none⟩ (.int .i64 (t.p + 1))).alloc o) g 52 (St.mk t.d t.s (t.p + 1) t.r).vals) := fun o => by
    rw [← St.set_p t _ hs.len]
    exact (hb.set 27 _).alloc o
  have HO1 : Hid (∀ o : Obj, w.grownBy ((w.setCell ⟨g, 27, none⟩ (.int .i64 (t.p + 1))).alloc o) (some g)) := fun o => only_trans (only_set _ _ _ _) (only_alloc _ _ _)
  have HD := Lib.hid hd
  have HK := Lib.hid hk
  have HK0 := Lib.hid k0
  have HK1 := Lib.hid k1
  clear hd hk k0 k1
  clear hb hs
  go_enter Try.func23, Try.ntmps23
  go_wp2_with fail
  refine (load_ok g ⟨t.d, t.s, t.p + 1, t.r⟩ k _ HD.out (HB1.out _) HK0.out HK1.out HK.out).mono ?_
  rintro r w2 ⟨rfl, hb2, ho2⟩
  go_wp2
  go_ret
  exact ⟨rfl, hb2, only_trans (HO1.out _) ho2⟩

set_option maxRecDepth 100000 in
set_option maxHeartbeats 4000000 in
theorem step_ldabs_not (g : Nat) (t : St) (jt jf k : Int) (w : World) (hs : t.s.Ok) (hb : Box w g 52 t.vals) (p0 : 0 ≤ t.p) (p1 : t.p ≤ 4398046511104) (hd : t.d.Ok) (k0 : 0 ≤ k) (k1 : k ≤ 4294967295) (hk : okOff k = false) :
    Calls Try.prog 23 #[.pointer (some ⟨g, 0, none⟩), .agg #[.int .i64 32, .int .i64 jt, .int .i64 jf, .int .u32 k]] w (Stood g (.int .i64 2) ⟨t.d, t.s, t.p + 1, t.r⟩ w) := by
  have HB := Lib.hid hb
  have HS := Lib.hid hs
  have hgl := hb.lt
  have x0 := hs.x0
  have x1 := hs.x1
  have a0 := hs.a0
  have a1 := hs.a1
  have q0 : w.cell? ⟨g, 9, none⟩ = some (.int .u32 t.s.a) := (hb.cell 9).trans t.at_a
  have q1 : w.cell? ⟨g, 10, none⟩ = some (.int .u32 t.s.x) := (hb.cell 10).trans t.at_x
  have q2 : w.cell? ⟨g, 27, none⟩ = some (.int .i64 t.p) := (hb.cell 27).trans (t.at_p hs.len)
  have z0 : w.frozen? ⟨g, 9, none⟩ = false := hb.free 9
  have z1 : w.frozen? ⟨g, 10, none⟩ = false := hb.free 10
  have z2 : w.frozen? ⟨g, 27, none⟩ = false := hb.free 27
  have HB1 : Hid (∀ o : Obj, Box ((w.setCell ⟨g, 27, none⟩ (.int .i64 (t.p + 1))).alloc o) g 52 (St.mk t.d t.s (t.p + 1) t.r).vals) := fun o => by
    rw [← St.set_p t _ hs.len]
    exact (hb.set 27 _).alloc o
  have HO1 : Hid (∀ o : Obj, w.grownBy ((w.setCell ⟨g, 27, none⟩ (.int .i64 (t.p + 1))).alloc o) (some g)) := fun o => only_trans (only_set _ _ _ _) (only_alloc _ _ _)
  have HD := Lib.hid hd
  have HK := Lib.hid hk
  have HK0 := Lib.hid k0
  have HK1 := Lib.hid k1
  clear hd hk k0 k1
  clear hb hs
  go_enter Try.func23, Try.ntmps23
  go_wp2_with fail
  refine (load_not g ⟨t.d, t.s, t.p + 1, t.r⟩ k _ HD.out (HB1.out _) HK0.out HK1.out HK.out).mono ?_
  rintro r w2 ⟨rfl, hb2, ho2⟩
  go_wp2
  go_ret
  exact ⟨rfl, hb2, only_trans (HO1.out _) ho2⟩

set_option maxRecDepth 100000 in
set_option maxHeartbeats 4000000 in
theorem step_cell_2 (g : Nat) (t : St) (jt jf k : Int) (w : World) (hs : t.s.Ok) (hb : Box w g 52 t.vals) (p0 : 0 ≤ t.p) (p1 : t.p ≤ 4398046511104) (v : Value) (t2 : St) (hc : ∀ w1 : World, Box w1 g 52 (St.mk t.d t.s (t.p + 1) t.r).vals → Calls Try.prog 34 #[.pointer (some ⟨g, 0, none⟩), .agg #[.int .i64 2, .int .i64 jt, .int .i64 jf, .int .u32 k]] w1 (Stood g v t2 w1)) :
    Calls Try.prog 23 #[.pointer (some ⟨g, 0, none⟩), .agg #[.int .i64 2, .int .i64 jt, .int .i64 jf, .int .u32 k]] w (Stood g v t2 w) := by
  have HB := Lib.hid hb
  have HS := Lib.hid hs
  have hgl := hb.lt
  have x0 := hs.x0
  have x1 := hs.x1
  have a0 := hs.a0
  have a1 := hs.a1
  have q0 : w.cell? ⟨g, 9, none⟩ = some (.int .u32 t.s.a) := (hb.cell 9).trans t.at_a
  have q1 : w.cell? ⟨g, 10, none⟩ = some (.int .u32 t.s.x) := (hb.cell 10).trans t.at_x
  have q2 : w.cell? ⟨g, 27, none⟩ = some (.int .i64 t.p) := (hb.cell 27).trans (t.at_p hs.len)
  have z0 : w.frozen? ⟨g, 9, none⟩ = false := hb.free 9
  have z1 : w.frozen? ⟨g, 10, none⟩ = false := hb.free 10
  have z2 : w.frozen? ⟨g, 27, none⟩ = false := hb.free 27
  have HB1 : Hid (∀ o : Obj, Box ((w.setCell ⟨g, 27, none⟩ (.int .i64 (t.p + 1))).alloc o) g 52 (St.mk t.d t.s (t.p + 1) t.r).vals) := fun o => by
    rw [← St.set_p t _ hs.len]
    exact (hb.set 27 _).alloc o
  have HO1 : Hid (∀ o : Obj, w.grownBy ((w.setCell ⟨g, 27, none⟩ (.int .i64 (t.p + 1))).alloc o) (some g)) := fun o => only_trans (only_set _ _ _ _) (only_alloc _ _ _)
  have HC := Lib.hid hc
  clear hc
  clear hb hs
  go_enter Try.func23, Try.ntmps23
  go_wp2_with fail
  refine (HC.out _ (HB1.out _)).mono ?_
  rintro r w2 ⟨rfl, hb2, ho2⟩
  go_wp2
  go_ret
  exact ⟨rfl, hb2, only_trans (HO1.out _) ho2⟩

set_option maxRecDepth 100000 in
set_option maxHeartbeats 4000000 in
theorem step_cell_3 (g : Nat) (t : St) (jt jf k : Int) (w : World) (hs : t.s.Ok) (hb : Box w g 52 t.vals) (p0 : 0 ≤ t.p) (p1 : t.p ≤ 4398046511104) (v : Value) (t2 : St) (hc : ∀ w1 : World, Box w1 g 52 (St.mk t.d t.s (t.p + 1) t.r).vals → Calls Try.prog 34 #[.pointer (some ⟨g, 0, none⟩), .agg #[.int .i64 3, .int .i64 jt, .int .i64 jf, .int .u32 k]] w1 (Stood g v t2 w1)) :
    Calls Try.prog 23 #[.pointer (some ⟨g, 0, none⟩), .agg #[.int .i64 3, .int .i64 jt, .int .i64 jf, .int .u32 k]] w (Stood g v t2 w) := by
  have HB := Lib.hid hb
  have HS := Lib.hid hs
  have hgl := hb.lt
  have x0 := hs.x0
  have x1 := hs.x1
  have a0 := hs.a0
  have a1 := hs.a1
  have q0 : w.cell? ⟨g, 9, none⟩ = some (.int .u32 t.s.a) := (hb.cell 9).trans t.at_a
  have q1 : w.cell? ⟨g, 10, none⟩ = some (.int .u32 t.s.x) := (hb.cell 10).trans t.at_x
  have q2 : w.cell? ⟨g, 27, none⟩ = some (.int .i64 t.p) := (hb.cell 27).trans (t.at_p hs.len)
  have z0 : w.frozen? ⟨g, 9, none⟩ = false := hb.free 9
  have z1 : w.frozen? ⟨g, 10, none⟩ = false := hb.free 10
  have z2 : w.frozen? ⟨g, 27, none⟩ = false := hb.free 27
  have HB1 : Hid (∀ o : Obj, Box ((w.setCell ⟨g, 27, none⟩ (.int .i64 (t.p + 1))).alloc o) g 52 (St.mk t.d t.s (t.p + 1) t.r).vals) := fun o => by
    rw [← St.set_p t _ hs.len]
    exact (hb.set 27 _).alloc o
  have HO1 : Hid (∀ o : Obj, w.grownBy ((w.setCell ⟨g, 27, none⟩ (.int .i64 (t.p + 1))).alloc o) (some g)) := fun o => only_trans (only_set _ _ _ _) (only_alloc _ _ _)
  have HC := Lib.hid hc
  clear hc
  clear hb hs
  go_enter Try.func23, Try.ntmps23
  go_wp2_with fail
  refine (HC.out _ (HB1.out _)).mono ?_
  rintro r w2 ⟨rfl, hb2, ho2⟩
  go_wp2
  go_ret
  exact ⟨rfl, hb2, only_trans (HO1.out _) ho2⟩

set_option maxRecDepth 100000 in
set_option maxHeartbeats 4000000 in
theorem step_cell_96 (g : Nat) (t : St) (jt jf k : Int) (w : World) (hs : t.s.Ok) (hb : Box w g 52 t.vals) (p0 : 0 ≤ t.p) (p1 : t.p ≤ 4398046511104) (v : Value) (t2 : St) (hc : ∀ w1 : World, Box w1 g 52 (St.mk t.d t.s (t.p + 1) t.r).vals → Calls Try.prog 34 #[.pointer (some ⟨g, 0, none⟩), .agg #[.int .i64 96, .int .i64 jt, .int .i64 jf, .int .u32 k]] w1 (Stood g v t2 w1)) :
    Calls Try.prog 23 #[.pointer (some ⟨g, 0, none⟩), .agg #[.int .i64 96, .int .i64 jt, .int .i64 jf, .int .u32 k]] w (Stood g v t2 w) := by
  have HB := Lib.hid hb
  have HS := Lib.hid hs
  have hgl := hb.lt
  have x0 := hs.x0
  have x1 := hs.x1
  have a0 := hs.a0
  have a1 := hs.a1
  have q0 : w.cell? ⟨g, 9, none⟩ = some (.int .u32 t.s.a) := (hb.cell 9).trans t.at_a
  have q1 : w.cell? ⟨g, 10, none⟩ = some (.int .u32 t.s.x) := (hb.cell 10).trans t.at_x
  have q2 : w.cell? ⟨g, 27, none⟩ = some (.int .i64 t.p) := (hb.cell 27).trans (t.at_p hs.len)
  have z0 : w.frozen? ⟨g, 9, none⟩ = false := hb.free 9
  have z1 : w.frozen? ⟨g, 10, none⟩ = false := hb.free 10
  have z2 : w.frozen? ⟨g, 27, none⟩ = false := hb.free 27
  have HB1 : Hid (∀ o : Obj, Box ((w.setCell ⟨g, 27, none⟩ (.int .i64 (t.p + 1))).alloc o) g 52 (St.mk t.d t.s (t.p + 1) t.r).vals) := fun o => by
    rw [← St.set_p t _ hs.len]
    exact (hb.set 27 _).alloc o
  have HO1 : Hid (∀ o : Obj, w.grownBy ((w.setCell ⟨g, 27, none⟩ (.int .i64 (t.p + 1))).alloc o) (some g)) := fun o => only_trans (only_set _ _ _ _) (only_alloc _ _ _)
  have HC := Lib.hid hc
  clear hc
  clear hb hs
  go_enter Try.func23, Try.ntmps23
  go_wp2_with fail
  refine (HC.out _ (HB1.out _)).mono ?_
  rintro r w2 ⟨rfl, hb2, ho2⟩
  go_wp2
  go_ret
  exact ⟨rfl, hb2, only_trans (HO1.out _) ho2⟩

set_option maxRecDepth 100000 in
set_option maxHeartbeats 4000000 in
theorem step_cell_97 (g : Nat) (t : St) (jt jf k : Int) (w : World) (hs : t.s.Ok) (hb : Box w g 52 t.vals) (p0 : 0 ≤ t.p) (p1 : t.p ≤ 4398046511104) (v : Value) (t2 : St) (hc : ∀ w1 : World, Box w1 g 52 (St.mk t.d t.s (t.p + 1) t.r).vals → Calls Try.prog 34 #[.pointer (some ⟨g, 0, none⟩), .agg #[.int .i64 97, .int .i64 jt, .int .i64 jf, .int .u32 k]] w1 (Stood g v t2 w1)) :
    Calls Try.prog 23 #[.pointer (some ⟨g, 0, none⟩), .agg #[.int .i64 97, .int .i64 jt, .int .i64 jf, .int .u32 k]] w (Stood g v t2 w) := by
  have HB := Lib.hid hb
  have HS := Lib.hid hs
  have hgl := hb.lt
  have x0 := hs.x0
  have x1 := hs.x1
  have a0 := hs.a0
  have a1 := hs.a1
  have q0 : w.cell? ⟨g, 9, none⟩ = some (.int .u32 t.s.a) := (hb.cell 9).trans t.at_a
  have q1 : w.cell? ⟨g, 10, none⟩ = some (.int .u32 t.s.x) := (hb.cell 10).trans t.at_x
  have q2 : w.cell? ⟨g, 27, none⟩ = some (.int .i64 t.p) := (hb.cell 27).trans (t.at_p hs.len)
  have z0 : w.frozen? ⟨g, 9, none⟩ = false := hb.free 9
  have z1 : w.frozen? ⟨g, 10, none⟩ = false := hb.free 10
  have z2 : w.frozen? ⟨g, 27, none⟩ = false := hb.free 27
  have HB1 : Hid (∀ o : Obj, Box ((w.setCell ⟨g, 27, none⟩ (.int .i64 (t.p + 1))).alloc o) g 52 (St.mk t.d t.s (t.p + 1) t.r).vals) := fun o => by
    rw [← St.set_p t _ hs.len]
    exact (hb.set 27 _).alloc o
  have HO1 : Hid (∀ o : Obj, w.grownBy ((w.setCell ⟨g, 27, none⟩ (.int .i64 (t.p + 1))).alloc o) (some g)) := fun o => only_trans (only_set _ _ _ _) (only_alloc _ _ _)
  have HC := Lib.hid hc
  clear hc
  clear hb hs
  go_enter Try.func23, Try.ntmps23
  go_wp2_with fail
  refine (HC.out _ (HB1.out _)).mono ?_
  rintro r w2 ⟨rfl, hb2, ho2⟩
  go_wp2
  go_ret
  exact ⟨rfl, hb2, only_trans (HO1.out _) ho2⟩

set_option maxRecDepth 100000 in
set_option maxHeartbeats 4000000 in
theorem step_ret (g : Nat) (t : St) (jt jf k : Int) (w : World) (hs : t.s.Ok) (hb : Box w g 52 t.vals) (p0 : 0 ≤ t.p) (p1 : t.p ≤ 4398046511104) :
    Calls Try.prog 23 #[.pointer (some ⟨g, 0, none⟩), .agg #[.int .i64 6, .int .i64 jt, .int .i64 jf, .int .u32 k]] w (Stood g (.int .i64 1) ⟨t.d, t.s, t.p + 1, k⟩ w) := by
  have HB := Lib.hid hb
  have HS := Lib.hid hs
  have hgl := hb.lt
  have x0 := hs.x0
  have x1 := hs.x1
  have a0 := hs.a0
  have a1 := hs.a1
  have q0 : w.cell? ⟨g, 9, none⟩ = some (.int .u32 t.s.a) := (hb.cell 9).trans t.at_a
  have q1 : w.cell? ⟨g, 10, none⟩ = some (.int .u32 t.s.x) := (hb.cell 10).trans t.at_x
  have q2 : w.cell? ⟨g, 27, none⟩ = some (.int .i64 t.p) := (hb.cell 27).trans (t.at_p hs.len)
  have z0 : w.frozen? ⟨g, 9, none⟩ = false := hb.free 9
  have z1 : w.frozen? ⟨g, 10, none⟩ = false := hb.free 10
  have z2 : w.frozen? ⟨g, 27, none⟩ = false := hb.free 27
  have HB1 : Hid (∀ o : Obj, Box ((w.setCell ⟨g, 27, none⟩ (.int .i64 (t.p + 1))).alloc o) g 52 (St.mk t.d t.s (t.p + 1) t.r).vals) := fun o => by
    rw [← St.set_p t _ hs.len]
    exact (hb.set 27 _).alloc o
  have HO1 : Hid (∀ o : Obj, w.grownBy ((w.setCell ⟨g, 27, none⟩ (.int .i64 (t.p + 1))).alloc o) (some g)) := fun o => only_trans (only_set _ _ _ _) (only_alloc _ _ _)
  clear hb hs
  go_enter Try.func23, Try.ntmps23
  go_wp2_with fail
  refine (end_any g ⟨t.d, t.s, t.p + 1, t.r⟩ k _ HS.out (HB1.out _)).mono ?_
  rintro r w2 ⟨rfl, hb2, ho2⟩
  go_wp2
  go_ret
  exact ⟨rfl, hb2, only_trans (HO1.out _) ho2⟩

set_option maxRecDepth 100000 in
set_option maxHeartbeats 4000000 in
theorem step_reta (g : Nat) (t : St) (jt jf k : Int) (w : World) (hs : t.s.Ok) (hb : Box w g 52 t.vals) (p0 : 0 ≤ t.p) (p1 : t.p ≤ 4398046511104) :
    Calls Try.prog 23 #[.pointer (some ⟨g, 0, none⟩), .agg #[.int .i64 22, .int .i64 jt, .int .i64 jf, .int .u32 k]] w (Stood g (.int .i64 1) ⟨t.d, t.s, t.p + 1, t.s.a⟩ w) := by
  have HB := Lib.hid hb
  have HS := Lib.hid hs
  have hgl := hb.lt
  have x0 := hs.x0
  have x1 := hs.x1
  have a0 := hs.a0
  have a1 := hs.a1
  have q0 : w.cell? ⟨g, 9, none⟩ = some (.int .u32 t.s.a) := (hb.cell 9).trans t.at_a
  have q1 : w.cell? ⟨g, 10, none⟩ = some (.int .u32 t.s.x) := (hb.cell 10).trans t.at_x
  have q2 : w.cell? ⟨g, 27, none⟩ = some (.int .i64 t.p) := (hb.cell 27).trans (t.at_p hs.len)
  have z0 : w.frozen? ⟨g, 9, none⟩ = false := hb.free 9
  have z1 : w.frozen? ⟨g, 10, none⟩ = false := hb.free 10
  have z2 : w.frozen? ⟨g, 27, none⟩ = false := hb.free 27
  have HB1 : Hid (∀ o : Obj, Box ((w.setCell ⟨g, 27, none⟩ (.int .i64 (t.p + 1))).alloc o) g 52 (St.mk t.d t.s (t.p + 1) t.r).vals) := fun o => by
    rw [← St.set_p t _ hs.len]
    exact (hb.set 27 _).alloc o
  have HO1 : Hid (∀ o : Obj, w.grownBy ((w.setCell ⟨g, 27, none⟩ (.int .i64 (t.p + 1))).alloc o) (some g)) := fun o => only_trans (only_set _ _ _ _) (only_alloc _ _ _)
  clear hb hs
  go_enter Try.func23, Try.ntmps23
  go_wp2_with fail
  refine (end_any g ⟨t.d, t.s, t.p + 1, t.r⟩ t.s.a _ HS.out (HB1.out _)).mono ?_
  rintro r w2 ⟨rfl, hb2, ho2⟩
  go_wp2
  go_ret
  exact ⟨rfl, hb2, only_trans (HO1.out _) ho2⟩

set_option maxRecDepth 100000 in
set_option maxHeartbeats 4000000 in
theorem step_ja (g : Nat) (t : St) (jt jf k : Int) (w : World) (hs : t.s.Ok) (hb : Box w g 52 t.vals) (p0 : 0 ≤ t.p) (p1 : t.p ≤ 4398046511104) (k0 : 0 ≤ k) (k1 : k ≤ 4294967295) :
    Calls Try.prog 23 #[.pointer (some ⟨g, 0, none⟩), .agg #[.int .i64 5, .int .i64 jt, .int .i64 jf, .int .u32 k]] w (Stood g (.int .i64 0) ⟨t.d, t.s, wrap64 (t.p + 1 + k), t.r⟩ w) := by
  have HB := Lib.hid hb
  have HS := Lib.hid hs
  have hgl := hb.lt
  have x0 := hs.x0
  have x1 := hs.x1
  have a0 := hs.a0
  have a1 := hs.a1
  have q0 : w.cell? ⟨g, 9, none⟩ = some (.int .u32 t.s.a) := (hb.cell 9).trans t.at_a
  have q1 : w.cell? ⟨g, 10, none⟩ = some (.int .u32 t.s.x) := (hb.cell 10).trans t.at_x
  have q2 : w.cell? ⟨g, 27, none⟩ = some (.int .i64 t.p) := (hb.cell 27).trans (t.at_p hs.len)
  have z0 : w.frozen? ⟨g, 9, none⟩ = false := hb.free 9
  have z1 : w.frozen? ⟨g, 10, none⟩ = false := hb.free 10
  have z2 : w.frozen? ⟨g, 27, none⟩ = false := hb.free 27
  have HB1 : Hid (∀ o : Obj, Box ((w.setCell ⟨g, 27, none⟩ (.int .i64 (t.p + 1))).alloc o) g 52 (St.mk t.d t.s (t.p + 1) t.r).vals) := fun o => by
    rw [← St.set_p t _ hs.len]
    exact (hb.set 27 _).alloc o
  have HO1 : Hid (∀ o : Obj, w.grownBy ((w.setCell ⟨g, 27, none⟩ (.int .i64 (t.p + 1))).alloc o) (some g)) := fun o => only_trans (only_set _ _ _ _) (only_alloc _ _ _)
  clear hb hs
  go_enter Try.func23, Try.ntmps23
  go_wp2_with fail
  refine (jump_any g ⟨t.d, t.s, t.p + 1, t.r⟩ k _ HS.out (HB1.out _)).mono ?_
  rintro r w2 ⟨rfl, hb2, ho2⟩
  go_wp2
  go_ret
  exact ⟨rfl, hb2, only_trans (HO1.out _) ho2⟩

set_option maxRecDepth 100000 in
set_option maxHeartbeats 4000000 in
theorem step_jump_21 (g : Nat) (t : St) (jt jf k : Int) (w : World) (hs : t.s.Ok) (hb : Box w g 52 t.vals) (p0 : 0 ≤ t.p) (p1 : t.p ≤ 4398046511104) (J : Int) (hJ : (if jumpOf 21 t.s.a (other t.s 21 k) then jt else jf) = J) :
    Calls Try.prog 23 #[.pointer (some ⟨g, 0, none⟩), .agg #[.int .i64 21, .int .i64 jt, .int .i64 jf, .int .u32 k]] w (Stood g (.int .i64 0) ⟨t.d, t.s, wrap64 (t.p + 1 + J), t.r⟩ w) := by
  have HB := Lib.hid hb
  have HS := Lib.hid hs
  have hgl := hb.lt
  have x0 := hs.x0
  have x1 := hs.x1
  have a0 := hs.a0
  have a1 := hs.a1
  have q0 : w.cell? ⟨g, 9, none⟩ = some (.int .u32 t.s.a) := (hb.cell 9).trans t.at_a
  have q1 : w.cell? ⟨g, 10, none⟩ = some (.int .u32 t.s.x) := (hb.cell 10).trans t.at_x
  have q2 : w.cell? ⟨g, 27, none⟩ = some (.int .i64 t.p) := (hb.cell 27).trans (t.at_p hs.len)
  have z0 : w.frozen? ⟨g, 9, none⟩ = false := hb.free 9
  have z1 : w.frozen? ⟨g, 10, none⟩ = false := hb.free 10
  have z2 : w.frozen? ⟨g, 27, none⟩ = false := hb.free 27
  have HB1 : Hid (∀ o : Obj, Box ((w.setCell ⟨g, 27, none⟩ (.int .i64 (t.p + 1))).alloc o) g 52 (St.mk t.d t.s (t.p + 1) t.r).vals) := fun o => by
    rw [← St.set_p t _ hs.len]
    exact (hb.set 27 _).alloc o
  have HO1 : Hid (∀ o : Obj, w.grownBy ((w.setCell ⟨g, 27, none⟩ (.int .i64 (t.p + 1))).alloc o) (some g)) := fun o => only_trans (only_set _ _ _ _) (only_alloc _ _ _)
  have HC : Hid (∀ w1 : World, Box w1 g 52 (St.mk t.d t.s (t.p + 1) t.r).vals → Calls Try.prog 36 #[.pointer (some ⟨g, 0, none⟩), .agg #[.int .i64 21, .int .i64 jt, .int .i64 jf, .int .u32 k]] w1 (StoodU g ⟨t.d, t.s, wrap64 (t.p + 1 + J), t.r⟩ w1)) := fun w1 hw1 => by
    have h := branch_any g (St.mk t.d t.s (t.p + 1) t.r) 21 jt jf k w1 hs hw1 rfl
    rw [hJ] at h
    exact h
  clear hJ
  clear hb hs
  go_enter Try.func23, Try.ntmps23
  go_wp2_with fail
  refine (HC.out _ (HB1.out _)).mono ?_
  rintro r w2 ⟨rfl, hb2, ho2⟩
  go_wp2
  go_ret
  exact ⟨rfl, hb2, only_trans (HO1.out _) ho2⟩

set_option maxRecDepth 100000 in
set_option maxHeartbeats 4000000 in
theorem step_jump_29 (g : Nat) (t : St) (jt jf k : Int) (w : World) (hs : t.s.Ok) (hb : Box w g 52 t.vals) (p0 : 0 ≤ t.p) (p1 : t.p ≤ 4398046511104) (J : Int) (hJ : (if jumpOf 29 t.s.a (other t.s 29 k) then jt else jf) = J) :
    Calls Try.prog 23 #[.pointer (some ⟨g, 0, none⟩), .agg #[.int .i64 29, .int .i64 jt, .int .i64 jf, .int .u32 k]] w (Stood g (.int .i64 0) ⟨t.d, t.s, wrap64 (t.p + 1 + J), t.r⟩ w) := by
  have HB := Lib.hid hb
  have HS := Lib.hid hs
  have hgl := hb.lt
  have x0 := hs.x0
  have x1 := hs.x1
  have a0 := hs.a0
  have a1 := hs.a1
  have q0 : w.cell? ⟨g, 9, none⟩ = some (.int .u32 t.s.a) := (hb.cell 9).trans t.at_a
  have q1 : w.cell? ⟨g, 10, none⟩ = some (.int .u32 t.s.x) := (hb.cell 10).trans t.at_x
  have q2 : w.cell? ⟨g, 27, none⟩ = some (.int .i64 t.p) := (hb.cell 27).trans (t.at_p hs.len)
  have z0 : w.frozen? ⟨g, 9, none⟩ = false := hb.free 9
  have z1 : w.frozen? ⟨g, 10, none⟩ = false := hb.free 10
  have z2 : w.frozen? ⟨g, 27, none⟩ = false := hb.free 27
  have HB1 : Hid (∀ o : Obj, Box ((w.setCell ⟨g, 27, none⟩ (.int .i64 (t.p + 1))).alloc o) g 52 (St.mk t.d t.s (t.p + 1) t.r).vals) := fun o => by
    rw [← St.set_p t _ hs.len]
    exact (hb.set 27 _).alloc o
  have HO1 : Hid (∀ o : Obj, w.grownBy ((w.setCell ⟨g, 27, none⟩ (.int .i64 (t.p + 1))).alloc o) (some g)) := fun o => only_trans (only_set _ _ _ _) (only_alloc _ _ _)
  have HC : Hid (∀ w1 : World, Box w1 g 52 (St.mk t.d t.s (t.p + 1) t.r).vals → Calls Try.prog 36 #[.pointer (some ⟨g, 0, none⟩), .agg #[.int .i64 29, .int .i64 jt, .int .i64 jf, .int .u32 k]] w1 (StoodU g ⟨t.d, t.s, wrap64 (t.p + 1 + J), t.r⟩ w1)) := fun w1 hw1 => by
    have h := branch_any g (St.mk t.d t.s (t.p + 1) t.r) 29 jt jf k w1 hs hw1 rfl
    rw [hJ] at h
    exact h
  clear hJ
  clear hb hs
  go_enter Try.func23, Try.ntmps23
  go_wp2_with fail
  refine (HC.out _ (HB1.out _)).mono ?_
  rintro r w2 ⟨rfl, hb2, ho2⟩
  go_wp2
  go_ret
  exact ⟨rfl, hb2, only_trans (HO1.out _) ho2⟩

set_option maxRecDepth 100000 in
set_option maxHeartbeats 4000000 in
theorem step_jump_37 (g : Nat) (t : St) (jt jf k : Int) (w : World) (hs : t.s.Ok) (hb : Box w g 52 t.vals) (p0 : 0 ≤ t.p) (p1 : t.p ≤ 4398046511104) (J : Int) (hJ : (if jumpOf 37 t.s.a (other t.s 37 k) then jt else jf) = J) :
    Calls Try.prog 23 #[.pointer (some ⟨g, 0, none⟩), .agg #[.int .i64 37, .int .i64 jt, .int .i64 jf, .int .u32 k]] w (Stood g (.int .i64 0) ⟨t.d, t.s, wrap64 (t.p + 1 + J), t.r⟩ w) := by
  have HB := Lib.hid hb
  have HS := Lib.hid hs
  have hgl := hb.lt
  have x0 := hs.x0
  have x1 := hs.x1
  have a0 := hs.a0
  have a1 := hs.a1
  have q0 : w.cell? ⟨g, 9, none⟩ = some (.int .u32 t.s.a) := (hb.cell 9).trans t.at_a
  have q1 : w.cell? ⟨g, 10, none⟩ = some (.int .u32 t.s.x) := (hb.cell 10).trans t.at_x
  have q2 : w.cell? ⟨g, 27, none⟩ = some (.int .i64 t.p) := (hb.cell 27).trans (t.at_p hs.len)
  have z0 : w.frozen? ⟨g, 9, none⟩ = false := hb.free 9
  have z1 : w.frozen? ⟨g, 10, none⟩ = false := hb.free 10
  have z2 : w.frozen? ⟨g, 27, none⟩ = false := hb.free 27
  have HB1 : Hid (∀ o : Obj, Box ((w.setCell ⟨g, 27, none⟩ (.int .i64 (t.p + 1))).alloc o) g 52 (St.mk t.d t.s (t.p + 1) t.r).vals) := fun o => by
    rw [← St.set_p t _ hs.len]
    exact (hb.set 27 _).alloc o
  have HO1 : Hid (∀ o : Obj, w.grownBy ((w.setCell ⟨g, 27, none⟩ (.int .i64 (t.p + 1))).alloc o) (some g)) := fun o => only_trans (only_set _ _ _ _) (only_alloc _ _ _)
  have HC : Hid (∀ w1 : World, Box w1 g 52 (St.mk t.d t.s (t.p + 1) t.r).vals → Calls Try.prog 36 #[.pointer (some ⟨g, 0, none⟩), .agg #[.int .i64 37, .int .i64 jt, .int .i64 jf, .int .u32 k]] w1 (StoodU g ⟨t.d, t.s, wrap64 (t.p + 1 + J), t.r⟩ w1)) := fun w1 hw1 => by
    have h := branch_any g (St.mk t.d t.s (t.p + 1) t.r) 37 jt jf k w1 hs hw1 rfl
    rw [hJ] at h
    exact h
  clear hJ
  clear hb hs
  go_enter Try.func23, Try.ntmps23
  go_wp2_with fail
  refine (HC.out _ (HB1.out _)).mono ?_
  rintro r w2 ⟨rfl, hb2, ho2⟩
  go_wp2
  go_ret
  exact ⟨rfl, hb2, only_trans (HO1.out _) ho2⟩

set_option maxRecDepth 100000 in
set_option maxHeartbeats 4000000 in
theorem step_jump_45 (g : Nat) (t : St) (jt jf k : Int) (w : World) (hs : t.s.Ok) (hb : Box w g 52 t.vals) (p0 : 0 ≤ t.p) (p1 : t.p ≤ 4398046511104) (J : Int) (hJ : (if jumpOf 45 t.s.a (other t.s 45 k) then jt else jf) = J) :
    Calls Try.prog 23 #[.pointer (some ⟨g, 0, none⟩), .agg #[.int .i64 45, .int .i64 jt, .int .i64 jf, .int .u32 k]] w (Stood g (.int .i64 0) ⟨t.d, t.s, wrap64 (t.p + 1 + J), t.r⟩ w) := by
  have HB := Lib.hid hb
  have HS := Lib.hid hs
  have hgl := hb.lt
  have x0 := hs.x0
  have x1 := hs.x1
  have a0 := hs.a0
  have a1 := hs.a1
  have q0 : w.cell? ⟨g, 9, none⟩ = some (.int .u32 t.s.a) := (hb.cell 9).trans t.at_a
  have q1 : w.cell? ⟨g, 10, none⟩ = some (.int .u32 t.s.x) := (hb.cell 10).trans t.at_x
  have q2 : w.cell? ⟨g, 27, none⟩ = some (.int .i64 t.p) := (hb.cell 27).trans (t.at_p hs.len)
  have z0 : w.frozen? ⟨g, 9, none⟩ = false := hb.free 9
  have z1 : w.frozen? ⟨g, 10, none⟩ = false := hb.free 10
  have z2 : w.frozen? ⟨g, 27, none⟩ = false := hb.free 27
  have HB1 : Hid (∀ o : Obj, Box ((w.setCell ⟨g, 27, none⟩ (.int .i64 (t.p + 1))).alloc o) g 52 (St.mk t.d t.s (t.p + 1) t.r).vals) := fun o => by
    rw [← St.set_p t _ hs.len]
    exact (hb.set 27 _).alloc o
  have HO1 : Hid (∀ o : Obj, w.grownBy ((w.setCell ⟨g, 27, none⟩ (.int .i64 (t.p + 1))).alloc o) (some g)) := fun o => only_trans (only_set _ _ _ _) (only_alloc _ _ _)
  have HC : Hid (∀ w1 : World, Box w1 g 52 (St.mk t.d t.s (t.p + 1) t.r).vals → Calls Try.prog 36 #[.pointer (some ⟨g, 0, none⟩), .agg #[.int .i64 45, .int .i64 jt, .int .i64 jf, .int .u32 k]] w1 (StoodU g ⟨t.d, t.s, wrap64 (t.p + 1 + J), t.r⟩ w1)) := fun w1 hw1 => by
    have h := branch_any g (St.mk t.d t.s (t.p + 1) t.r) 45 jt jf k w1 hs hw1 rfl
    rw [hJ] at h
    exact h
  clear hJ
  clear hb hs
  go_enter Try.func23, Try.ntmps23
  go_wp2_with fail
  refine (HC.out _ (HB1.out _)).mono ?_
  rintro r w2 ⟨rfl, hb2, ho2⟩
  go_wp2
  go_ret
  exact ⟨rfl, hb2, only_trans (HO1.out _) ho2⟩

set_option maxRecDepth 100000 in
set_option maxHeartbeats 4000000 in
theorem step_jump_53 (g : Nat) (t : St) (jt jf k : Int) (w : World) (hs : t.s.Ok) (hb : Box w g 52 t.vals) (p0 : 0 ≤ t.p) (p1 : t.p ≤ 4398046511104) (J : Int) (hJ : (if jumpOf 53 t.s.a (other t.s 53 k) then jt else jf) = J) :
    Calls Try.prog 23 #[.pointer (some ⟨g, 0, none⟩), .agg #[.int .i64 53, .int .i64 jt, .int .i64 jf, .int .u32 k]] w (Stood g (.int .i64 0) ⟨t.d, t.s, wrap64 (t.p + 1 + J), t.r⟩ w) := by
  have HB := Lib.hid hb
  have HS := Lib.hid hs
  have hgl := hb.lt
  have x0 := hs.x0
  have x1 := hs.x1
  have a0 := hs.a0
  have a1 := hs.a1
  have q0 : w.cell? ⟨g, 9, none⟩ = some (.int .u32 t.s.a) := (hb.cell 9).trans t.at_a
  have q1 : w.cell? ⟨g, 10, none⟩ = some (.int .u32 t.s.x) := (hb.cell 10).trans t.at_x
  have q2 : w.cell? ⟨g, 27, none⟩ = some (.int .i64 t.p) := (hb.cell 27).trans (t.at_p hs.len)
  have z0 : w.frozen? ⟨g, 9, none⟩ = false := hb.free 9
  have z1 : w.frozen? ⟨g, 10, none⟩ = false := hb.free 10
  have z2 : w.frozen? ⟨g, 27, none⟩ = false := hb.free 27
  have HB1 : Hid (∀ o : Obj, Box ((w.setCell ⟨g, 27, none⟩ (.int .i64 (t.p + 1))).alloc o) g 52 (St.mk t.d t.s (t.p + 1) t.r).vals) := fun o => by
    rw [← St.set_p t _ hs.len]
    exact (hb.set 27 _).alloc o
  have HO1 : Hid (∀ o : Obj, w.grownBy ((w.setCell ⟨g, 27, none⟩ (.int .i64 (t.p + 1))).alloc o) (some g)) := fun o => only_trans (only_set _ _ _ _) (only_alloc _ _ _)
  have HC : Hid (∀ w1 : World, Box w1 g 52 (St.mk t.d t.s (t.p + 1) t.r).vals → Calls Try.prog 36 #[.pointer (some ⟨g, 0, none⟩), .agg #[.int .i64 53, .int .i64 jt, .int .i64 jf, .int .u32 k]] w1 (StoodU g ⟨t.d, t.s, wrap64 (t.p + 1 + J), t.r⟩ w1)) := fun w1 hw1 => by
    have h := branch_any g (St.mk t.d t.s (t.p + 1) t.r) 53 jt jf k w1 hs hw1 rfl
    rw [hJ] at h
    exact h
  clear hJ
  clear hb hs
  go_enter Try.func23, Try.ntmps23
  go_wp2_with fail
  refine (HC.out _ (HB1.out _)).mono ?_
  rintro r w2 ⟨rfl, hb2, ho2⟩
  go_wp2
  go_ret
  exact ⟨rfl, hb2, only_trans (HO1.out _) ho2⟩

set_option maxRecDepth 100000 in
set_option maxHeartbeats 4000000 in
theorem step_jump_61 (g : Nat) (t : St) (jt jf k : Int) (w : World) (hs : t.s.Ok) (hb : Box w g 52 t.vals) (p0 : 0 ≤ t.p) (p1 : t.p ≤ 4398046511104) (J : Int) (hJ : (if jumpOf 61 t.s.a (other t.s 61 k) then jt else jf) = J) :
    Calls Try.prog 23 #[.pointer (some ⟨g, 0, none⟩), .agg #[.int .i64 61, .int .i64 jt, .int .i64 jf, .int .u32 k]] w (Stood g (.int .i64 0) ⟨t.d, t.s, wrap64 (t.p + 1 + J), t.r⟩ w) := by
  have HB := Lib.hid hb
  have HS := Lib.hid hs
  have hgl := hb.lt
  have x0 := hs.x0
  have x1 := hs.x1
  have a0 := hs.a0
  have a1 := hs.a1
  have q0 : w.cell? ⟨g, 9, none⟩ = some (.int .u32 t.s.a) := (hb.cell 9).trans t.at_a
  have q1 : w.cell? ⟨g, 10, none⟩ = some (.int .u32 t.s.x) := (hb.cell 10).trans t.at_x
  have q2 : w.cell? ⟨g, 27, none⟩ = some (.int .i64 t.p) := (hb.cell 27).trans (t.at_p hs.len)
  have z0 : w.frozen? ⟨g, 9, none⟩ = false := hb.free 9
  have z1 : w.frozen? ⟨g, 10, none⟩ = false := hb.free 10
  have z2 : w.frozen? ⟨g, 27, none⟩ = false := hb.free 27
  have HB1 : Hid (∀ o : Obj, Box ((w.setCell ⟨g, 27, none⟩ (.int .i64 (t.p + 1))).alloc o) g 52 (St.mk t.d t.s (t.p + 1) t.r).vals) := fun o => by
    rw [← St.set_p t _ hs.len]
    exact (hb.set 27 _).alloc o
  have HO1 : Hid (∀ o : Obj, w.grownBy ((w.setCell ⟨g, 27, none⟩ (.int .i64 (t.p + 1))).alloc o) (some g)) := fun o => only_trans (only_set _ _ _ _) (only_alloc _ _ _)
  have HC : Hid (∀ w1 : World, Box w1 g 52 (St.mk t.d t.s (t.p + 1) t.r).vals → Calls Try.prog 36 #[.pointer (some ⟨g, 0, none⟩), .agg #[.int .i64 61, .int .i64 jt, .int .i64 jf, .int .u32 k]] w1 (StoodU g ⟨t.d, t.s, wrap64 (t.p + 1 + J), t.r⟩ w1)) := fun w1 hw1 => by
    have h := branch_any g (St.mk t.d t.s (t.p + 1) t.r) 61 jt jf k w1 hs hw1 rfl
    rw [hJ] at h
    exact h
  clear hJ
  clear hb hs
  go_enter Try.func23, Try.ntmps23
  go_wp2_with fail
  refine (HC.out _ (HB1.out _)).mono ?_
  rintro r w2 ⟨rfl, hb2, ho2⟩
  go_wp2
  go_ret
  exact ⟨rfl, hb2, only_trans (HO1.out _) ho2⟩

set_option maxRecDepth 100000 in
set_option maxHeartbeats 4000000 in
theorem step_jump_69 (g : Nat) (t : St) (jt jf k : Int) (w : World) (hs : t.s.Ok) (hb : Box w g 52 t.vals) (p0 : 0 ≤ t.p) (p1 : t.p ≤ 4398046511104) (J : Int) (hJ : (if jumpOf 69 t.s.a (other t.s 69 k) then jt else jf) = J) :
    Calls Try.prog 23 #[.pointer (some ⟨g, 0, none⟩), .agg #[.int .i64 69, .int .i64 jt, .int .i64 jf, .int .u32 k]] w (Stood g (.int .i64 0) ⟨t.d, t.s, wrap64 (t.p + 1 + J), t.r⟩ w) := by
  have HB := Lib.hid hb
  have HS := Lib.hid hs
  have hgl := hb.lt
  have x0 := hs.x0
  have x1 := hs.x1
  have a0 := hs.a0
  have a1 := hs.a1
  have q0 : w.cell? ⟨g, 9, none⟩ = some (.int .u32 t.s.a) := (hb.cell 9).trans t.at_a
  have q1 : w.cell? ⟨g, 10, none⟩ = some (.int .u32 t.s.x) := (hb.cell 10).trans t.at_x
  have q2 : w.cell? ⟨g, 27, none⟩ = some (.int .i64 t.p) := (hb.cell 27).trans (t.at_p hs.len)
  have z0 : w.frozen? ⟨g, 9, none⟩ = false := hb.free 9
  have z1 : w.frozen? ⟨g, 10, none⟩ = false := hb.free 10
  have z2 : w.frozen? ⟨g, 27, none⟩ = false := hb.free 27
  have HB1 : Hid (∀ o : Obj, Box ((w.setCell ⟨g, 27, none⟩ (.int .i64 (t.p + 1))).alloc o) g 52 (St.mk t.d t.s (t.p + 1) t.r).vals) := fun o => by
    rw [← St.set_p t _ hs.len]
    exact (hb.set 27 _).alloc o
  have HO1 : Hid (∀ o : Obj, w.grownBy ((w.setCell ⟨g, 27, none⟩ (.int .i64 (t.p + 1))).alloc o) (some g)) := fun o => only_trans (only_set _ _ _ _) (only_alloc _ _ _)
  have HC : Hid (∀ w1 : World, Box w1 g 52 (St.mk t.d t.s (t.p + 1) t.r).vals → Calls Try.prog 36 #[.pointer (some ⟨g, 0, none⟩), .agg #[.int .i64 69, .int .i64 jt, .int .i64 jf, .int .u32 k]] w1 (StoodU g ⟨t.d, t.s, wrap64 (t.p + 1 + J), t.r⟩ w1)) := fun w1 hw1 => by
    have h := branch_any g (St.mk t.d t.s (t.p + 1) t.r) 69 jt jf k w1 hs hw1 rfl
    rw [hJ] at h
    exact h
  clear hJ
  clear hb hs
  go_enter Try.func23, Try.ntmps23
  go_wp2_with fail
  refine (HC.out _ (HB1.out _)).mono ?_
  rintro r w2 ⟨rfl, hb2, ho2⟩
  go_wp2
  go_ret
  exact ⟨rfl, hb2, only_trans (HO1.out _) ho2⟩

set_option maxRecDepth 100000 in
set_option maxHeartbeats 4000000 in
theorem step_jump_77 (g : Nat) (t : St) (jt jf k : Int) (w : World) (hs : t.s.Ok) (hb : Box w g 52 t.vals) (p0 : 0 ≤ t.p) (p1 : t.p ≤ 4398046511104) (J : Int) (hJ : (if jumpOf 77 t.s.a (other t.s 77 k) then jt else jf) = J) :
    Calls Try.prog 23 #[.pointer (some ⟨g, 0, none⟩), .agg #[.int .i64 77, .int .i64 jt, .int .i64 jf, .int .u32 k]] w (Stood g (.int .i64 0) ⟨t.d, t.s, wrap64 (t.p + 1 + J), t.r⟩ w) := by
  have HB := Lib.hid hb
  have HS := Lib.hid hs
  have hgl := hb.lt
  have x0 := hs.x0
  have x1 := hs.x1
  have a0 := hs.a0
  have a1 := hs.a1
  have q0 : w.cell? ⟨g, 9, none⟩ = some (.int .u32 t.s.a) := (hb.cell 9).trans t.at_a
  have q1 : w.cell? ⟨g, 10, none⟩ = some (.int .u32 t.s.x) := (hb.cell 10).trans t.at_x
  have q2 : w.cell? ⟨g, 27, none⟩ = some (.int .i64 t.p) := (hb.cell 27).trans (t.at_p hs.len)
  have z0 : w.frozen? ⟨g, 9, none⟩ = false := hb.free 9
  have z1 : w.frozen? ⟨g, 10, none⟩ = false := hb.free 10
  have z2 : w.frozen? ⟨g, 27, none⟩ = false := hb.free 27
  have HB1 : Hid (∀ o : Obj, Box ((w.setCell ⟨g, 27, none⟩ (.int .i64 (t.p + 1))).alloc o) g 52 (St.mk t.d t.s (t.p + 1) t.r).vals) := fun o => by
    rw [← St.set_p t _ hs.len]
    exact (hb.set 27 _).alloc o
  have HO1 : Hid (∀ o : Obj, w.grownBy ((w.setCell ⟨g, 27, none⟩ (.int .i64 (t.p + 1))).alloc o) (some g)) := fun o => only_trans (only_set _ _ _ _) (only_alloc _ _ _)
  have HC : Hid (∀ w1 : World, Box w1 g 52 (St.mk t.d t.s (t.p + 1) t.r).vals → Calls Try.prog 36 #[.pointer (some ⟨g, 0, none⟩), .agg #[.int .i64 77, .int .i64 jt, .int .i64 jf, .int .u32 k]] w1 (StoodU g ⟨t.d, t.s, wrap64 (t.p + 1 + J), t.r⟩ w1)) := fun w1 hw1 => by
    have h := branch_any g (St.mk t.d t.s (t.p + 1) t.r) 77 jt jf k w1 hs hw1 rfl
    rw [hJ] at h
    exact h
  clear hJ
  clear hb hs
  go_enter Try.func23, Try.ntmps23
  go_wp2_with fail
  refine (HC.out _ (HB1.out _)).mono ?_
  rintro r w2 ⟨rfl, hb2, ho2⟩
  go_wp2
  go_ret
  exact ⟨rfl, hb2, only_trans (HO1.out _) ho2⟩

def stepCodes : List Int := [0, 1, 128, 129, 7, 135, 32, 2, 3, 96, 97, 5, 21, 29, 37, 45, 53, 61, 69, 77, 6, 22]

set_option maxRecDepth 100000 in
set_option maxHeartbeats 4000000 in
theorem step_other (g : Nat) (t : St) (c jt jf k : Int) (w : World) (hs : t.s.Ok) (hb : Box w g 52 t.vals) (p0 : 0 ≤ t.p) (p1 : t.p ≤ 4398046511104) (hn : stepCodes.contains c = false) (Q : Ending → World → Prop) (hc : ∀ w1 : World, Box w1 g 52 (St.mk t.d t.s (t.p + 1) t.r).vals → Calls Try.prog 38 #[.pointer (some ⟨g, 0, none⟩), .agg #[.int .i64 c, .int .i64 jt, .int .i64 jf, .int .u32 k]] w1 fun e w2 => (∃ o : Int, e = .returned (.int .i64 o)) ∧ (w.grownBy w1 (some g) → Q e w2)) :
    Calls Try.prog 23 #[.pointer (some ⟨g, 0, none⟩), .agg #[.int .i64 c, .int .i64 jt, .int .i64 jf, .int .u32 k]] w (Q) := by
  have HB := Lib.hid hb
  have HS := Lib.hid hs
  have hgl := hb.lt
  have x0 := hs.x0
  have x1 := hs.x1
  have a0 := hs.a0
  have a1 := hs.a1
  have q0 : w.cell? ⟨g, 9, none⟩ = some (.int .u32 t.s.a) := (hb.cell 9).trans t.at_a
  have q1 : w.cell? ⟨g, 10, none⟩ = some (.int .u32 t.s.x) := (hb.cell 10).trans t.at_x
  have q2 : w.cell? ⟨g, 27, none⟩ = some (.int .i64 t.p) := (hb.cell 27).trans (t.at_p hs.len)
  have z0 : w.frozen? ⟨g, 9, none⟩ = false := hb.free 9
  have z1 : w.frozen? ⟨g, 10, none⟩ = false := hb.free 10
  have z2 : w.frozen? ⟨g, 27, none⟩ = false := hb.free 27
  have HC := Lib.hid hc
  simp only [stepCodes, List.contains_cons, List.contains_nil, Bool.or_eq_false_iff] at hn
  obtain ⟨c0, c1, c2, c3, c4, c5, c6, c7, c8, c9, c10, c11, c12, c13, c14, c15, c16, c17, c18, c19, c20, c21, _⟩ := hn
  clear hc
  have HB1 : Hid (∀ o : Obj, Box ((w.setCell ⟨g, 27, none⟩ (.int .i64 (t.p + 1))).alloc o) g 52 (St.mk t.d t.s (t.p + 1) t.r).vals) := fun o => by
    rw [← St.set_p t _ hs.len]
    exact (hb.set 27 _).alloc o
  have HO1 : Hid (∀ o : Obj, w.grownBy ((w.setCell ⟨g, 27, none⟩ (.int .i64 (t.p + 1))).alloc o) (some g)) := fun o => only_trans (only_set _ _ _ _) (only_alloc _ _ _)
  clear hb hs
  go_enter Try.func23, Try.ntmps23
  go_wp2_with fail
  refine (HC.out _ (HB1.out _)).mono ?_
  rintro r w2 ⟨⟨o, rfl⟩, hq⟩
  have HQ := Lib.hid hq
  clear hq
  go_wp2
  exact HQ.out (HO1.out _)

end Go.Proofs.Ytlghhnfpmekdnaa.Landed
