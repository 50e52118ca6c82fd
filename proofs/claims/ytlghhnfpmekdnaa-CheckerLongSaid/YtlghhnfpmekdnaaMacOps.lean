/- What the landed machine's inner methods give: load, cell, divide, branch. -/
import Derived.Test.YtlghhnfpmekdnaaMacSt
namespace Go.Proofs.Ytlghhnfpmekdnaa.Landed
open Go.RowKit

set_option maxRecDepth 100000 in
set_option maxHeartbeats 4000000 in
theorem load_ok (g : Nat) (t : St) (k : Int) (w : World) (hd : t.d.Ok) (hb : Box w g 52 t.vals) (k0 : 0 ≤ k) (k1 : k ≤ 4294967295) (hk : okOff k = true) :
    Calls Try.prog 33 #[.pointer (some ⟨g, 0, none⟩), .int .u32 k] w (Stood g (.int .i64 0) ⟨t.d, { t.s with a := wordOf t.d k }, t.p, t.r⟩ w) := by
  have HB := Lib.hid hb
  have hgl := hb.lt
  have HC := Lib.hid (word_any t.d k w hd k0 (by omega))
  have HK := Lib.hid hk
  have c0 : w.cell? ⟨g, 0, none⟩ = some (.int .u32 t.d.nr) := (hb.cell 0).trans (t.at_d 0 (by omega))
  have c1 : w.cell? ⟨g, 1, none⟩ = some (.int .u32 t.d.arch) := (hb.cell 1).trans (t.at_d 1 (by omega))
  have c2 : w.cell? ⟨g, 2, none⟩ = some (.int .u64 t.d.ip) := (hb.cell 2).trans (t.at_d 2 (by omega))
  have c3 : w.cell? ⟨g, 3, none⟩ = some (.int .u64 t.d.a0) := (hb.cell 3).trans (t.at_d 3 (by omega))
  have c4 : w.cell? ⟨g, 4, none⟩ = some (.int .u64 t.d.a1) := (hb.cell 4).trans (t.at_d 4 (by omega))
  have c5 : w.cell? ⟨g, 5, none⟩ = some (.int .u64 t.d.a2) := (hb.cell 5).trans (t.at_d 5 (by omega))
  have c6 : w.cell? ⟨g, 6, none⟩ = some (.int .u64 t.d.a3) := (hb.cell 6).trans (t.at_d 6 (by omega))
  have c7 : w.cell? ⟨g, 7, none⟩ = some (.int .u64 t.d.a4) := (hb.cell 7).trans (t.at_d 7 (by omega))
  have c8 : w.cell? ⟨g, 8, none⟩ = some (.int .u64 t.d.a5) := (hb.cell 8).trans (t.at_d 8 (by omega))
  clear hb hd hk
  go_enter Try.func33, Try.ntmps33
  go_wp2_with fail
  refine (HC.out).mono ?_
  rw [HK.out]
  rintro r w1 ⟨rfl, hb1⟩
  have hB1 : Box w1 g 52 t.vals := HB.out.below hb1 hgl
  have q0 : w1.cell? ⟨g, 9, none⟩ = some (.int .u32 t.s.a) := (hB1.cell 9).trans t.at_a
  have z0 : w1.frozen? ⟨g, 9, none⟩ = false := hB1.free 9
  have HB1 := Lib.hid hB1
  have HO := Lib.hid (only_below hb1 g)
  clear hB1 hb1 c0 c1 c2 c3 c4 c5 c6 c7 c8
  go_wp2
  go_ret
  exact ⟨rfl, by rw [← St.set_a]; exact HB1.out.set 9 _, only_trans HO.out (only_set _ _ _ _)⟩

set_option maxRecDepth 100000 in
set_option maxHeartbeats 4000000 in
theorem load_not (g : Nat) (t : St) (k : Int) (w : World) (hd : t.d.Ok) (hb : Box w g 52 t.vals) (k0 : 0 ≤ k) (k1 : k ≤ 4294967295) (hk : okOff k = false) :
    Calls Try.prog 33 #[.pointer (some ⟨g, 0, none⟩), .int .u32 k] w (Stood g (.int .i64 2) t w) := by
  have HB := Lib.hid hb
  have hgl := hb.lt
  have HC := Lib.hid (word_any t.d k w hd k0 (by omega))
  have HK := Lib.hid hk
  have c0 : w.cell? ⟨g, 0, none⟩ = some (.int .u32 t.d.nr) := (hb.cell 0).trans (t.at_d 0 (by omega))
  have c1 : w.cell? ⟨g, 1, none⟩ = some (.int .u32 t.d.arch) := (hb.cell 1).trans (t.at_d 1 (by omega))
  have c2 : w.cell? ⟨g, 2, none⟩ = some (.int .u64 t.d.ip) := (hb.cell 2).trans (t.at_d 2 (by omega))
  have c3 : w.cell? ⟨g, 3, none⟩ = some (.int .u64 t.d.a0) := (hb.cell 3).trans (t.at_d 3 (by omega))
  have c4 : w.cell? ⟨g, 4, none⟩ = some (.int .u64 t.d.a1) := (hb.cell 4).trans (t.at_d 4 (by omega))
  have c5 : w.cell? ⟨g, 5, none⟩ = some (.int .u64 t.d.a2) := (hb.cell 5).trans (t.at_d 5 (by omega))
  have c6 : w.cell? ⟨g, 6, none⟩ = some (.int .u64 t.d.a3) := (hb.cell 6).trans (t.at_d 6 (by omega))
  have c7 : w.cell? ⟨g, 7, none⟩ = some (.int .u64 t.d.a4) := (hb.cell 7).trans (t.at_d 7 (by omega))
  have c8 : w.cell? ⟨g, 8, none⟩ = some (.int .u64 t.d.a5) := (hb.cell 8).trans (t.at_d 8 (by omega))
  clear hb hd hk
  go_enter Try.func33, Try.ntmps33
  go_wp2_with fail
  refine (HC.out).mono ?_
  rw [HK.out]
  rintro r w1 ⟨rfl, hb1⟩
  have HB1 := Lib.hid (HB.out.below hb1 hgl)
  have HO := Lib.hid (only_below hb1 g)
  clear hb1 c0 c1 c2 c3 c4 c5 c6 c7 c8
  go_wp2
  go_ret
  exact ⟨rfl, HB1.out, HO.out⟩

set_option maxRecDepth 100000 in
set_option maxHeartbeats 4000000 in
theorem cell_far (g : Nat) (t : St) (c jt jf k : Int) (w : World) (hb : Box w g 52 t.vals) (hk : 16 ≤ k) :
    Calls Try.prog 34 #[.pointer (some ⟨g, 0, none⟩), .agg #[.int .i64 c, .int .i64 jt, .int .i64 jf, .int .u32 k]] w (Stood g (.int .i64 2) t w) := by
  have HB := Lib.hid hb
  clear hb
  go_enter Try.func34, Try.ntmps34
  go_wp2
  go_ret
  exact ⟨rfl, HB.out.alloc _, only_alloc _ _ _⟩

set_option maxRecDepth 100000 in
set_option maxHeartbeats 4000000 in
theorem cell_st (g : Nat) (t : St) (jt jf : Int) (k : Nat) (w : World) (hs : t.s.Ok) (hb : Box w g 52 t.vals) (hk : k < 16) :
    Calls Try.prog 34 #[.pointer (some ⟨g, 0, none⟩), .agg #[.int .i64 2, .int .i64 jt, .int .i64 jf, .int .u32 (k : Int)]] w (Stood g (.int .i64 0) ⟨t.d, { t.s with cells := t.s.cells.set k t.s.a }, t.p, t.r⟩ w) := by
  have HB := Lib.hid hb
  have hgl := hb.lt
  have HL := Lib.hid hs.len
  have q0 : w.cell? ⟨g, 9, none⟩ = some (.int .u32 t.s.a) := (hb.cell 9).trans t.at_a
  have q1 : w.cell? ⟨g, 11 + k, none⟩ = some (.int .u32 (t.s.cells.getD k 0)) := (hb.cell _).trans (t.at_cell k hs.len hk)
  have z1 : w.frozen? ⟨g, 11 + k, none⟩ = false := hb.free (11 + k)
  clear hb hs
  go_enter Try.func34, Try.ntmps34
  go_wp2_with fail
  go_region
  go_wp2
  go_ret
  exact ⟨rfl, by rw [← St.set_cell t k _ HL.out hk]; exact ((HB.out.set _ _).alloc _).drew, only_drew (only_trans (only_set _ _ _ _) (only_alloc _ _ _))⟩

set_option maxRecDepth 100000 in
set_option maxHeartbeats 4000000 in
theorem cell_stx (g : Nat) (t : St) (jt jf : Int) (k : Nat) (w : World) (hs : t.s.Ok) (hb : Box w g 52 t.vals) (hk : k < 16) :
    Calls Try.prog 34 #[.pointer (some ⟨g, 0, none⟩), .agg #[.int .i64 3, .int .i64 jt, .int .i64 jf, .int .u32 (k : Int)]] w (Stood g (.int .i64 0) ⟨t.d, { t.s with cells := t.s.cells.set k t.s.x }, t.p, t.r⟩ w) := by
  have HB := Lib.hid hb
  have hgl := hb.lt
  have HL := Lib.hid hs.len
  have q0 : w.cell? ⟨g, 10, none⟩ = some (.int .u32 t.s.x) := (hb.cell 10).trans t.at_x
  have q1 : w.cell? ⟨g, 11 + k, none⟩ = some (.int .u32 (t.s.cells.getD k 0)) := (hb.cell _).trans (t.at_cell k hs.len hk)
  have z1 : w.frozen? ⟨g, 11 + k, none⟩ = false := hb.free (11 + k)
  clear hb hs
  go_enter Try.func34, Try.ntmps34
  go_wp2_with fail
  go_region
  go_wp2
  go_ret
  exact ⟨rfl, by rw [← St.set_cell t k _ HL.out hk]; exact ((HB.out.set _ _).alloc _).drew, only_drew (only_trans (only_set _ _ _ _) (only_alloc _ _ _))⟩

set_option maxRecDepth 100000 in
set_option maxHeartbeats 4000000 in
theorem cell_ldmem (g : Nat) (t : St) (jt jf : Int) (k : Nat) (w : World) (hs : t.s.Ok) (hb : Box w g 52 t.vals) (hk : k < 16) :
    Calls Try.prog 34 #[.pointer (some ⟨g, 0, none⟩), .agg #[.int .i64 96, .int .i64 jt, .int .i64 jf, .int .u32 (k : Int)]] w (Stood g (.int .i64 0) ⟨t.d, { t.s with a := t.s.cells.getD k 0 }, t.p, t.r⟩ w) := by
  have HB := Lib.hid hb
  have hgl := hb.lt
  have q0 : w.cell? ⟨g, 9, none⟩ = some (.int .u32 t.s.a) := (hb.cell 9).trans t.at_a
  have q1 : w.cell? ⟨g, 11 + k, none⟩ = some (.int .u32 (t.s.cells.getD k 0)) := (hb.cell _).trans (t.at_cell k hs.len hk)
  have z1 : w.frozen? ⟨g, 9, none⟩ = false := hb.free 9
  clear hb hs
  go_enter Try.func34, Try.ntmps34
  go_wp2_with fail
  go_region
  go_wp2
  go_ret
  exact ⟨rfl, by rw [← St.set_a]; exact ((HB.out.set _ _).alloc _).drew, only_drew (only_trans (only_set _ _ _ _) (only_alloc _ _ _))⟩

set_option maxRecDepth 100000 in
set_option maxHeartbeats 4000000 in
theorem cell_ldxmem (g : Nat) (t : St) (jt jf : Int) (k : Nat) (w : World) (hs : t.s.Ok) (hb : Box w g 52 t.vals) (hk : k < 16) :
    Calls Try.prog 34 #[.pointer (some ⟨g, 0, none⟩), .agg #[.int .i64 97, .int .i64 jt, .int .i64 jf, .int .u32 (k : Int)]] w (Stood g (.int .i64 0) ⟨t.d, { t.s with x := t.s.cells.getD k 0 }, t.p, t.r⟩ w) := by
  have HB := Lib.hid hb
  have hgl := hb.lt
  have q0 : w.cell? ⟨g, 10, none⟩ = some (.int .u32 t.s.x) := (hb.cell 10).trans t.at_x
  have q1 : w.cell? ⟨g, 11 + k, none⟩ = some (.int .u32 (t.s.cells.getD k 0)) := (hb.cell _).trans (t.at_cell k hs.len hk)
  have z1 : w.frozen? ⟨g, 10, none⟩ = false := hb.free 10
  clear hb hs
  go_enter Try.func34, Try.ntmps34
  go_wp2_with fail
  go_region
  go_wp2
  go_ret
  exact ⟨rfl, by rw [← St.set_x]; exact ((HB.out.set _ _).alloc _).drew, only_drew (only_trans (only_set _ _ _ _) (only_alloc _ _ _))⟩

set_option maxHeartbeats 4000000 in
theorem divide_by (g : Nat) (t : St) (c n : Int) (w : World) (hs : t.s.Ok) (hb : Box w g 52 t.vals) (n0 : 1 ≤ n) (n1 : n ≤ 4294967295) :
    Calls Try.prog 45 #[.pointer (some ⟨g, 0, none⟩), .int .i64 c, .int .u32 n] w (Stood g (.int .i64 0) ⟨t.d, { t.s with a := t.s.a / n }, t.p, t.r⟩ w) := by
  have HB := Lib.hid hb
  have hgl := hb.lt
  have a0 := hs.a0
  have a1 := hs.a1
  have hz : (n != 0) = true := by rw [bne_iff_ne]; omega
  have q0 : w.cell? ⟨g, 9, none⟩ = some (.int .u32 t.s.a) := (hb.cell 9).trans t.at_a
  have z1 : w.frozen? ⟨g, 9, none⟩ = false := hb.free 9
  clear hb hs
  go_enter Try.func45, Try.ntmps45
  go_wp2
  go_ret
  exact ⟨rfl, by rw [← St.set_a]; exact HB.out.set _ _, only_set _ _ _ _⟩

set_option maxHeartbeats 4000000 in
theorem divide_k0 (g : Nat) (t : St) (w : World) (hb : Box w g 52 t.vals) :
    Calls Try.prog 45 #[.pointer (some ⟨g, 0, none⟩), .int .i64 52, .int .u32 0] w (Stood g (.int .i64 2) t w) := by
  have HB := Lib.hid hb
  clear hb
  go_enter Try.func45, Try.ntmps45
  go_wp2
  go_ret
  exact ⟨rfl, HB.out, only_refl _ _⟩

set_option maxHeartbeats 4000000 in
theorem divide_x0 (g : Nat) (t : St) (w : World) (hs : t.s.Ok) (hb : Box w g 52 t.vals) :
    Calls Try.prog 45 #[.pointer (some ⟨g, 0, none⟩), .int .i64 60, .int .u32 0] w (Stood g (.int .i64 1) ⟨t.d, t.s, t.p, 0⟩ w) := by
  have HC := Lib.hid (end_any g t 0 w hs hb)
  clear hb hs
  go_enter Try.func45, Try.ntmps45
  go_wp2_with fail
  refine (HC.out).mono ?_
  rintro r w1 ⟨rfl, hb1, ho1⟩
  go_wp2
  go_ret
  exact ⟨rfl, hb1, ho1⟩

theorem operand_jump (c k x : Int) (hc : isJump c = true) : operandOf c k x = if c % 16 < 8 then k else x := by
  unfold operandOf
  rw [bit8_jump c hc]
  by_cases h : c % 16 < 8 <;> simp [h]
theorem operand_alu (c k x : Int) (hc : isAlu c = true) : operandOf c k x = if c % 16 < 8 then k else x := by
  unfold operandOf
  rw [bit8_alu c hc]
  by_cases h : c % 16 < 8 <;> simp [h]

end Go.Proofs.Ytlghhnfpmekdnaa.Landed
