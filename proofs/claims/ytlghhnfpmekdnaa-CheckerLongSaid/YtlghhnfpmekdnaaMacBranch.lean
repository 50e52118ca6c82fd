/- What the landed machine's conditional jumps give. -/
import Derived.Test.YtlghhnfpmekdnaaMacOps
namespace Go.Proofs.Ytlghhnfpmekdnaa.Landed
open Go.RowKit

set_option maxRecDepth 100000 in
set_option maxHeartbeats 4000000 in
theorem branch_21_true (g : Nat) (t : St) (jt jf k O : Int) (w : World) (hs : t.s.Ok) (hb : Box w g 52 t.vals) (ho : operandOf 21 k t.s.x = O) (e : (t.s.a == O) = true) :
    Calls Try.prog 36 #[.pointer (some ⟨g, 0, none⟩), .agg #[.int .i64 21, .int .i64 jt, .int .i64 jf, .int .u32 k]] w (StoodU g ⟨t.d, t.s, wrap64 (t.p + jt), t.r⟩ w) := by
  have HB := Lib.hid hb
  have HS := Lib.hid hs
  have hgl := hb.lt
  have HO := Lib.hid ho
  clear hb hs ho
  go_enter Try.func36, Try.ntmps36
  go_wp2_with fail
  refine (operand_any g t _ jt jf k _ (HB.out.alloc _)).mono ?_
  rw [HO.out]
  rintro r w1 ⟨rfl, hb1⟩
  have hB1 := (HB.out.alloc _).below hb1 (by simp; omega)
  have q0 : w1.cell? ⟨g, 9, none⟩ = some (.int .u32 t.s.a) := (hB1.cell 9).trans t.at_a
  have HB1 := Lib.hid hB1
  have hg1 := hB1.lt
  have HO1 := Lib.hid (only_trans (only_alloc w _ g) (only_below hb1 g))
  have hi := (Box.new w 39 #[.int .i64 21, .int .i64 jt, .int .i64 jf, .int .u32 k]).below hb1 (by simp)
  have i0 := hi.cell 0
  have i1 := hi.cell 1
  have i2 := hi.cell 2
  have hi3 := hi.lt
  clear hb1 hB1 hi
  simp only [List.getElem?_toArray, List.getElem?_cons_zero, List.getElem?_cons_succ] at i0 i1 i2
  go_wp2_with fail
  refine (jump_any g t _ _ HS.out HB1.out).mono ?_
  rintro r w2 ⟨rfl, hb2, ho2⟩
  go_wp2
  go_end0
  exact ⟨rfl, hb2, only_trans HO1.out ho2⟩

set_option maxRecDepth 100000 in
set_option maxHeartbeats 4000000 in
theorem branch_21_false (g : Nat) (t : St) (jt jf k O : Int) (w : World) (hs : t.s.Ok) (hb : Box w g 52 t.vals) (ho : operandOf 21 k t.s.x = O) (e : (t.s.a == O) = false) :
    Calls Try.prog 36 #[.pointer (some ⟨g, 0, none⟩), .agg #[.int .i64 21, .int .i64 jt, .int .i64 jf, .int .u32 k]] w (StoodU g ⟨t.d, t.s, wrap64 (t.p + jf), t.r⟩ w) := by
  have HB := Lib.hid hb
  have HS := Lib.hid hs
  have hgl := hb.lt
  have HO := Lib.hid ho
  clear hb hs ho
  go_enter Try.func36, Try.ntmps36
  go_wp2_with fail
  refine (operand_any g t _ jt jf k _ (HB.out.alloc _)).mono ?_
  rw [HO.out]
  rintro r w1 ⟨rfl, hb1⟩
  have hB1 := (HB.out.alloc _).below hb1 (by simp; omega)
  have q0 : w1.cell? ⟨g, 9, none⟩ = some (.int .u32 t.s.a) := (hB1.cell 9).trans t.at_a
  have HB1 := Lib.hid hB1
  have hg1 := hB1.lt
  have HO1 := Lib.hid (only_trans (only_alloc w _ g) (only_below hb1 g))
  have hi := (Box.new w 39 #[.int .i64 21, .int .i64 jt, .int .i64 jf, .int .u32 k]).below hb1 (by simp)
  have i0 := hi.cell 0
  have i1 := hi.cell 1
  have i2 := hi.cell 2
  have hi3 := hi.lt
  clear hb1 hB1 hi
  simp only [List.getElem?_toArray, List.getElem?_cons_zero, List.getElem?_cons_succ] at i0 i1 i2
  go_wp2_with fail
  refine (jump_any g t _ _ HS.out HB1.out).mono ?_
  rintro r w2 ⟨rfl, hb2, ho2⟩
  go_wp2
  go_end0
  exact ⟨rfl, hb2, only_trans HO1.out ho2⟩

set_option maxRecDepth 100000 in
set_option maxHeartbeats 4000000 in
theorem branch_29_true (g : Nat) (t : St) (jt jf k O : Int) (w : World) (hs : t.s.Ok) (hb : Box w g 52 t.vals) (ho : operandOf 29 k t.s.x = O) (e : (t.s.a == O) = true) :
    Calls Try.prog 36 #[.pointer (some ⟨g, 0, none⟩), .agg #[.int .i64 29, .int .i64 jt, .int .i64 jf, .int .u32 k]] w (StoodU g ⟨t.d, t.s, wrap64 (t.p + jt), t.r⟩ w) := by
  have HB := Lib.hid hb
  have HS := Lib.hid hs
  have hgl := hb.lt
  have HO := Lib.hid ho
  clear hb hs ho
  go_enter Try.func36, Try.ntmps36
  go_wp2_with fail
  refine (operand_any g t _ jt jf k _ (HB.out.alloc _)).mono ?_
  rw [HO.out]
  rintro r w1 ⟨rfl, hb1⟩
  have hB1 := (HB.out.alloc _).below hb1 (by simp; omega)
  have q0 : w1.cell? ⟨g, 9, none⟩ = some (.int .u32 t.s.a) := (hB1.cell 9).trans t.at_a
  have HB1 := Lib.hid hB1
  have hg1 := hB1.lt
  have HO1 := Lib.hid (only_trans (only_alloc w _ g) (only_below hb1 g))
  have hi := (Box.new w 39 #[.int .i64 29, .int .i64 jt, .int .i64 jf, .int .u32 k]).below hb1 (by simp)
  have i0 := hi.cell 0
  have i1 := hi.cell 1
  have i2 := hi.cell 2
  have hi3 := hi.lt
  clear hb1 hB1 hi
  simp only [List.getElem?_toArray, List.getElem?_cons_zero, List.getElem?_cons_succ] at i0 i1 i2
  go_wp2_with fail
  refine (jump_any g t _ _ HS.out HB1.out).mono ?_
  rintro r w2 ⟨rfl, hb2, ho2⟩
  go_wp2
  go_end0
  exact ⟨rfl, hb2, only_trans HO1.out ho2⟩

set_option maxRecDepth 100000 in
set_option maxHeartbeats 4000000 in
theorem branch_29_false (g : Nat) (t : St) (jt jf k O : Int) (w : World) (hs : t.s.Ok) (hb : Box w g 52 t.vals) (ho : operandOf 29 k t.s.x = O) (e : (t.s.a == O) = false) :
    Calls Try.prog 36 #[.pointer (some ⟨g, 0, none⟩), .agg #[.int .i64 29, .int .i64 jt, .int .i64 jf, .int .u32 k]] w (StoodU g ⟨t.d, t.s, wrap64 (t.p + jf), t.r⟩ w) := by
  have HB := Lib.hid hb
  have HS := Lib.hid hs
  have hgl := hb.lt
  have HO := Lib.hid ho
  clear hb hs ho
  go_enter Try.func36, Try.ntmps36
  go_wp2_with fail
  refine (operand_any g t _ jt jf k _ (HB.out.alloc _)).mono ?_
  rw [HO.out]
  rintro r w1 ⟨rfl, hb1⟩
  have hB1 := (HB.out.alloc _).below hb1 (by simp; omega)
  have q0 : w1.cell? ⟨g, 9, none⟩ = some (.int .u32 t.s.a) := (hB1.cell 9).trans t.at_a
  have HB1 := Lib.hid hB1
  have hg1 := hB1.lt
  have HO1 := Lib.hid (only_trans (only_alloc w _ g) (only_below hb1 g))
  have hi := (Box.new w 39 #[.int .i64 29, .int .i64 jt, .int .i64 jf, .int .u32 k]).below hb1 (by simp)
  have i0 := hi.cell 0
  have i1 := hi.cell 1
  have i2 := hi.cell 2
  have hi3 := hi.lt
  clear hb1 hB1 hi
  simp only [List.getElem?_toArray, List.getElem?_cons_zero, List.getElem?_cons_succ] at i0 i1 i2
  go_wp2_with fail
  refine (jump_any g t _ _ HS.out HB1.out).mono ?_
  rintro r w2 ⟨rfl, hb2, ho2⟩
  go_wp2
  go_end0
  exact ⟨rfl, hb2, only_trans HO1.out ho2⟩

set_option maxRecDepth 100000 in
set_option maxHeartbeats 4000000 in
theorem branch_37_true (g : Nat) (t : St) (jt jf k O : Int) (w : World) (hs : t.s.Ok) (hb : Box w g 52 t.vals) (ho : operandOf 37 k t.s.x = O) (e : decide (O < t.s.a) = true) :
    Calls Try.prog 36 #[.pointer (some ⟨g, 0, none⟩), .agg #[.int .i64 37, .int .i64 jt, .int .i64 jf, .int .u32 k]] w (StoodU g ⟨t.d, t.s, wrap64 (t.p + jt), t.r⟩ w) := by
  have HB := Lib.hid hb
  have HS := Lib.hid hs
  have hgl := hb.lt
  have HO := Lib.hid ho
  clear hb hs ho
  go_enter Try.func36, Try.ntmps36
  go_wp2_with fail
  refine (operand_any g t _ jt jf k _ (HB.out.alloc _)).mono ?_
  rw [HO.out]
  rintro r w1 ⟨rfl, hb1⟩
  have hB1 := (HB.out.alloc _).below hb1 (by simp; omega)
  have q0 : w1.cell? ⟨g, 9, none⟩ = some (.int .u32 t.s.a) := (hB1.cell 9).trans t.at_a
  have HB1 := Lib.hid hB1
  have hg1 := hB1.lt
  have HO1 := Lib.hid (only_trans (only_alloc w _ g) (only_below hb1 g))
  have hi := (Box.new w 39 #[.int .i64 37, .int .i64 jt, .int .i64 jf, .int .u32 k]).below hb1 (by simp)
  have i0 := hi.cell 0
  have i1 := hi.cell 1
  have i2 := hi.cell 2
  have hi3 := hi.lt
  clear hb1 hB1 hi
  simp only [List.getElem?_toArray, List.getElem?_cons_zero, List.getElem?_cons_succ] at i0 i1 i2
  go_wp2_with fail
  refine (jump_any g t _ _ HS.out HB1.out).mono ?_
  rintro r w2 ⟨rfl, hb2, ho2⟩
  go_wp2
  go_end0
  exact ⟨rfl, hb2, only_trans HO1.out ho2⟩

set_option maxRecDepth 100000 in
set_option maxHeartbeats 4000000 in
theorem branch_37_false (g : Nat) (t : St) (jt jf k O : Int) (w : World) (hs : t.s.Ok) (hb : Box w g 52 t.vals) (ho : operandOf 37 k t.s.x = O) (e : decide (O < t.s.a) = false) :
    Calls Try.prog 36 #[.pointer (some ⟨g, 0, none⟩), .agg #[.int .i64 37, .int .i64 jt, .int .i64 jf, .int .u32 k]] w (StoodU g ⟨t.d, t.s, wrap64 (t.p + jf), t.r⟩ w) := by
  have HB := Lib.hid hb
  have HS := Lib.hid hs
  have hgl := hb.lt
  have HO := Lib.hid ho
  clear hb hs ho
  go_enter Try.func36, Try.ntmps36
  go_wp2_with fail
  refine (operand_any g t _ jt jf k _ (HB.out.alloc _)).mono ?_
  rw [HO.out]
  rintro r w1 ⟨rfl, hb1⟩
  have hB1 := (HB.out.alloc _).below hb1 (by simp; omega)
  have q0 : w1.cell? ⟨g, 9, none⟩ = some (.int .u32 t.s.a) := (hB1.cell 9).trans t.at_a
  have HB1 := Lib.hid hB1
  have hg1 := hB1.lt
  have HO1 := Lib.hid (only_trans (only_alloc w _ g) (only_below hb1 g))
  have hi := (Box.new w 39 #[.int .i64 37, .int .i64 jt, .int .i64 jf, .int .u32 k]).below hb1 (by simp)
  have i0 := hi.cell 0
  have i1 := hi.cell 1
  have i2 := hi.cell 2
  have hi3 := hi.lt
  clear hb1 hB1 hi
  simp only [List.getElem?_toArray, List.getElem?_cons_zero, List.getElem?_cons_succ] at i0 i1 i2
  go_wp2_with fail
  refine (jump_any g t _ _ HS.out HB1.out).mono ?_
  rintro r w2 ⟨rfl, hb2, ho2⟩
  go_wp2
  go_end0
  exact ⟨rfl, hb2, only_trans HO1.out ho2⟩

set_option maxRecDepth 100000 in
set_option maxHeartbeats 4000000 in
theorem branch_45_true (g : Nat) (t : St) (jt jf k O : Int) (w : World) (hs : t.s.Ok) (hb : Box w g 52 t.vals) (ho : operandOf 45 k t.s.x = O) (e : decide (O < t.s.a) = true) :
    Calls Try.prog 36 #[.pointer (some ⟨g, 0, none⟩), .agg #[.int .i64 45, .int .i64 jt, .int .i64 jf, .int .u32 k]] w (StoodU g ⟨t.d, t.s, wrap64 (t.p + jt), t.r⟩ w) := by
  have HB := Lib.hid hb
  have HS := Lib.hid hs
  have hgl := hb.lt
  have HO := Lib.hid ho
  clear hb hs ho
  go_enter Try.func36, Try.ntmps36
  go_wp2_with fail
  refine (operand_any g t _ jt jf k _ (HB.out.alloc _)).mono ?_
  rw [HO.out]
  rintro r w1 ⟨rfl, hb1⟩
  have hB1 := (HB.out.alloc _).below hb1 (by simp; omega)
  have q0 : w1.cell? ⟨g, 9, none⟩ = some (.int .u32 t.s.a) := (hB1.cell 9).trans t.at_a
  have HB1 := Lib.hid hB1
  have hg1 := hB1.lt
  have HO1 := Lib.hid (only_trans (only_alloc w _ g) (only_below hb1 g))
  have hi := (Box.new w 39 #[.int .i64 45, .int .i64 jt, .int .i64 jf, .int .u32 k]).below hb1 (by simp)
  have i0 := hi.cell 0
  have i1 := hi.cell 1
  have i2 := hi.cell 2
  have hi3 := hi.lt
  clear hb1 hB1 hi
  simp only [List.getElem?_toArray, List.getElem?_cons_zero, List.getElem?_cons_succ] at i0 i1 i2
  go_wp2_with fail
  refine (jump_any g t _ _ HS.out HB1.out).mono ?_
  rintro r w2 ⟨rfl, hb2, ho2⟩
  go_wp2
  go_end0
  exact ⟨rfl, hb2, only_trans HO1.out ho2⟩

set_option maxRecDepth 100000 in
set_option maxHeartbeats 4000000 in
theorem branch_45_false (g : Nat) (t : St) (jt jf k O : Int) (w : World) (hs : t.s.Ok) (hb : Box w g 52 t.vals) (ho : operandOf 45 k t.s.x = O) (e : decide (O < t.s.a) = false) :
    Calls Try.prog 36 #[.pointer (some ⟨g, 0, none⟩), .agg #[.int .i64 45, .int .i64 jt, .int .i64 jf, .int .u32 k]] w (StoodU g ⟨t.d, t.s, wrap64 (t.p + jf), t.r⟩ w) := by
  have HB := Lib.hid hb
  have HS := Lib.hid hs
  have hgl := hb.lt
  have HO := Lib.hid ho
  clear hb hs ho
  go_enter Try.func36, Try.ntmps36
  go_wp2_with fail
  refine (operand_any g t _ jt jf k _ (HB.out.alloc _)).mono ?_
  rw [HO.out]
  rintro r w1 ⟨rfl, hb1⟩
  have hB1 := (HB.out.alloc _).below hb1 (by simp; omega)
  have q0 : w1.cell? ⟨g, 9, none⟩ = some (.int .u32 t.s.a) := (hB1.cell 9).trans t.at_a
  have HB1 := Lib.hid hB1
  have hg1 := hB1.lt
  have HO1 := Lib.hid (only_trans (only_alloc w _ g) (only_below hb1 g))
  have hi := (Box.new w 39 #[.int .i64 45, .int .i64 jt, .int .i64 jf, .int .u32 k]).below hb1 (by simp)
  have i0 := hi.cell 0
  have i1 := hi.cell 1
  have i2 := hi.cell 2
  have hi3 := hi.lt
  clear hb1 hB1 hi
  simp only [List.getElem?_toArray, List.getElem?_cons_zero, List.getElem?_cons_succ] at i0 i1 i2
  go_wp2_with fail
  refine (jump_any g t _ _ HS.out HB1.out).mono ?_
  rintro r w2 ⟨rfl, hb2, ho2⟩
  go_wp2
  go_end0
  exact ⟨rfl, hb2, only_trans HO1.out ho2⟩

set_option maxRecDepth 100000 in
set_option maxHeartbeats 4000000 in
theorem branch_53_true (g : Nat) (t : St) (jt jf k O : Int) (w : World) (hs : t.s.Ok) (hb : Box w g 52 t.vals) (ho : operandOf 53 k t.s.x = O) (e : decide (O ≤ t.s.a) = true) :
    Calls Try.prog 36 #[.pointer (some ⟨g, 0, none⟩), .agg #[.int .i64 53, .int .i64 jt, .int .i64 jf, .int .u32 k]] w (StoodU g ⟨t.d, t.s, wrap64 (t.p + jt), t.r⟩ w) := by
  have HB := Lib.hid hb
  have HS := Lib.hid hs
  have hgl := hb.lt
  have HO := Lib.hid ho
  clear hb hs ho
  go_enter Try.func36, Try.ntmps36
  go_wp2_with fail
  refine (operand_any g t _ jt jf k _ (HB.out.alloc _)).mono ?_
  rw [HO.out]
  rintro r w1 ⟨rfl, hb1⟩
  have hB1 := (HB.out.alloc _).below hb1 (by simp; omega)
  have q0 : w1.cell? ⟨g, 9, none⟩ = some (.int .u32 t.s.a) := (hB1.cell 9).trans t.at_a
  have HB1 := Lib.hid hB1
  have hg1 := hB1.lt
  have HO1 := Lib.hid (only_trans (only_alloc w _ g) (only_below hb1 g))
  have hi := (Box.new w 39 #[.int .i64 53, .int .i64 jt, .int .i64 jf, .int .u32 k]).below hb1 (by simp)
  have i0 := hi.cell 0
  have i1 := hi.cell 1
  have i2 := hi.cell 2
  have hi3 := hi.lt
  clear hb1 hB1 hi
  simp only [List.getElem?_toArray, List.getElem?_cons_zero, List.getElem?_cons_succ] at i0 i1 i2
  go_wp2_with fail
  refine (jump_any g t _ _ HS.out HB1.out).mono ?_
  rintro r w2 ⟨rfl, hb2, ho2⟩
  go_wp2
  go_end0
  exact ⟨rfl, hb2, only_trans HO1.out ho2⟩

set_option maxRecDepth 100000 in
set_option maxHeartbeats 4000000 in
theorem branch_53_false (g : Nat) (t : St) (jt jf k O : Int) (w : World) (hs : t.s.Ok) (hb : Box w g 52 t.vals) (ho : operandOf 53 k t.s.x = O) (e : decide (O ≤ t.s.a) = false) :
    Calls Try.prog 36 #[.pointer (some ⟨g, 0, none⟩), .agg #[.int .i64 53, .int .i64 jt, .int .i64 jf, .int .u32 k]] w (StoodU g ⟨t.d, t.s, wrap64 (t.p + jf), t.r⟩ w) := by
  have HB := Lib.hid hb
  have HS := Lib.hid hs
  have hgl := hb.lt
  have HO := Lib.hid ho
  clear hb hs ho
  go_enter Try.func36, Try.ntmps36
  go_wp2_with fail
  refine (operand_any g t _ jt jf k _ (HB.out.alloc _)).mono ?_
  rw [HO.out]
  rintro r w1 ⟨rfl, hb1⟩
  have hB1 := (HB.out.alloc _).below hb1 (by simp; omega)
  have q0 : w1.cell? ⟨g, 9, none⟩ = some (.int .u32 t.s.a) := (hB1.cell 9).trans t.at_a
  have HB1 := Lib.hid hB1
  have hg1 := hB1.lt
  have HO1 := Lib.hid (only_trans (only_alloc w _ g) (only_below hb1 g))
  have hi := (Box.new w 39 #[.int .i64 53, .int .i64 jt, .int .i64 jf, .int .u32 k]).below hb1 (by simp)
  have i0 := hi.cell 0
  have i1 := hi.cell 1
  have i2 := hi.cell 2
  have hi3 := hi.lt
  clear hb1 hB1 hi
  simp only [List.getElem?_toArray, List.getElem?_cons_zero, List.getElem?_cons_succ] at i0 i1 i2
  go_wp2_with fail
  refine (jump_any g t _ _ HS.out HB1.out).mono ?_
  rintro r w2 ⟨rfl, hb2, ho2⟩
  go_wp2
  go_end0
  exact ⟨rfl, hb2, only_trans HO1.out ho2⟩

set_option maxRecDepth 100000 in
set_option maxHeartbeats 4000000 in
theorem branch_61_true (g : Nat) (t : St) (jt jf k O : Int) (w : World) (hs : t.s.Ok) (hb : Box w g 52 t.vals) (ho : operandOf 61 k t.s.x = O) (e : decide (O ≤ t.s.a) = true) :
    Calls Try.prog 36 #[.pointer (some ⟨g, 0, none⟩), .agg #[.int .i64 61, .int .i64 jt, .int .i64 jf, .int .u32 k]] w (StoodU g ⟨t.d, t.s, wrap64 (t.p + jt), t.r⟩ w) := by
  have HB := Lib.hid hb
  have HS := Lib.hid hs
  have hgl := hb.lt
  have HO := Lib.hid ho
  clear hb hs ho
  go_enter Try.func36, Try.ntmps36
  go_wp2_with fail
  refine (operand_any g t _ jt jf k _ (HB.out.alloc _)).mono ?_
  rw [HO.out]
  rintro r w1 ⟨rfl, hb1⟩
  have hB1 := (HB.out.alloc _).below hb1 (by simp; omega)
  have q0 : w1.cell? ⟨g, 9, none⟩ = some (.int .u32 t.s.a) := (hB1.cell 9).trans t.at_a
  have HB1 := Lib.hid hB1
  have hg1 := hB1.lt
  have HO1 := Lib.hid (only_trans (only_alloc w _ g) (only_below hb1 g))
  have hi := (Box.new w 39 #[.int .i64 61, .int .i64 jt, .int .i64 jf, .int .u32 k]).below hb1 (by simp)
  have i0 := hi.cell 0
  have i1 := hi.cell 1
  have i2 := hi.cell 2
  have hi3 := hi.lt
  clear hb1 hB1 hi
  simp only [List.getElem?_toArray, List.getElem?_cons_zero, List.getElem?_cons_succ] at i0 i1 i2
  go_wp2_with fail
  refine (jump_any g t _ _ HS.out HB1.out).mono ?_
  rintro r w2 ⟨rfl, hb2, ho2⟩
  go_wp2
  go_end0
  exact ⟨rfl, hb2, only_trans HO1.out ho2⟩

set_option maxRecDepth 100000 in
set_option maxHeartbeats 4000000 in
theorem branch_61_false (g : Nat) (t : St) (jt jf k O : Int) (w : World) (hs : t.s.Ok) (hb : Box w g 52 t.vals) (ho : operandOf 61 k t.s.x = O) (e : decide (O ≤ t.s.a) = false) :
    Calls Try.prog 36 #[.pointer (some ⟨g, 0, none⟩), .agg #[.int .i64 61, .int .i64 jt, .int .i64 jf, .int .u32 k]] w (StoodU g ⟨t.d, t.s, wrap64 (t.p + jf), t.r⟩ w) := by
  have HB := Lib.hid hb
  have HS := Lib.hid hs
  have hgl := hb.lt
  have HO := Lib.hid ho
  clear hb hs ho
  go_enter Try.func36, Try.ntmps36
  go_wp2_with fail
  refine (operand_any g t _ jt jf k _ (HB.out.alloc _)).mono ?_
  rw [HO.out]
  rintro r w1 ⟨rfl, hb1⟩
  have hB1 := (HB.out.alloc _).below hb1 (by simp; omega)
  have q0 : w1.cell? ⟨g, 9, none⟩ = some (.int .u32 t.s.a) := (hB1.cell 9).trans t.at_a
  have HB1 := Lib.hid hB1
  have hg1 := hB1.lt
  have HO1 := Lib.hid (only_trans (only_alloc w _ g) (only_below hb1 g))
  have hi := (Box.new w 39 #[.int .i64 61, .int .i64 jt, .int .i64 jf, .int .u32 k]).below hb1 (by simp)
  have i0 := hi.cell 0
  have i1 := hi.cell 1
  have i2 := hi.cell 2
  have hi3 := hi.lt
  clear hb1 hB1 hi
  simp only [List.getElem?_toArray, List.getElem?_cons_zero, List.getElem?_cons_succ] at i0 i1 i2
  go_wp2_with fail
  refine (jump_any g t _ _ HS.out HB1.out).mono ?_
  rintro r w2 ⟨rfl, hb2, ho2⟩
  go_wp2
  go_end0
  exact ⟨rfl, hb2, only_trans HO1.out ho2⟩

set_option maxRecDepth 100000 in
set_option maxHeartbeats 4000000 in
theorem branch_69_true (g : Nat) (t : St) (jt jf k O : Int) (w : World) (hs : t.s.Ok) (hb : Box w g 52 t.vals) (ho : operandOf 69 k t.s.x = O) (e : (bits .and .u32 t.s.a O != 0) = true) :
    Calls Try.prog 36 #[.pointer (some ⟨g, 0, none⟩), .agg #[.int .i64 69, .int .i64 jt, .int .i64 jf, .int .u32 k]] w (StoodU g ⟨t.d, t.s, wrap64 (t.p + jt), t.r⟩ w) := by
  have HB := Lib.hid hb
  have HS := Lib.hid hs
  have hgl := hb.lt
  have HO := Lib.hid ho
  clear hb hs ho
  go_enter Try.func36, Try.ntmps36
  go_wp2_with fail
  refine (operand_any g t _ jt jf k _ (HB.out.alloc _)).mono ?_
  rw [HO.out]
  rintro r w1 ⟨rfl, hb1⟩
  have hB1 := (HB.out.alloc _).below hb1 (by simp; omega)
  have q0 : w1.cell? ⟨g, 9, none⟩ = some (.int .u32 t.s.a) := (hB1.cell 9).trans t.at_a
  have HB1 := Lib.hid hB1
  have hg1 := hB1.lt
  have HO1 := Lib.hid (only_trans (only_alloc w _ g) (only_below hb1 g))
  have hi := (Box.new w 39 #[.int .i64 69, .int .i64 jt, .int .i64 jf, .int .u32 k]).below hb1 (by simp)
  have i0 := hi.cell 0
  have i1 := hi.cell 1
  have i2 := hi.cell 2
  have hi3 := hi.lt
  clear hb1 hB1 hi
  simp only [List.getElem?_toArray, List.getElem?_cons_zero, List.getElem?_cons_succ] at i0 i1 i2
  go_wp2_with fail
  refine (jump_any g t _ _ HS.out HB1.out).mono ?_
  rintro r w2 ⟨rfl, hb2, ho2⟩
  go_wp2
  go_end0
  exact ⟨rfl, hb2, only_trans HO1.out ho2⟩

set_option maxRecDepth 100000 in
set_option maxHeartbeats 4000000 in
theorem branch_69_false (g : Nat) (t : St) (jt jf k O : Int) (w : World) (hs : t.s.Ok) (hb : Box w g 52 t.vals) (ho : operandOf 69 k t.s.x = O) (e : (bits .and .u32 t.s.a O != 0) = false) :
    Calls Try.prog 36 #[.pointer (some ⟨g, 0, none⟩), .agg #[.int .i64 69, .int .i64 jt, .int .i64 jf, .int .u32 k]] w (StoodU g ⟨t.d, t.s, wrap64 (t.p + jf), t.r⟩ w) := by
  have HB := Lib.hid hb
  have HS := Lib.hid hs
  have hgl := hb.lt
  have HO := Lib.hid ho
  clear hb hs ho
  go_enter Try.func36, Try.ntmps36
  go_wp2_with fail
  refine (operand_any g t _ jt jf k _ (HB.out.alloc _)).mono ?_
  rw [HO.out]
  rintro r w1 ⟨rfl, hb1⟩
  have hB1 := (HB.out.alloc _).below hb1 (by simp; omega)
  have q0 : w1.cell? ⟨g, 9, none⟩ = some (.int .u32 t.s.a) := (hB1.cell 9).trans t.at_a
  have HB1 := Lib.hid hB1
  have hg1 := hB1.lt
  have HO1 := Lib.hid (only_trans (only_alloc w _ g) (only_below hb1 g))
  have hi := (Box.new w 39 #[.int .i64 69, .int .i64 jt, .int .i64 jf, .int .u32 k]).below hb1 (by simp)
  have i0 := hi.cell 0
  have i1 := hi.cell 1
  have i2 := hi.cell 2
  have hi3 := hi.lt
  clear hb1 hB1 hi
  simp only [List.getElem?_toArray, List.getElem?_cons_zero, List.getElem?_cons_succ] at i0 i1 i2
  go_wp2_with fail
  refine (jump_any g t _ _ HS.out HB1.out).mono ?_
  rintro r w2 ⟨rfl, hb2, ho2⟩
  go_wp2
  go_end0
  exact ⟨rfl, hb2, only_trans HO1.out ho2⟩

set_option maxRecDepth 100000 in
set_option maxHeartbeats 4000000 in
theorem branch_77_true (g : Nat) (t : St) (jt jf k O : Int) (w : World) (hs : t.s.Ok) (hb : Box w g 52 t.vals) (ho : operandOf 77 k t.s.x = O) (e : (bits .and .u32 t.s.a O != 0) = true) :
    Calls Try.prog 36 #[.pointer (some ⟨g, 0, none⟩), .agg #[.int .i64 77, .int .i64 jt, .int .i64 jf, .int .u32 k]] w (StoodU g ⟨t.d, t.s, wrap64 (t.p + jt), t.r⟩ w) := by
  have HB := Lib.hid hb
  have HS := Lib.hid hs
  have hgl := hb.lt
  have HO := Lib.hid ho
  clear hb hs ho
  go_enter Try.func36, Try.ntmps36
  go_wp2_with fail
  refine (operand_any g t _ jt jf k _ (HB.out.alloc _)).mono ?_
  rw [HO.out]
  rintro r w1 ⟨rfl, hb1⟩
  have hB1 := (HB.out.alloc _).below hb1 (by simp; omega)
  have q0 : w1.cell? ⟨g, 9, none⟩ = some (.int .u32 t.s.a) := (hB1.cell 9).trans t.at_a
  have HB1 := Lib.hid hB1
  have hg1 := hB1.lt
  have HO1 := Lib.hid (only_trans (only_alloc w _ g) (only_below hb1 g))
  have hi := (Box.new w 39 #[.int .i64 77, .int .i64 jt, .int .i64 jf, .int .u32 k]).below hb1 (by simp)
  have i0 := hi.cell 0
  have i1 := hi.cell 1
  have i2 := hi.cell 2
  have hi3 := hi.lt
  clear hb1 hB1 hi
  simp only [List.getElem?_toArray, List.getElem?_cons_zero, List.getElem?_cons_succ] at i0 i1 i2
  go_wp2_with fail
  refine (jump_any g t _ _ HS.out HB1.out).mono ?_
  rintro r w2 ⟨rfl, hb2, ho2⟩
  go_wp2
  go_end0
  exact ⟨rfl, hb2, only_trans HO1.out ho2⟩

set_option maxRecDepth 100000 in
set_option maxHeartbeats 4000000 in
theorem branch_77_false (g : Nat) (t : St) (jt jf k O : Int) (w : World) (hs : t.s.Ok) (hb : Box w g 52 t.vals) (ho : operandOf 77 k t.s.x = O) (e : (bits .and .u32 t.s.a O != 0) = false) :
    Calls Try.prog 36 #[.pointer (some ⟨g, 0, none⟩), .agg #[.int .i64 77, .int .i64 jt, .int .i64 jf, .int .u32 k]] w (StoodU g ⟨t.d, t.s, wrap64 (t.p + jf), t.r⟩ w) := by
  have HB := Lib.hid hb
  have HS := Lib.hid hs
  have hgl := hb.lt
  have HO := Lib.hid ho
  clear hb hs ho
  go_enter Try.func36, Try.ntmps36
  go_wp2_with fail
  refine (operand_any g t _ jt jf k _ (HB.out.alloc _)).mono ?_
  rw [HO.out]
  rintro r w1 ⟨rfl, hb1⟩
  have hB1 := (HB.out.alloc _).below hb1 (by simp; omega)
  have q0 : w1.cell? ⟨g, 9, none⟩ = some (.int .u32 t.s.a) := (hB1.cell 9).trans t.at_a
  have HB1 := Lib.hid hB1
  have hg1 := hB1.lt
  have HO1 := Lib.hid (only_trans (only_alloc w _ g) (only_below hb1 g))
  have hi := (Box.new w 39 #[.int .i64 77, .int .i64 jt, .int .i64 jf, .int .u32 k]).below hb1 (by simp)
  have i0 := hi.cell 0
  have i1 := hi.cell 1
  have i2 := hi.cell 2
  have hi3 := hi.lt
  clear hb1 hB1 hi
  simp only [List.getElem?_toArray, List.getElem?_cons_zero, List.getElem?_cons_succ] at i0 i1 i2
  go_wp2_with fail
  refine (jump_any g t _ _ HS.out HB1.out).mono ?_
  rintro r w2 ⟨rfl, hb2, ho2⟩
  go_wp2
  go_end0
  exact ⟨rfl, hb2, only_trans HO1.out ho2⟩

theorem branch_any (g : Nat) (t : St) (c jt jf k : Int) (w : World) (hs : t.s.Ok) (hb : Box w g 52 t.vals) (hc : isJump c = true) :
    Calls Try.prog 36 #[.pointer (some ⟨g, 0, none⟩), .agg #[.int .i64 c, .int .i64 jt, .int .i64 jf, .int .u32 k]] w (StoodU g ⟨t.d, t.s, wrap64 (t.p + if jumpOf c t.s.a (other t.s c k) then jt else jf), t.r⟩ w) := by
  have ho : operandOf c k t.s.x = other t.s c k := operand_jump c k t.s.x hc
  generalize other t.s c k = O at ho ⊢
  by_cases hT : jumpOf c t.s.a O = true
  · rw [if_pos hT]
    rcases jump_mem hc with rfl | rfl | rfl | rfl | rfl | rfl | rfl | rfl
    · exact branch_21_true g t jt jf k O w hs hb ho hT
    · exact branch_29_true g t jt jf k O w hs hb ho hT
    · exact branch_37_true g t jt jf k O w hs hb ho hT
    · exact branch_45_true g t jt jf k O w hs hb ho hT
    · exact branch_53_true g t jt jf k O w hs hb ho hT
    · exact branch_61_true g t jt jf k O w hs hb ho hT
    · exact branch_69_true g t jt jf k O w hs hb ho hT
    · exact branch_77_true g t jt jf k O w hs hb ho hT
  · rw [if_neg hT]
    have hF : jumpOf c t.s.a O = false := by simpa using hT
    clear hT
    rcases jump_mem hc with rfl | rfl | rfl | rfl | rfl | rfl | rfl | rfl
    · exact branch_21_false g t jt jf k O w hs hb ho hF
    · exact branch_29_false g t jt jf k O w hs hb ho hF
    · exact branch_37_false g t jt jf k O w hs hb ho hF
    · exact branch_45_false g t jt jf k O w hs hb ho hF
    · exact branch_53_false g t jt jf k O w hs hb ho hF
    · exact branch_61_false g t jt jf k O w hs hb ho hF
    · exact branch_69_false g t jt jf k O w hs hb ho hF
    · exact branch_77_false g t jt jf k O w hs hb ho hF

end Go.Proofs.Ytlghhnfpmekdnaa.Landed
