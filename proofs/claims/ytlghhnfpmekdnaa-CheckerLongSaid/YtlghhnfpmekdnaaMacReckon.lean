/- What the landed machine's arithmetic gives. -/
import Derived.Test.YtlghhnfpmekdnaaMacOps
namespace Go.Proofs.Ytlghhnfpmekdnaa.Landed
open Go.RowKit

set_option maxRecDepth 100000 in
set_option maxHeartbeats 4000000 in
theorem reckon_4 (g : Nat) (t : St) (jt jf k O : Int) (w : World) (hs : t.s.Ok) (hb : Box w g 52 t.vals) (ho : operandOf 4 k t.s.x = O) (_o0 : 0 ≤ O) (_o1 : O ≤ 4294967295) :
    Calls Try.prog 38 #[.pointer (some ⟨g, 0, none⟩), .agg #[.int .i64 4, .int .i64 jt, .int .i64 jf, .int .u32 k]] w (Stood g (.int .i64 0) ⟨t.d, { t.s with a := (t.s.a + O) % 4294967296 }, t.p, t.r⟩ w) := by
  have HB := Lib.hid hb
  have HS := Lib.hid hs
  have hgl := hb.lt
  have a0 := hs.a0
  have a1 := hs.a1
  have HO := Lib.hid ho
  clear hb hs ho
  go_enter Try.func38, Try.ntmps38
  go_wp2_with fail
  refine (operand_any g t _ jt jf k _ (HB.out.alloc _)).mono ?_
  rw [HO.out]
  rintro r w1 ⟨rfl, hb1⟩
  have hB1 := (HB.out.alloc _).below hb1 (by simp; omega)
  have q0 : w1.cell? ⟨g, 9, none⟩ = some (.int .u32 t.s.a) := (hB1.cell 9).trans t.at_a
  have z0 : w1.frozen? ⟨g, 9, none⟩ = false := hB1.free 9
  have HB1 := Lib.hid hB1
  have hg1 := hB1.lt
  have HO1 := Lib.hid (only_trans (only_alloc w _ g) (only_below hb1 g))
  have hi := (Box.new w 39 #[.int .i64 4, .int .i64 jt, .int .i64 jf, .int .u32 k]).below hb1 (by simp)
  have i0 := hi.cell 0
  have hi3 := hi.lt
  clear hb1 hB1 hi
  simp only [List.getElem?_toArray, List.getElem?_cons_zero] at i0
  go_wp2
  go_ret
  exact ⟨rfl, by rw [← St.set_a]; exact HB1.out.set 9 _, only_trans HO1.out (only_set _ _ _ _)⟩

set_option maxRecDepth 100000 in
set_option maxHeartbeats 4000000 in
theorem reckon_12 (g : Nat) (t : St) (jt jf k O : Int) (w : World) (hs : t.s.Ok) (hb : Box w g 52 t.vals) (ho : operandOf 12 k t.s.x = O) (_o0 : 0 ≤ O) (_o1 : O ≤ 4294967295) :
    Calls Try.prog 38 #[.pointer (some ⟨g, 0, none⟩), .agg #[.int .i64 12, .int .i64 jt, .int .i64 jf, .int .u32 k]] w (Stood g (.int .i64 0) ⟨t.d, { t.s with a := (t.s.a + O) % 4294967296 }, t.p, t.r⟩ w) := by
  have HB := Lib.hid hb
  have HS := Lib.hid hs
  have hgl := hb.lt
  have a0 := hs.a0
  have a1 := hs.a1
  have HO := Lib.hid ho
  clear hb hs ho
  go_enter Try.func38, Try.ntmps38
  go_wp2_with fail
  refine (operand_any g t _ jt jf k _ (HB.out.alloc _)).mono ?_
  rw [HO.out]
  rintro r w1 ⟨rfl, hb1⟩
  have hB1 := (HB.out.alloc _).below hb1 (by simp; omega)
  have q0 : w1.cell? ⟨g, 9, none⟩ = some (.int .u32 t.s.a) := (hB1.cell 9).trans t.at_a
  have z0 : w1.frozen? ⟨g, 9, none⟩ = false := hB1.free 9
  have HB1 := Lib.hid hB1
  have hg1 := hB1.lt
  have HO1 := Lib.hid (only_trans (only_alloc w _ g) (only_below hb1 g))
  have hi := (Box.new w 39 #[.int .i64 12, .int .i64 jt, .int .i64 jf, .int .u32 k]).below hb1 (by simp)
  have i0 := hi.cell 0
  have hi3 := hi.lt
  clear hb1 hB1 hi
  simp only [List.getElem?_toArray, List.getElem?_cons_zero] at i0
  go_wp2
  go_ret
  exact ⟨rfl, by rw [← St.set_a]; exact HB1.out.set 9 _, only_trans HO1.out (only_set _ _ _ _)⟩

set_option maxRecDepth 100000 in
set_option maxHeartbeats 4000000 in
theorem reckon_20 (g : Nat) (t : St) (jt jf k O : Int) (w : World) (hs : t.s.Ok) (hb : Box w g 52 t.vals) (ho : operandOf 20 k t.s.x = O) (_o0 : 0 ≤ O) (_o1 : O ≤ 4294967295) :
    Calls Try.prog 38 #[.pointer (some ⟨g, 0, none⟩), .agg #[.int .i64 20, .int .i64 jt, .int .i64 jf, .int .u32 k]] w (Stood g (.int .i64 0) ⟨t.d, { t.s with a := (t.s.a - O) % 4294967296 }, t.p, t.r⟩ w) := by
  have HB := Lib.hid hb
  have HS := Lib.hid hs
  have hgl := hb.lt
  have a0 := hs.a0
  have a1 := hs.a1
  have HO := Lib.hid ho
  clear hb hs ho
  go_enter Try.func38, Try.ntmps38
  go_wp2_with fail
  refine (operand_any g t _ jt jf k _ (HB.out.alloc _)).mono ?_
  rw [HO.out]
  rintro r w1 ⟨rfl, hb1⟩
  have hB1 := (HB.out.alloc _).below hb1 (by simp; omega)
  have q0 : w1.cell? ⟨g, 9, none⟩ = some (.int .u32 t.s.a) := (hB1.cell 9).trans t.at_a
  have z0 : w1.frozen? ⟨g, 9, none⟩ = false := hB1.free 9
  have HB1 := Lib.hid hB1
  have hg1 := hB1.lt
  have HO1 := Lib.hid (only_trans (only_alloc w _ g) (only_below hb1 g))
  have hi := (Box.new w 39 #[.int .i64 20, .int .i64 jt, .int .i64 jf, .int .u32 k]).below hb1 (by simp)
  have i0 := hi.cell 0
  have hi3 := hi.lt
  clear hb1 hB1 hi
  simp only [List.getElem?_toArray, List.getElem?_cons_zero] at i0
  go_wp2
  go_ret
  exact ⟨rfl, by rw [← St.set_a]; exact HB1.out.set 9 _, only_trans HO1.out (only_set _ _ _ _)⟩

set_option maxRecDepth 100000 in
set_option maxHeartbeats 4000000 in
theorem reckon_28 (g : Nat) (t : St) (jt jf k O : Int) (w : World) (hs : t.s.Ok) (hb : Box w g 52 t.vals) (ho : operandOf 28 k t.s.x = O) (_o0 : 0 ≤ O) (_o1 : O ≤ 4294967295) :
    Calls Try.prog 38 #[.pointer (some ⟨g, 0, none⟩), .agg #[.int .i64 28, .int .i64 jt, .int .i64 jf, .int .u32 k]] w (Stood g (.int .i64 0) ⟨t.d, { t.s with a := (t.s.a - O) % 4294967296 }, t.p, t.r⟩ w) := by
  have HB := Lib.hid hb
  have HS := Lib.hid hs
  have hgl := hb.lt
  have a0 := hs.a0
  have a1 := hs.a1
  have HO := Lib.hid ho
  clear hb hs ho
  go_enter Try.func38, Try.ntmps38
  go_wp2_with fail
  refine (operand_any g t _ jt jf k _ (HB.out.alloc _)).mono ?_
  rw [HO.out]
  rintro r w1 ⟨rfl, hb1⟩
  have hB1 := (HB.out.alloc _).below hb1 (by simp; omega)
  have q0 : w1.cell? ⟨g, 9, none⟩ = some (.int .u32 t.s.a) := (hB1.cell 9).trans t.at_a
  have z0 : w1.frozen? ⟨g, 9, none⟩ = false := hB1.free 9
  have HB1 := Lib.hid hB1
  have hg1 := hB1.lt
  have HO1 := Lib.hid (only_trans (only_alloc w _ g) (only_below hb1 g))
  have hi := (Box.new w 39 #[.int .i64 28, .int .i64 jt, .int .i64 jf, .int .u32 k]).below hb1 (by simp)
  have i0 := hi.cell 0
  have hi3 := hi.lt
  clear hb1 hB1 hi
  simp only [List.getElem?_toArray, List.getElem?_cons_zero] at i0
  go_wp2
  go_ret
  exact ⟨rfl, by rw [← St.set_a]; exact HB1.out.set 9 _, only_trans HO1.out (only_set _ _ _ _)⟩

set_option maxRecDepth 100000 in
set_option maxHeartbeats 4000000 in
theorem reckon_36 (g : Nat) (t : St) (jt jf k O : Int) (w : World) (hs : t.s.Ok) (hb : Box w g 52 t.vals) (ho : operandOf 36 k t.s.x = O) (_o0 : 0 ≤ O) (_o1 : O ≤ 4294967295) :
    Calls Try.prog 38 #[.pointer (some ⟨g, 0, none⟩), .agg #[.int .i64 36, .int .i64 jt, .int .i64 jf, .int .u32 k]] w (Stood g (.int .i64 0) ⟨t.d, { t.s with a := t.s.a * O % 4294967296 }, t.p, t.r⟩ w) := by
  have HB := Lib.hid hb
  have HS := Lib.hid hs
  have hgl := hb.lt
  have a0 := hs.a0
  have a1 := hs.a1
  have HO := Lib.hid ho
  clear hb hs ho
  go_enter Try.func38, Try.ntmps38
  go_wp2_with fail
  refine (operand_any g t _ jt jf k _ (HB.out.alloc _)).mono ?_
  rw [HO.out]
  rintro r w1 ⟨rfl, hb1⟩
  have hB1 := (HB.out.alloc _).below hb1 (by simp; omega)
  have q0 : w1.cell? ⟨g, 9, none⟩ = some (.int .u32 t.s.a) := (hB1.cell 9).trans t.at_a
  have z0 : w1.frozen? ⟨g, 9, none⟩ = false := hB1.free 9
  have HB1 := Lib.hid hB1
  have hg1 := hB1.lt
  have HO1 := Lib.hid (only_trans (only_alloc w _ g) (only_below hb1 g))
  have hi := (Box.new w 39 #[.int .i64 36, .int .i64 jt, .int .i64 jf, .int .u32 k]).below hb1 (by simp)
  have i0 := hi.cell 0
  have hi3 := hi.lt
  clear hb1 hB1 hi
  simp only [List.getElem?_toArray, List.getElem?_cons_zero] at i0
  go_wp2
  go_ret
  exact ⟨rfl, by rw [← St.set_a]; exact HB1.out.set 9 _, only_trans HO1.out (only_set _ _ _ _)⟩

set_option maxRecDepth 100000 in
set_option maxHeartbeats 4000000 in
theorem reckon_44 (g : Nat) (t : St) (jt jf k O : Int) (w : World) (hs : t.s.Ok) (hb : Box w g 52 t.vals) (ho : operandOf 44 k t.s.x = O) (_o0 : 0 ≤ O) (_o1 : O ≤ 4294967295) :
    Calls Try.prog 38 #[.pointer (some ⟨g, 0, none⟩), .agg #[.int .i64 44, .int .i64 jt, .int .i64 jf, .int .u32 k]] w (Stood g (.int .i64 0) ⟨t.d, { t.s with a := t.s.a * O % 4294967296 }, t.p, t.r⟩ w) := by
  have HB := Lib.hid hb
  have HS := Lib.hid hs
  have hgl := hb.lt
  have a0 := hs.a0
  have a1 := hs.a1
  have HO := Lib.hid ho
  clear hb hs ho
  go_enter Try.func38, Try.ntmps38
  go_wp2_with fail
  refine (operand_any g t _ jt jf k _ (HB.out.alloc _)).mono ?_
  rw [HO.out]
  rintro r w1 ⟨rfl, hb1⟩
  have hB1 := (HB.out.alloc _).below hb1 (by simp; omega)
  have q0 : w1.cell? ⟨g, 9, none⟩ = some (.int .u32 t.s.a) := (hB1.cell 9).trans t.at_a
  have z0 : w1.frozen? ⟨g, 9, none⟩ = false := hB1.free 9
  have HB1 := Lib.hid hB1
  have hg1 := hB1.lt
  have HO1 := Lib.hid (only_trans (only_alloc w _ g) (only_below hb1 g))
  have hi := (Box.new w 39 #[.int .i64 44, .int .i64 jt, .int .i64 jf, .int .u32 k]).below hb1 (by simp)
  have i0 := hi.cell 0
  have hi3 := hi.lt
  clear hb1 hB1 hi
  simp only [List.getElem?_toArray, List.getElem?_cons_zero] at i0
  go_wp2
  go_ret
  exact ⟨rfl, by rw [← St.set_a]; exact HB1.out.set 9 _, only_trans HO1.out (only_set _ _ _ _)⟩

set_option maxRecDepth 100000 in
set_option maxHeartbeats 4000000 in
theorem reckon_68 (g : Nat) (t : St) (jt jf k O : Int) (w : World) (hs : t.s.Ok) (hb : Box w g 52 t.vals) (ho : operandOf 68 k t.s.x = O) (_o0 : 0 ≤ O) (_o1 : O ≤ 4294967295) :
    Calls Try.prog 38 #[.pointer (some ⟨g, 0, none⟩), .agg #[.int .i64 68, .int .i64 jt, .int .i64 jf, .int .u32 k]] w (Stood g (.int .i64 0) ⟨t.d, { t.s with a := bits .or .u32 t.s.a O }, t.p, t.r⟩ w) := by
  have HB := Lib.hid hb
  have HS := Lib.hid hs
  have hgl := hb.lt
  have a0 := hs.a0
  have a1 := hs.a1
  have HO := Lib.hid ho
  clear hb hs ho
  go_enter Try.func38, Try.ntmps38
  go_wp2_with fail
  refine (operand_any g t _ jt jf k _ (HB.out.alloc _)).mono ?_
  rw [HO.out]
  rintro r w1 ⟨rfl, hb1⟩
  have hB1 := (HB.out.alloc _).below hb1 (by simp; omega)
  have q0 : w1.cell? ⟨g, 9, none⟩ = some (.int .u32 t.s.a) := (hB1.cell 9).trans t.at_a
  have z0 : w1.frozen? ⟨g, 9, none⟩ = false := hB1.free 9
  have HB1 := Lib.hid hB1
  have hg1 := hB1.lt
  have HO1 := Lib.hid (only_trans (only_alloc w _ g) (only_below hb1 g))
  have hi := (Box.new w 39 #[.int .i64 68, .int .i64 jt, .int .i64 jf, .int .u32 k]).below hb1 (by simp)
  have i0 := hi.cell 0
  have hi3 := hi.lt
  clear hb1 hB1 hi
  simp only [List.getElem?_toArray, List.getElem?_cons_zero] at i0
  go_wp2
  go_ret
  exact ⟨rfl, by rw [← St.set_a]; exact HB1.out.set 9 _, only_trans HO1.out (only_set _ _ _ _)⟩

set_option maxRecDepth 100000 in
set_option maxHeartbeats 4000000 in
theorem reckon_76 (g : Nat) (t : St) (jt jf k O : Int) (w : World) (hs : t.s.Ok) (hb : Box w g 52 t.vals) (ho : operandOf 76 k t.s.x = O) (_o0 : 0 ≤ O) (_o1 : O ≤ 4294967295) :
    Calls Try.prog 38 #[.pointer (some ⟨g, 0, none⟩), .agg #[.int .i64 76, .int .i64 jt, .int .i64 jf, .int .u32 k]] w (Stood g (.int .i64 0) ⟨t.d, { t.s with a := bits .or .u32 t.s.a O }, t.p, t.r⟩ w) := by
  have HB := Lib.hid hb
  have HS := Lib.hid hs
  have hgl := hb.lt
  have a0 := hs.a0
  have a1 := hs.a1
  have HO := Lib.hid ho
  clear hb hs ho
  go_enter Try.func38, Try.ntmps38
  go_wp2_with fail
  refine (operand_any g t _ jt jf k _ (HB.out.alloc _)).mono ?_
  rw [HO.out]
  rintro r w1 ⟨rfl, hb1⟩
  have hB1 := (HB.out.alloc _).below hb1 (by simp; omega)
  have q0 : w1.cell? ⟨g, 9, none⟩ = some (.int .u32 t.s.a) := (hB1.cell 9).trans t.at_a
  have z0 : w1.frozen? ⟨g, 9, none⟩ = false := hB1.free 9
  have HB1 := Lib.hid hB1
  have hg1 := hB1.lt
  have HO1 := Lib.hid (only_trans (only_alloc w _ g) (only_below hb1 g))
  have hi := (Box.new w 39 #[.int .i64 76, .int .i64 jt, .int .i64 jf, .int .u32 k]).below hb1 (by simp)
  have i0 := hi.cell 0
  have hi3 := hi.lt
  clear hb1 hB1 hi
  simp only [List.getElem?_toArray, List.getElem?_cons_zero] at i0
  go_wp2
  go_ret
  exact ⟨rfl, by rw [← St.set_a]; exact HB1.out.set 9 _, only_trans HO1.out (only_set _ _ _ _)⟩

set_option maxRecDepth 100000 in
set_option maxHeartbeats 4000000 in
theorem reckon_84 (g : Nat) (t : St) (jt jf k O : Int) (w : World) (hs : t.s.Ok) (hb : Box w g 52 t.vals) (ho : operandOf 84 k t.s.x = O) (_o0 : 0 ≤ O) (_o1 : O ≤ 4294967295) :
    Calls Try.prog 38 #[.pointer (some ⟨g, 0, none⟩), .agg #[.int .i64 84, .int .i64 jt, .int .i64 jf, .int .u32 k]] w (Stood g (.int .i64 0) ⟨t.d, { t.s with a := bits .and .u32 t.s.a O }, t.p, t.r⟩ w) := by
  have HB := Lib.hid hb
  have HS := Lib.hid hs
  have hgl := hb.lt
  have a0 := hs.a0
  have a1 := hs.a1
  have HO := Lib.hid ho
  clear hb hs ho
  go_enter Try.func38, Try.ntmps38
  go_wp2_with fail
  refine (operand_any g t _ jt jf k _ (HB.out.alloc _)).mono ?_
  rw [HO.out]
  rintro r w1 ⟨rfl, hb1⟩
  have hB1 := (HB.out.alloc _).below hb1 (by simp; omega)
  have q0 : w1.cell? ⟨g, 9, none⟩ = some (.int .u32 t.s.a) := (hB1.cell 9).trans t.at_a
  have z0 : w1.frozen? ⟨g, 9, none⟩ = false := hB1.free 9
  have HB1 := Lib.hid hB1
  have hg1 := hB1.lt
  have HO1 := Lib.hid (only_trans (only_alloc w _ g) (only_below hb1 g))
  have hi := (Box.new w 39 #[.int .i64 84, .int .i64 jt, .int .i64 jf, .int .u32 k]).below hb1 (by simp)
  have i0 := hi.cell 0
  have hi3 := hi.lt
  clear hb1 hB1 hi
  simp only [List.getElem?_toArray, List.getElem?_cons_zero] at i0
  go_wp2
  go_ret
  exact ⟨rfl, by rw [← St.set_a]; exact HB1.out.set 9 _, only_trans HO1.out (only_set _ _ _ _)⟩

set_option maxRecDepth 100000 in
set_option maxHeartbeats 4000000 in
theorem reckon_92 (g : Nat) (t : St) (jt jf k O : Int) (w : World) (hs : t.s.Ok) (hb : Box w g 52 t.vals) (ho : operandOf 92 k t.s.x = O) (_o0 : 0 ≤ O) (_o1 : O ≤ 4294967295) :
    Calls Try.prog 38 #[.pointer (some ⟨g, 0, none⟩), .agg #[.int .i64 92, .int .i64 jt, .int .i64 jf, .int .u32 k]] w (Stood g (.int .i64 0) ⟨t.d, { t.s with a := bits .and .u32 t.s.a O }, t.p, t.r⟩ w) := by
  have HB := Lib.hid hb
  have HS := Lib.hid hs
  have hgl := hb.lt
  have a0 := hs.a0
  have a1 := hs.a1
  have HO := Lib.hid ho
  clear hb hs ho
  go_enter Try.func38, Try.ntmps38
  go_wp2_with fail
  refine (operand_any g t _ jt jf k _ (HB.out.alloc _)).mono ?_
  rw [HO.out]
  rintro r w1 ⟨rfl, hb1⟩
  have hB1 := (HB.out.alloc _).below hb1 (by simp; omega)
  have q0 : w1.cell? ⟨g, 9, none⟩ = some (.int .u32 t.s.a) := (hB1.cell 9).trans t.at_a
  have z0 : w1.frozen? ⟨g, 9, none⟩ = false := hB1.free 9
  have HB1 := Lib.hid hB1
  have hg1 := hB1.lt
  have HO1 := Lib.hid (only_trans (only_alloc w _ g) (only_below hb1 g))
  have hi := (Box.new w 39 #[.int .i64 92, .int .i64 jt, .int .i64 jf, .int .u32 k]).below hb1 (by simp)
  have i0 := hi.cell 0
  have hi3 := hi.lt
  clear hb1 hB1 hi
  simp only [List.getElem?_toArray, List.getElem?_cons_zero] at i0
  go_wp2
  go_ret
  exact ⟨rfl, by rw [← St.set_a]; exact HB1.out.set 9 _, only_trans HO1.out (only_set _ _ _ _)⟩

set_option maxRecDepth 100000 in
set_option maxHeartbeats 4000000 in
theorem reckon_164 (g : Nat) (t : St) (jt jf k O : Int) (w : World) (hs : t.s.Ok) (hb : Box w g 52 t.vals) (ho : operandOf 164 k t.s.x = O) (_o0 : 0 ≤ O) (_o1 : O ≤ 4294967295) :
    Calls Try.prog 38 #[.pointer (some ⟨g, 0, none⟩), .agg #[.int .i64 164, .int .i64 jt, .int .i64 jf, .int .u32 k]] w (Stood g (.int .i64 0) ⟨t.d, { t.s with a := bits .xor .u32 t.s.a O }, t.p, t.r⟩ w) := by
  have HB := Lib.hid hb
  have HS := Lib.hid hs
  have hgl := hb.lt
  have a0 := hs.a0
  have a1 := hs.a1
  have HO := Lib.hid ho
  clear hb hs ho
  go_enter Try.func38, Try.ntmps38
  go_wp2_with fail
  refine (operand_any g t _ jt jf k _ (HB.out.alloc _)).mono ?_
  rw [HO.out]
  rintro r w1 ⟨rfl, hb1⟩
  have hB1 := (HB.out.alloc _).below hb1 (by simp; omega)
  have q0 : w1.cell? ⟨g, 9, none⟩ = some (.int .u32 t.s.a) := (hB1.cell 9).trans t.at_a
  have z0 : w1.frozen? ⟨g, 9, none⟩ = false := hB1.free 9
  have HB1 := Lib.hid hB1
  have hg1 := hB1.lt
  have HO1 := Lib.hid (only_trans (only_alloc w _ g) (only_below hb1 g))
  have hi := (Box.new w 39 #[.int .i64 164, .int .i64 jt, .int .i64 jf, .int .u32 k]).below hb1 (by simp)
  have i0 := hi.cell 0
  have hi3 := hi.lt
  clear hb1 hB1 hi
  simp only [List.getElem?_toArray, List.getElem?_cons_zero] at i0
  go_wp2
  go_ret
  exact ⟨rfl, by rw [← St.set_a]; exact HB1.out.set 9 _, only_trans HO1.out (only_set _ _ _ _)⟩

set_option maxRecDepth 100000 in
set_option maxHeartbeats 4000000 in
theorem reckon_172 (g : Nat) (t : St) (jt jf k O : Int) (w : World) (hs : t.s.Ok) (hb : Box w g 52 t.vals) (ho : operandOf 172 k t.s.x = O) (_o0 : 0 ≤ O) (_o1 : O ≤ 4294967295) :
    Calls Try.prog 38 #[.pointer (some ⟨g, 0, none⟩), .agg #[.int .i64 172, .int .i64 jt, .int .i64 jf, .int .u32 k]] w (Stood g (.int .i64 0) ⟨t.d, { t.s with a := bits .xor .u32 t.s.a O }, t.p, t.r⟩ w) := by
  have HB := Lib.hid hb
  have HS := Lib.hid hs
  have hgl := hb.lt
  have a0 := hs.a0
  have a1 := hs.a1
  have HO := Lib.hid ho
  clear hb hs ho
  go_enter Try.func38, Try.ntmps38
  go_wp2_with fail
  refine (operand_any g t _ jt jf k _ (HB.out.alloc _)).mono ?_
  rw [HO.out]
  rintro r w1 ⟨rfl, hb1⟩
  have hB1 := (HB.out.alloc _).below hb1 (by simp; omega)
  have q0 : w1.cell? ⟨g, 9, none⟩ = some (.int .u32 t.s.a) := (hB1.cell 9).trans t.at_a
  have z0 : w1.frozen? ⟨g, 9, none⟩ = false := hB1.free 9
  have HB1 := Lib.hid hB1
  have hg1 := hB1.lt
  have HO1 := Lib.hid (only_trans (only_alloc w _ g) (only_below hb1 g))
  have hi := (Box.new w 39 #[.int .i64 172, .int .i64 jt, .int .i64 jf, .int .u32 k]).below hb1 (by simp)
  have i0 := hi.cell 0
  have hi3 := hi.lt
  clear hb1 hB1 hi
  simp only [List.getElem?_toArray, List.getElem?_cons_zero] at i0
  go_wp2
  go_ret
  exact ⟨rfl, by rw [← St.set_a]; exact HB1.out.set 9 _, only_trans HO1.out (only_set _ _ _ _)⟩

set_option maxRecDepth 100000 in
set_option maxHeartbeats 4000000 in
theorem reckon_100 (g : Nat) (t : St) (jt jf k O : Int) (w : World) (hs : t.s.Ok) (hb : Box w g 52 t.vals) (ho : operandOf 100 k t.s.x = O) (o0 : 0 ≤ O) (o1 : O ≤ 4294967295) :
    Calls Try.prog 38 #[.pointer (some ⟨g, 0, none⟩), .agg #[.int .i64 100, .int .i64 jt, .int .i64 jf, .int .u32 k]] w (Stood g (.int .i64 0) ⟨t.d, { t.s with a := t.s.a * 2 ^ (O % 32).toNat % 4294967296 }, t.p, t.r⟩ w) := by
  have HB := Lib.hid hb
  have HS := Lib.hid hs
  have hgl := hb.lt
  have a0 := hs.a0
  have a1 := hs.a1
  have HO := Lib.hid ho
  clear hb hs ho
  go_enter Try.func38, Try.ntmps38
  go_wp2_with fail
  refine (operand_any g t _ jt jf k _ (HB.out.alloc _)).mono ?_
  rw [HO.out]
  rintro r w1 ⟨rfl, hb1⟩
  have hB1 := (HB.out.alloc _).below hb1 (by simp; omega)
  have q0 : w1.cell? ⟨g, 9, none⟩ = some (.int .u32 t.s.a) := (hB1.cell 9).trans t.at_a
  have z0 : w1.frozen? ⟨g, 9, none⟩ = false := hB1.free 9
  have HB1 := Lib.hid hB1
  have hg1 := hB1.lt
  have HO1 := Lib.hid (only_trans (only_alloc w _ g) (only_below hb1 g))
  have hi := (Box.new w 39 #[.int .i64 100, .int .i64 jt, .int .i64 jf, .int .u32 k]).below hb1 (by simp)
  have i0 := hi.cell 0
  have hi3 := hi.lt
  clear hb1 hB1 hi
  simp only [List.getElem?_toArray, List.getElem?_cons_zero] at i0
  go_wp2
  go_ret
  exact ⟨rfl, by rw [← St.set_a]; exact HB1.out.set 9 _, only_trans HO1.out (only_set _ _ _ _)⟩

set_option maxRecDepth 100000 in
set_option maxHeartbeats 4000000 in
theorem reckon_108 (g : Nat) (t : St) (jt jf k O : Int) (w : World) (hs : t.s.Ok) (hb : Box w g 52 t.vals) (ho : operandOf 108 k t.s.x = O) (o0 : 0 ≤ O) (o1 : O ≤ 4294967295) :
    Calls Try.prog 38 #[.pointer (some ⟨g, 0, none⟩), .agg #[.int .i64 108, .int .i64 jt, .int .i64 jf, .int .u32 k]] w (Stood g (.int .i64 0) ⟨t.d, { t.s with a := t.s.a * 2 ^ (O % 32).toNat % 4294967296 }, t.p, t.r⟩ w) := by
  have HB := Lib.hid hb
  have HS := Lib.hid hs
  have hgl := hb.lt
  have a0 := hs.a0
  have a1 := hs.a1
  have HO := Lib.hid ho
  clear hb hs ho
  go_enter Try.func38, Try.ntmps38
  go_wp2_with fail
  refine (operand_any g t _ jt jf k _ (HB.out.alloc _)).mono ?_
  rw [HO.out]
  rintro r w1 ⟨rfl, hb1⟩
  have hB1 := (HB.out.alloc _).below hb1 (by simp; omega)
  have q0 : w1.cell? ⟨g, 9, none⟩ = some (.int .u32 t.s.a) := (hB1.cell 9).trans t.at_a
  have z0 : w1.frozen? ⟨g, 9, none⟩ = false := hB1.free 9
  have HB1 := Lib.hid hB1
  have hg1 := hB1.lt
  have HO1 := Lib.hid (only_trans (only_alloc w _ g) (only_below hb1 g))
  have hi := (Box.new w 39 #[.int .i64 108, .int .i64 jt, .int .i64 jf, .int .u32 k]).below hb1 (by simp)
  have i0 := hi.cell 0
  have hi3 := hi.lt
  clear hb1 hB1 hi
  simp only [List.getElem?_toArray, List.getElem?_cons_zero] at i0
  go_wp2
  go_ret
  exact ⟨rfl, by rw [← St.set_a]; exact HB1.out.set 9 _, only_trans HO1.out (only_set _ _ _ _)⟩

set_option maxRecDepth 100000 in
set_option maxHeartbeats 4000000 in
theorem reckon_116 (g : Nat) (t : St) (jt jf k O : Int) (w : World) (hs : t.s.Ok) (hb : Box w g 52 t.vals) (ho : operandOf 116 k t.s.x = O) (o0 : 0 ≤ O) (o1 : O ≤ 4294967295) :
    Calls Try.prog 38 #[.pointer (some ⟨g, 0, none⟩), .agg #[.int .i64 116, .int .i64 jt, .int .i64 jf, .int .u32 k]] w (Stood g (.int .i64 0) ⟨t.d, { t.s with a := t.s.a / 2 ^ (O % 32).toNat }, t.p, t.r⟩ w) := by
  have HB := Lib.hid hb
  have HS := Lib.hid hs
  have hgl := hb.lt
  have a0 := hs.a0
  have a1 := hs.a1
  have HO := Lib.hid ho
  clear hb hs ho
  go_enter Try.func38, Try.ntmps38
  go_wp2_with fail
  refine (operand_any g t _ jt jf k _ (HB.out.alloc _)).mono ?_
  rw [HO.out]
  rintro r w1 ⟨rfl, hb1⟩
  have hB1 := (HB.out.alloc _).below hb1 (by simp; omega)
  have q0 : w1.cell? ⟨g, 9, none⟩ = some (.int .u32 t.s.a) := (hB1.cell 9).trans t.at_a
  have z0 : w1.frozen? ⟨g, 9, none⟩ = false := hB1.free 9
  have HB1 := Lib.hid hB1
  have hg1 := hB1.lt
  have HO1 := Lib.hid (only_trans (only_alloc w _ g) (only_below hb1 g))
  have hi := (Box.new w 39 #[.int .i64 116, .int .i64 jt, .int .i64 jf, .int .u32 k]).below hb1 (by simp)
  have i0 := hi.cell 0
  have hi3 := hi.lt
  clear hb1 hB1 hi
  simp only [List.getElem?_toArray, List.getElem?_cons_zero] at i0
  go_wp2
  go_ret
  exact ⟨rfl, by rw [← St.set_a]; exact HB1.out.set 9 _, only_trans HO1.out (only_set _ _ _ _)⟩

set_option maxRecDepth 100000 in
set_option maxHeartbeats 4000000 in
theorem reckon_124 (g : Nat) (t : St) (jt jf k O : Int) (w : World) (hs : t.s.Ok) (hb : Box w g 52 t.vals) (ho : operandOf 124 k t.s.x = O) (o0 : 0 ≤ O) (o1 : O ≤ 4294967295) :
    Calls Try.prog 38 #[.pointer (some ⟨g, 0, none⟩), .agg #[.int .i64 124, .int .i64 jt, .int .i64 jf, .int .u32 k]] w (Stood g (.int .i64 0) ⟨t.d, { t.s with a := t.s.a / 2 ^ (O % 32).toNat }, t.p, t.r⟩ w) := by
  have HB := Lib.hid hb
  have HS := Lib.hid hs
  have hgl := hb.lt
  have a0 := hs.a0
  have a1 := hs.a1
  have HO := Lib.hid ho
  clear hb hs ho
  go_enter Try.func38, Try.ntmps38
  go_wp2_with fail
  refine (operand_any g t _ jt jf k _ (HB.out.alloc _)).mono ?_
  rw [HO.out]
  rintro r w1 ⟨rfl, hb1⟩
  have hB1 := (HB.out.alloc _).below hb1 (by simp; omega)
  have q0 : w1.cell? ⟨g, 9, none⟩ = some (.int .u32 t.s.a) := (hB1.cell 9).trans t.at_a
  have z0 : w1.frozen? ⟨g, 9, none⟩ = false := hB1.free 9
  have HB1 := Lib.hid hB1
  have hg1 := hB1.lt
  have HO1 := Lib.hid (only_trans (only_alloc w _ g) (only_below hb1 g))
  have hi := (Box.new w 39 #[.int .i64 124, .int .i64 jt, .int .i64 jf, .int .u32 k]).below hb1 (by simp)
  have i0 := hi.cell 0
  have hi3 := hi.lt
  clear hb1 hB1 hi
  simp only [List.getElem?_toArray, List.getElem?_cons_zero] at i0
  go_wp2
  go_ret
  exact ⟨rfl, by rw [← St.set_a]; exact HB1.out.set 9 _, only_trans HO1.out (only_set _ _ _ _)⟩

set_option maxRecDepth 100000 in
set_option maxHeartbeats 4000000 in
theorem reckon_132 (g : Nat) (t : St) (jt jf k O : Int) (w : World) (hs : t.s.Ok) (hb : Box w g 52 t.vals) (ho : operandOf 132 k t.s.x = O) :
    Calls Try.prog 38 #[.pointer (some ⟨g, 0, none⟩), .agg #[.int .i64 132, .int .i64 jt, .int .i64 jf, .int .u32 k]] w (Stood g (.int .i64 0) ⟨t.d, { t.s with a := -t.s.a % 4294967296 }, t.p, t.r⟩ w) := by
  have HB := Lib.hid hb
  have HS := Lib.hid hs
  have hgl := hb.lt
  have a0 := hs.a0
  have a1 := hs.a1
  have HO := Lib.hid ho
  clear hb hs ho
  go_enter Try.func38, Try.ntmps38
  go_wp2_with fail
  refine (operand_any g t _ jt jf k _ (HB.out.alloc _)).mono ?_
  rw [HO.out]
  rintro r w1 ⟨rfl, hb1⟩
  have hB1 := (HB.out.alloc _).below hb1 (by simp; omega)
  have q0 : w1.cell? ⟨g, 9, none⟩ = some (.int .u32 t.s.a) := (hB1.cell 9).trans t.at_a
  have z0 : w1.frozen? ⟨g, 9, none⟩ = false := hB1.free 9
  have HB1 := Lib.hid hB1
  have hg1 := hB1.lt
  have HO1 := Lib.hid (only_trans (only_alloc w _ g) (only_below hb1 g))
  have hi := (Box.new w 39 #[.int .i64 132, .int .i64 jt, .int .i64 jf, .int .u32 k]).below hb1 (by simp)
  have i0 := hi.cell 0
  have hi3 := hi.lt
  clear hb1 hB1 hi
  simp only [List.getElem?_toArray, List.getElem?_cons_zero] at i0
  go_wp2
  go_ret
  exact ⟨rfl, by rw [← St.set_a]; exact HB1.out.set 9 _, only_trans HO1.out (only_set _ _ _ _)⟩

set_option maxRecDepth 100000 in
set_option maxHeartbeats 4000000 in
theorem reckon_52 (g : Nat) (t : St) (jt jf k O : Int) (w : World) (hs : t.s.Ok) (hb : Box w g 52 t.vals) (ho : operandOf 52 k t.s.x = O) (o0 : 1 ≤ O) (o1 : O ≤ 4294967295) :
    Calls Try.prog 38 #[.pointer (some ⟨g, 0, none⟩), .agg #[.int .i64 52, .int .i64 jt, .int .i64 jf, .int .u32 k]] w (Stood g (.int .i64 0) ⟨t.d, { t.s with a := t.s.a / O }, t.p, t.r⟩ w) := by
  have HB := Lib.hid hb
  have HS := Lib.hid hs
  have hgl := hb.lt
  have a0 := hs.a0
  have a1 := hs.a1
  have HO := Lib.hid ho
  have HO0 := Lib.hid o0
  have HOO := Lib.hid o1
  clear hb hs ho
  go_enter Try.func38, Try.ntmps38
  go_wp2_with fail
  refine (operand_any g t _ jt jf k _ (HB.out.alloc _)).mono ?_
  rw [HO.out]
  rintro r w1 ⟨rfl, hb1⟩
  have hB1 := (HB.out.alloc _).below hb1 (by simp; omega)
  have q0 : w1.cell? ⟨g, 9, none⟩ = some (.int .u32 t.s.a) := (hB1.cell 9).trans t.at_a
  have z0 : w1.frozen? ⟨g, 9, none⟩ = false := hB1.free 9
  have HB1 := Lib.hid hB1
  have hg1 := hB1.lt
  have HO1 := Lib.hid (only_trans (only_alloc w _ g) (only_below hb1 g))
  have hi := (Box.new w 39 #[.int .i64 52, .int .i64 jt, .int .i64 jf, .int .u32 k]).below hb1 (by simp)
  have i0 := hi.cell 0
  have hi3 := hi.lt
  clear hb1 hB1 hi
  simp only [List.getElem?_toArray, List.getElem?_cons_zero] at i0
  go_wp2_with fail
  refine (divide_by g t 52 O _ HS.out HB1.out HO0.out HOO.out).mono ?_
  rintro r w2 ⟨rfl, hb2, ho2⟩
  go_wp2
  go_ret
  exact ⟨rfl, hb2, only_trans HO1.out ho2⟩

set_option maxRecDepth 100000 in
set_option maxHeartbeats 4000000 in
theorem reckon_60 (g : Nat) (t : St) (jt jf k O : Int) (w : World) (hs : t.s.Ok) (hb : Box w g 52 t.vals) (ho : operandOf 60 k t.s.x = O) (o0 : 1 ≤ O) (o1 : O ≤ 4294967295) :
    Calls Try.prog 38 #[.pointer (some ⟨g, 0, none⟩), .agg #[.int .i64 60, .int .i64 jt, .int .i64 jf, .int .u32 k]] w (Stood g (.int .i64 0) ⟨t.d, { t.s with a := t.s.a / O }, t.p, t.r⟩ w) := by
  have HB := Lib.hid hb
  have HS := Lib.hid hs
  have hgl := hb.lt
  have a0 := hs.a0
  have a1 := hs.a1
  have HO := Lib.hid ho
  have HO0 := Lib.hid o0
  have HOO := Lib.hid o1
  clear hb hs ho
  go_enter Try.func38, Try.ntmps38
  go_wp2_with fail
  refine (operand_any g t _ jt jf k _ (HB.out.alloc _)).mono ?_
  rw [HO.out]
  rintro r w1 ⟨rfl, hb1⟩
  have hB1 := (HB.out.alloc _).below hb1 (by simp; omega)
  have q0 : w1.cell? ⟨g, 9, none⟩ = some (.int .u32 t.s.a) := (hB1.cell 9).trans t.at_a
  have z0 : w1.frozen? ⟨g, 9, none⟩ = false := hB1.free 9
  have HB1 := Lib.hid hB1
  have hg1 := hB1.lt
  have HO1 := Lib.hid (only_trans (only_alloc w _ g) (only_below hb1 g))
  have hi := (Box.new w 39 #[.int .i64 60, .int .i64 jt, .int .i64 jf, .int .u32 k]).below hb1 (by simp)
  have i0 := hi.cell 0
  have hi3 := hi.lt
  clear hb1 hB1 hi
  simp only [List.getElem?_toArray, List.getElem?_cons_zero] at i0
  go_wp2_with fail
  refine (divide_by g t 60 O _ HS.out HB1.out HO0.out HOO.out).mono ?_
  rintro r w2 ⟨rfl, hb2, ho2⟩
  go_wp2
  go_ret
  exact ⟨rfl, hb2, only_trans HO1.out ho2⟩

set_option maxRecDepth 100000 in
set_option maxHeartbeats 4000000 in
theorem reckon_52z (g : Nat) (t : St) (jt jf k : Int) (w : World) (hs : t.s.Ok) (hb : Box w g 52 t.vals) (ho : operandOf 52 k t.s.x = 0) :
    Calls Try.prog 38 #[.pointer (some ⟨g, 0, none⟩), .agg #[.int .i64 52, .int .i64 jt, .int .i64 jf, .int .u32 k]] w (Stood g (.int .i64 2) t w) := by
  have HB := Lib.hid hb
  have HS := Lib.hid hs
  have hgl := hb.lt
  have a0 := hs.a0
  have a1 := hs.a1
  have HO := Lib.hid ho
  clear hb hs ho
  go_enter Try.func38, Try.ntmps38
  go_wp2_with fail
  refine (operand_any g t _ jt jf k _ (HB.out.alloc _)).mono ?_
  rw [HO.out]
  rintro r w1 ⟨rfl, hb1⟩
  have hB1 := (HB.out.alloc _).below hb1 (by simp; omega)
  have q0 : w1.cell? ⟨g, 9, none⟩ = some (.int .u32 t.s.a) := (hB1.cell 9).trans t.at_a
  have z0 : w1.frozen? ⟨g, 9, none⟩ = false := hB1.free 9
  have HB1 := Lib.hid hB1
  have hg1 := hB1.lt
  have HO1 := Lib.hid (only_trans (only_alloc w _ g) (only_below hb1 g))
  have hi := (Box.new w 39 #[.int .i64 52, .int .i64 jt, .int .i64 jf, .int .u32 k]).below hb1 (by simp)
  have i0 := hi.cell 0
  have hi3 := hi.lt
  clear hb1 hB1 hi
  simp only [List.getElem?_toArray, List.getElem?_cons_zero] at i0
  go_wp2_with fail
  refine (divide_k0 g t _ HB1.out).mono ?_
  rintro r w2 ⟨rfl, hb2, ho2⟩
  go_wp2
  go_ret
  exact ⟨rfl, hb2, only_trans HO1.out ho2⟩

set_option maxRecDepth 100000 in
set_option maxHeartbeats 4000000 in
theorem reckon_60z (g : Nat) (t : St) (jt jf k : Int) (w : World) (hs : t.s.Ok) (hb : Box w g 52 t.vals) (ho : operandOf 60 k t.s.x = 0) :
    Calls Try.prog 38 #[.pointer (some ⟨g, 0, none⟩), .agg #[.int .i64 60, .int .i64 jt, .int .i64 jf, .int .u32 k]] w (Stood g (.int .i64 1) ⟨t.d, t.s, t.p, 0⟩ w) := by
  have HB := Lib.hid hb
  have HS := Lib.hid hs
  have hgl := hb.lt
  have a0 := hs.a0
  have a1 := hs.a1
  have HO := Lib.hid ho
  clear hb hs ho
  go_enter Try.func38, Try.ntmps38
  go_wp2_with fail
  refine (operand_any g t _ jt jf k _ (HB.out.alloc _)).mono ?_
  rw [HO.out]
  rintro r w1 ⟨rfl, hb1⟩
  have hB1 := (HB.out.alloc _).below hb1 (by simp; omega)
  have q0 : w1.cell? ⟨g, 9, none⟩ = some (.int .u32 t.s.a) := (hB1.cell 9).trans t.at_a
  have z0 : w1.frozen? ⟨g, 9, none⟩ = false := hB1.free 9
  have HB1 := Lib.hid hB1
  have hg1 := hB1.lt
  have HO1 := Lib.hid (only_trans (only_alloc w _ g) (only_below hb1 g))
  have hi := (Box.new w 39 #[.int .i64 60, .int .i64 jt, .int .i64 jf, .int .u32 k]).below hb1 (by simp)
  have i0 := hi.cell 0
  have hi3 := hi.lt
  clear hb1 hB1 hi
  simp only [List.getElem?_toArray, List.getElem?_cons_zero] at i0
  go_wp2_with fail
  refine (divide_x0 g t _ HS.out HB1.out).mono ?_
  rintro r w2 ⟨rfl, hb2, ho2⟩
  go_wp2
  go_ret
  exact ⟨rfl, hb2, only_trans HO1.out ho2⟩

set_option maxRecDepth 100000 in
set_option maxHeartbeats 4000000 in
theorem reckon_none (g : Nat) (t : St) (c jt jf k O : Int) (w : World) (hs : t.s.Ok) (hb : Box w g 52 t.vals) (ho : operandOf c k t.s.x = O) (ha : isAlu c = false) (hn : (c == 132) = false) :
    Calls Try.prog 38 #[.pointer (some ⟨g, 0, none⟩), .agg #[.int .i64 c, .int .i64 jt, .int .i64 jf, .int .u32 k]] w (Stood g (.int .i64 2) t w) := by
  have HB := Lib.hid hb
  have HS := Lib.hid hs
  have hgl := hb.lt
  have HO := Lib.hid ho
  simp only [isAlu, aluCodes, List.contains_cons, List.contains_nil, Bool.or_eq_false_iff] at ha
  obtain ⟨c0, c1, c2, c3, c4, c5, c6, c7, c8, c9, c10, c11, c12, c13, c14, c15, c16, c17, _⟩ := ha
  clear hb hs ho
  go_enter Try.func38, Try.ntmps38
  go_wp2_with fail
  refine (operand_any g t _ jt jf k _ (HB.out.alloc _)).mono ?_
  rw [HO.out]
  rintro r w1 ⟨rfl, hb1⟩
  have hB1 := (HB.out.alloc _).below hb1 (by simp; omega)
  have q0 : w1.cell? ⟨g, 9, none⟩ = some (.int .u32 t.s.a) := (hB1.cell 9).trans t.at_a
  have z0 : w1.frozen? ⟨g, 9, none⟩ = false := hB1.free 9
  have HB1 := Lib.hid hB1
  have hg1 := hB1.lt
  have HO1 := Lib.hid (only_trans (only_alloc w _ g) (only_below hb1 g))
  have hi := (Box.new w 39 #[.int .i64 c, .int .i64 jt, .int .i64 jf, .int .u32 k]).below hb1 (by simp)
  have i0 := hi.cell 0
  have hi3 := hi.lt
  clear hb1 hB1 hi
  simp only [List.getElem?_toArray, List.getElem?_cons_zero] at i0
  go_wp2
  go_ret
  exact ⟨rfl, HB1.out, HO1.out⟩

/-- The arithmetic of two numbers, but division. -/
theorem reckon_alu (g : Nat) (t : St) (c jt jf k : Int) (w : World) (hs : t.s.Ok) (hb : Box w g 52 t.vals) (k0 : 0 ≤ k) (k1 : k ≤ 4294967295) (hc : isAlu c = true) (hnd : ¬ (c = 52 ∨ c = 60)) :
    Calls Try.prog 38 #[.pointer (some ⟨g, 0, none⟩), .agg #[.int .i64 c, .int .i64 jt, .int .i64 jf, .int .u32 k]] w (Stood g (.int .i64 0) ⟨t.d, { t.s with a := aluOf c t.s.a (other t.s c k) }, t.p, t.r⟩ w) := by
  have ho : operandOf c k t.s.x = other t.s c k := operand_alu c k t.s.x hc
  obtain ⟨o0, o1⟩ := other_bd t.s c k hs k0 k1
  generalize other t.s c k = O at ho o0 o1 ⊢
  rcases alu_mem hc with rfl | rfl | rfl | rfl | rfl | rfl | rfl | rfl | rfl | rfl | rfl | rfl | rfl | rfl | rfl | rfl | rfl | rfl
  · exact reckon_4 g t jt jf k O w hs hb ho o0 o1
  · exact reckon_12 g t jt jf k O w hs hb ho o0 o1
  · exact reckon_20 g t jt jf k O w hs hb ho o0 o1
  · exact reckon_28 g t jt jf k O w hs hb ho o0 o1
  · exact reckon_36 g t jt jf k O w hs hb ho o0 o1
  · exact reckon_44 g t jt jf k O w hs hb ho o0 o1
  · exact absurd (by omega) hnd
  · exact absurd (by omega) hnd
  · exact reckon_68 g t jt jf k O w hs hb ho o0 o1
  · exact reckon_76 g t jt jf k O w hs hb ho o0 o1
  · exact reckon_84 g t jt jf k O w hs hb ho o0 o1
  · exact reckon_92 g t jt jf k O w hs hb ho o0 o1
  · exact reckon_164 g t jt jf k O w hs hb ho o0 o1
  · exact reckon_172 g t jt jf k O w hs hb ho o0 o1
  · exact reckon_100 g t jt jf k O w hs hb ho o0 o1
  · exact reckon_108 g t jt jf k O w hs hb ho o0 o1
  · exact reckon_116 g t jt jf k O w hs hb ho o0 o1
  · exact reckon_124 g t jt jf k O w hs hb ho o0 o1

end Go.Proofs.Ytlghhnfpmekdnaa.Landed
