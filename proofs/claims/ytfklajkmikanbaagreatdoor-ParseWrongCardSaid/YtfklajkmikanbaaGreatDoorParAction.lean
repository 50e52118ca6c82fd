/- What the landed parser's action gives. Condition: what the start lays, as far as the library reads it. -/
import Derived.Test.YtfklajkmikanbaaGreatDoorPart21
namespace Go.Proofs.YtfklajkmikanbaaGreatDoor.LandedP
open Go.RowKit

section
variable {w : World} {g : Nat} {E : Env} {R : List Tk}


set_option maxRecDepth 100000 in
set_option maxHeartbeats 8000000 in
theorem action_0 (h0 : isL 1 wALLOW R = true) (h : RdrAt 66 w g E R Flt.none) :
    Calls Tryz.prog 36 #[.pointer (some ⟨g, 0, none⟩)] w (Gave 66 g E ActNew ActShape (actionX R) w) := by
  have HEQ : Hid (actionX R = .ok ((7, 0), R.tail)) := by
    show actionX R = _
    unfold actionX
    rw [if_pos h0]
  have H0 := Lib.hid h0
  have HGL := Lib.hid h.lt
  have HR0 := Lib.hid (h.alloc (.cells zAct 27))
  have HB0 := Lib.hid (Box.new w 27 zAct)
  have HG0 := Lib.hid (only_alloc w (.cells zAct 27) g)
  clear h h0
  go_enter Tryz.func36, Tryz.ntmps36
  have HS0 : Hid (Calls Tryz.prog 26 #[.pointer (some ⟨g, 0, none⟩), .int .i64 1, .string ⟨#[65, 76, 76, 79, 87]⟩] (w.alloc (.cells zAct 27)) (Took g E R (isL 1 wALLOW R) (w.alloc (.cells zAct 27)))) := by obtain ⟨A, c, h⟩ := HR0.out; exact take_any h 1 ⟨#[65, 76, 76, 79, 87]⟩
  rw [H0.out] at HS0
  go_wp2_with fail
  refine HS0.out.mono ?_
  rintro e w1 ⟨rfl, k1, l1⟩
  have HR1 : Hid (RdrAt 66 w1 g E R.tail Flt.none) := k1
  have HB1 := Lib.hid (box_only HB0.out (by have := HGL.out; omega) l1)
  have HG1 := Lib.hid (only_trans HG0.out l1)
  clear k1 l1 HS0 HR0 HB0 HG0
  obtain ⟨p0, p1, y0, y1, hl⟩ := box2 HB1.out
  go_wp2_with fail
  try simp only [Exit.inBlock, Exit.then]
  exact bodyPost_ret (results_box_tmp rfl _ _ w.heap.size 27 _ rfl (set2_box HB1.out) _ Tryz.underlying27 rfl actSize) rfl ⟨grow_new HG1.out set2_only (Nat.le_refl _), .inl ⟨(7, 0), R.tail, _, HEQ.out, rfl, ⟨rfl, by unfold I64; dsimp only; omega, by unfold I64; dsimp only; omega⟩, HR1.out.other set2_only HGL.out⟩⟩

set_option maxRecDepth 100000 in
set_option maxHeartbeats 8000000 in
theorem action_1 (h0 : isL 1 wALLOW R = false) (h1 : isL 1 wLOG R = true) (h : RdrAt 66 w g E R Flt.none) :
    Calls Tryz.prog 36 #[.pointer (some ⟨g, 0, none⟩)] w (Gave 66 g E ActNew ActShape (actionX R) w) := by
  have HEQ : Hid (actionX R = .ok ((6, 0), R.tail)) := by
    show actionX R = _
    unfold actionX
    rw [if_neg (by rw [h0]; decide), if_pos h1]
  have H0 := Lib.hid h0
  have H1 := Lib.hid h1
  have HGL := Lib.hid h.lt
  have HR0 := Lib.hid (h.alloc (.cells zAct 27))
  have HB0 := Lib.hid (Box.new w 27 zAct)
  have HG0 := Lib.hid (only_alloc w (.cells zAct 27) g)
  clear h h0 h1
  go_enter Tryz.func36, Tryz.ntmps36
  have HS0 : Hid (Calls Tryz.prog 26 #[.pointer (some ⟨g, 0, none⟩), .int .i64 1, .string ⟨#[65, 76, 76, 79, 87]⟩] (w.alloc (.cells zAct 27)) (Took g E R (isL 1 wALLOW R) (w.alloc (.cells zAct 27)))) := by obtain ⟨A, c, h⟩ := HR0.out; exact take_any h 1 ⟨#[65, 76, 76, 79, 87]⟩
  rw [H0.out] at HS0
  go_wp2_with fail
  refine HS0.out.mono ?_
  rintro e w1 ⟨rfl, k1, l1⟩
  have HR1 : Hid (RdrAt 66 w1 g E R Flt.none) := k1
  have HB1 := Lib.hid (box_only HB0.out (by have := HGL.out; omega) l1)
  have HG1 := Lib.hid (only_trans HG0.out l1)
  clear k1 l1 HS0 HR0 HB0 HG0
  have HS1 : Hid (Calls Tryz.prog 26 #[.pointer (some ⟨g, 0, none⟩), .int .i64 1, .string ⟨#[76, 79, 71]⟩] w1 (Took g E R (isL 1 wLOG R) w1)) := by obtain ⟨A, c, h⟩ := HR1.out; exact take_any h 1 ⟨#[76, 79, 71]⟩
  rw [H1.out] at HS1
  go_wp2_with fail
  refine HS1.out.mono ?_
  rintro e w2 ⟨rfl, k2, l2⟩
  have HR2 : Hid (RdrAt 66 w2 g E R.tail Flt.none) := k2
  have HB2 := Lib.hid (box_only HB1.out (by have := HGL.out; omega) l2)
  have HG2 := Lib.hid (only_trans HG1.out l2)
  clear k2 l2 HS1 HR1 HB1 HG1
  obtain ⟨p0, p1, y0, y1, hl⟩ := box2 HB2.out
  go_wp2_with fail
  try simp only [Exit.inBlock, Exit.then]
  exact bodyPost_ret (results_box_tmp rfl _ _ w.heap.size 27 _ rfl (set2_box HB2.out) _ Tryz.underlying27 rfl actSize) rfl ⟨grow_new HG2.out set2_only (Nat.le_refl _), .inl ⟨(6, 0), R.tail, _, HEQ.out, rfl, ⟨rfl, by unfold I64; dsimp only; omega, by unfold I64; dsimp only; omega⟩, HR2.out.other set2_only HGL.out⟩⟩

set_option maxRecDepth 100000 in
set_option maxHeartbeats 8000000 in
theorem action_2 (h0 : isL 1 wALLOW R = false) (h1 : isL 1 wLOG R = false) (h2 : isL 1 wKILL R = true) (h : RdrAt 66 w g E R Flt.none) :
    Calls Tryz.prog 36 #[.pointer (some ⟨g, 0, none⟩)] w (Gave 66 g E ActNew ActShape (actionX R) w) := by
  have HEQ : Hid (actionX R = .ok ((2, 0), R.tail)) := by
    show actionX R = _
    unfold actionX
    rw [if_neg (by rw [h0]; decide), if_neg (by rw [h1]; decide), if_pos h2]
  have H0 := Lib.hid h0
  have H1 := Lib.hid h1
  have H2 := Lib.hid h2
  have HGL := Lib.hid h.lt
  have HR0 := Lib.hid (h.alloc (.cells zAct 27))
  have HB0 := Lib.hid (Box.new w 27 zAct)
  have HG0 := Lib.hid (only_alloc w (.cells zAct 27) g)
  clear h h0 h1 h2
  go_enter Tryz.func36, Tryz.ntmps36
  have HS0 : Hid (Calls Tryz.prog 26 #[.pointer (some ⟨g, 0, none⟩), .int .i64 1, .string ⟨#[65, 76, 76, 79, 87]⟩] (w.alloc (.cells zAct 27)) (Took g E R (isL 1 wALLOW R) (w.alloc (.cells zAct 27)))) := by obtain ⟨A, c, h⟩ := HR0.out; exact take_any h 1 ⟨#[65, 76, 76, 79, 87]⟩
  rw [H0.out] at HS0
  go_wp2_with fail
  refine HS0.out.mono ?_
  rintro e w1 ⟨rfl, k1, l1⟩
  have HR1 : Hid (RdrAt 66 w1 g E R Flt.none) := k1
  have HB1 := Lib.hid (box_only HB0.out (by have := HGL.out; omega) l1)
  have HG1 := Lib.hid (only_trans HG0.out l1)
  clear k1 l1 HS0 HR0 HB0 HG0
  have HS1 : Hid (Calls Tryz.prog 26 #[.pointer (some ⟨g, 0, none⟩), .int .i64 1, .string ⟨#[76, 79, 71]⟩] w1 (Took g E R (isL 1 wLOG R) w1)) := by obtain ⟨A, c, h⟩ := HR1.out; exact take_any h 1 ⟨#[76, 79, 71]⟩
  rw [H1.out] at HS1
  go_wp2_with fail
  refine HS1.out.mono ?_
  rintro e w2 ⟨rfl, k2, l2⟩
  have HR2 : Hid (RdrAt 66 w2 g E R Flt.none) := k2
  have HB2 := Lib.hid (box_only HB1.out (by have := HGL.out; omega) l2)
  have HG2 := Lib.hid (only_trans HG1.out l2)
  clear k2 l2 HS1 HR1 HB1 HG1
  have HS2 : Hid (Calls Tryz.prog 26 #[.pointer (some ⟨g, 0, none⟩), .int .i64 1, .string ⟨#[75, 73, 76, 76]⟩] w2 (Took g E R (isL 1 wKILL R) w2)) := by obtain ⟨A, c, h⟩ := HR2.out; exact take_any h 1 ⟨#[75, 73, 76, 76]⟩
  rw [H2.out] at HS2
  go_wp2_with fail
  refine HS2.out.mono ?_
  rintro e w3 ⟨rfl, k3, l3⟩
  have HR3 : Hid (RdrAt 66 w3 g E R.tail Flt.none) := k3
  have HB3 := Lib.hid (box_only HB2.out (by have := HGL.out; omega) l3)
  have HG3 := Lib.hid (only_trans HG2.out l3)
  clear k3 l3 HS2 HR2 HB2 HG2
  obtain ⟨p0, p1, y0, y1, hl⟩ := box2 HB3.out
  go_wp2_with fail
  try simp only [Exit.inBlock, Exit.then]
  exact bodyPost_ret (results_box_tmp rfl _ _ w.heap.size 27 _ rfl (set2_box HB3.out) _ Tryz.underlying27 rfl actSize) rfl ⟨grow_new HG3.out set2_only (Nat.le_refl _), .inl ⟨(2, 0), R.tail, _, HEQ.out, rfl, ⟨rfl, by unfold I64; dsimp only; omega, by unfold I64; dsimp only; omega⟩, HR3.out.other set2_only HGL.out⟩⟩

set_option maxRecDepth 100000 in
set_option maxHeartbeats 8000000 in
theorem action_3 (h0 : isL 1 wALLOW R = false) (h1 : isL 1 wLOG R = false) (h2 : isL 1 wKILL R = false) (h3 : isL 1 wKILLP R = true) (h : RdrAt 66 w g E R Flt.none) :
    Calls Tryz.prog 36 #[.pointer (some ⟨g, 0, none⟩)] w (Gave 66 g E ActNew ActShape (actionX R) w) := by
  have HEQ : Hid (actionX R = .ok ((1, 0), R.tail)) := by
    show actionX R = _
    unfold actionX
    rw [if_neg (by rw [h0]; decide), if_neg (by rw [h1]; decide), if_neg (by rw [h2]; decide), if_pos h3]
  have H0 := Lib.hid h0
  have H1 := Lib.hid h1
  have H2 := Lib.hid h2
  have H3 := Lib.hid h3
  have HGL := Lib.hid h.lt
  have HR0 := Lib.hid (h.alloc (.cells zAct 27))
  have HB0 := Lib.hid (Box.new w 27 zAct)
  have HG0 := Lib.hid (only_alloc w (.cells zAct 27) g)
  clear h h0 h1 h2 h3
  go_enter Tryz.func36, Tryz.ntmps36
  have HS0 : Hid (Calls Tryz.prog 26 #[.pointer (some ⟨g, 0, none⟩), .int .i64 1, .string ⟨#[65, 76, 76, 79, 87]⟩] (w.alloc (.cells zAct 27)) (Took g E R (isL 1 wALLOW R) (w.alloc (.cells zAct 27)))) := by obtain ⟨A, c, h⟩ := HR0.out; exact take_any h 1 ⟨#[65, 76, 76, 79, 87]⟩
  rw [H0.out] at HS0
  go_wp2_with fail
  refine HS0.out.mono ?_
  rintro e w1 ⟨rfl, k1, l1⟩
  have HR1 : Hid (RdrAt 66 w1 g E R Flt.none) := k1
  have HB1 := Lib.hid (box_only HB0.out (by have := HGL.out; omega) l1)
  have HG1 := Lib.hid (only_trans HG0.out l1)
  clear k1 l1 HS0 HR0 HB0 HG0
  have HS1 : Hid (Calls Tryz.prog 26 #[.pointer (some ⟨g, 0, none⟩), .int .i64 1, .string ⟨#[76, 79, 71]⟩] w1 (Took g E R (isL 1 wLOG R) w1)) := by obtain ⟨A, c, h⟩ := HR1.out; exact take_any h 1 ⟨#[76, 79, 71]⟩
  rw [H1.out] at HS1
  go_wp2_with fail
  refine HS1.out.mono ?_
  rintro e w2 ⟨rfl, k2, l2⟩
  have HR2 : Hid (RdrAt 66 w2 g E R Flt.none) := k2
  have HB2 := Lib.hid (box_only HB1.out (by have := HGL.out; omega) l2)
  have HG2 := Lib.hid (only_trans HG1.out l2)
  clear k2 l2 HS1 HR1 HB1 HG1
  have HS2 : Hid (Calls Tryz.prog 26 #[.pointer (some ⟨g, 0, none⟩), .int .i64 1, .string ⟨#[75, 73, 76, 76]⟩] w2 (Took g E R (isL 1 wKILL R) w2)) := by obtain ⟨A, c, h⟩ := HR2.out; exact take_any h 1 ⟨#[75, 73, 76, 76]⟩
  rw [H2.out] at HS2
  go_wp2_with fail
  refine HS2.out.mono ?_
  rintro e w3 ⟨rfl, k3, l3⟩
  have HR3 : Hid (RdrAt 66 w3 g E R Flt.none) := k3
  have HB3 := Lib.hid (box_only HB2.out (by have := HGL.out; omega) l3)
  have HG3 := Lib.hid (only_trans HG2.out l3)
  clear k3 l3 HS2 HR2 HB2 HG2
  have HS3 : Hid (Calls Tryz.prog 26 #[.pointer (some ⟨g, 0, none⟩), .int .i64 1, .string ⟨#[75, 73, 76, 76, 95, 80, 82, 79, 67, 69, 83, 83]⟩] w3 (Took g E R (isL 1 wKILLP R) w3)) := by obtain ⟨A, c, h⟩ := HR3.out; exact take_any h 1 ⟨#[75, 73, 76, 76, 95, 80, 82, 79, 67, 69, 83, 83]⟩
  rw [H3.out] at HS3
  go_wp2_with fail
  refine HS3.out.mono ?_
  rintro e w4 ⟨rfl, k4, l4⟩
  have HR4 : Hid (RdrAt 66 w4 g E R.tail Flt.none) := k4
  have HB4 := Lib.hid (box_only HB3.out (by have := HGL.out; omega) l4)
  have HG4 := Lib.hid (only_trans HG3.out l4)
  clear k4 l4 HS3 HR3 HB3 HG3
  obtain ⟨p0, p1, y0, y1, hl⟩ := box2 HB4.out
  go_wp2_with fail
  try simp only [Exit.inBlock, Exit.then]
  exact bodyPost_ret (results_box_tmp rfl _ _ w.heap.size 27 _ rfl (set2_box HB4.out) _ Tryz.underlying27 rfl actSize) rfl ⟨grow_new HG4.out set2_only (Nat.le_refl _), .inl ⟨(1, 0), R.tail, _, HEQ.out, rfl, ⟨rfl, by unfold I64; dsimp only; omega, by unfold I64; dsimp only; omega⟩, HR4.out.other set2_only HGL.out⟩⟩

set_option maxRecDepth 100000 in
set_option maxHeartbeats 8000000 in
theorem action_4 (hE : ∀ W, E.laid W → Laid W) (h0 : isL 1 wALLOW R = false) (h1 : isL 1 wLOG R = false) (h2 : isL 1 wKILL R = false) (h3 : isL 1 wKILLP R = false) (h4 : isL 1 wTRAP R = true) (h : RdrAt 66 w g E R Flt.none) :
    Calls Tryz.prog 36 #[.pointer (some ⟨g, 0, none⟩)] w (Gave 66 g E ActNew ActShape (actionX R) w) := by
  have HEQ : Hid (actionX R = dataX 3 R.tail) := by
    show actionX R = _
    unfold actionX
    rw [if_neg (by rw [h0]; decide), if_neg (by rw [h1]; decide), if_neg (by rw [h2]; decide), if_neg (by rw [h3]; decide), if_pos h4]
  have H0 := Lib.hid h0
  have H1 := Lib.hid h1
  have H2 := Lib.hid h2
  have H3 := Lib.hid h3
  have H4 := Lib.hid h4
  have HGL := Lib.hid h.lt
  have HR0 := Lib.hid (h.alloc (.cells zAct 27))
  have HB0 := Lib.hid (Box.new w 27 zAct)
  have HG0 := Lib.hid (only_alloc w (.cells zAct 27) g)
  clear h h0 h1 h2 h3 h4
  go_enter Tryz.func36, Tryz.ntmps36
  have HS0 : Hid (Calls Tryz.prog 26 #[.pointer (some ⟨g, 0, none⟩), .int .i64 1, .string ⟨#[65, 76, 76, 79, 87]⟩] (w.alloc (.cells zAct 27)) (Took g E R (isL 1 wALLOW R) (w.alloc (.cells zAct 27)))) := by obtain ⟨A, c, h⟩ := HR0.out; exact take_any h 1 ⟨#[65, 76, 76, 79, 87]⟩
  rw [H0.out] at HS0
  go_wp2_with fail
  refine HS0.out.mono ?_
  rintro e w1 ⟨rfl, k1, l1⟩
  have HR1 : Hid (RdrAt 66 w1 g E R Flt.none) := k1
  have HB1 := Lib.hid (box_only HB0.out (by have := HGL.out; omega) l1)
  have HG1 := Lib.hid (only_trans HG0.out l1)
  clear k1 l1 HS0 HR0 HB0 HG0
  have HS1 : Hid (Calls Tryz.prog 26 #[.pointer (some ⟨g, 0, none⟩), .int .i64 1, .string ⟨#[76, 79, 71]⟩] w1 (Took g E R (isL 1 wLOG R) w1)) := by obtain ⟨A, c, h⟩ := HR1.out; exact take_any h 1 ⟨#[76, 79, 71]⟩
  rw [H1.out] at HS1
  go_wp2_with fail
  refine HS1.out.mono ?_
  rintro e w2 ⟨rfl, k2, l2⟩
  have HR2 : Hid (RdrAt 66 w2 g E R Flt.none) := k2
  have HB2 := Lib.hid (box_only HB1.out (by have := HGL.out; omega) l2)
  have HG2 := Lib.hid (only_trans HG1.out l2)
  clear k2 l2 HS1 HR1 HB1 HG1
  have HS2 : Hid (Calls Tryz.prog 26 #[.pointer (some ⟨g, 0, none⟩), .int .i64 1, .string ⟨#[75, 73, 76, 76]⟩] w2 (Took g E R (isL 1 wKILL R) w2)) := by obtain ⟨A, c, h⟩ := HR2.out; exact take_any h 1 ⟨#[75, 73, 76, 76]⟩
  rw [H2.out] at HS2
  go_wp2_with fail
  refine HS2.out.mono ?_
  rintro e w3 ⟨rfl, k3, l3⟩
  have HR3 : Hid (RdrAt 66 w3 g E R Flt.none) := k3
  have HB3 := Lib.hid (box_only HB2.out (by have := HGL.out; omega) l3)
  have HG3 := Lib.hid (only_trans HG2.out l3)
  clear k3 l3 HS2 HR2 HB2 HG2
  have HS3 : Hid (Calls Tryz.prog 26 #[.pointer (some ⟨g, 0, none⟩), .int .i64 1, .string ⟨#[75, 73, 76, 76, 95, 80, 82, 79, 67, 69, 83, 83]⟩] w3 (Took g E R (isL 1 wKILLP R) w3)) := by obtain ⟨A, c, h⟩ := HR3.out; exact take_any h 1 ⟨#[75, 73, 76, 76, 95, 80, 82, 79, 67, 69, 83, 83]⟩
  rw [H3.out] at HS3
  go_wp2_with fail
  refine HS3.out.mono ?_
  rintro e w4 ⟨rfl, k4, l4⟩
  have HR4 : Hid (RdrAt 66 w4 g E R Flt.none) := k4
  have HB4 := Lib.hid (box_only HB3.out (by have := HGL.out; omega) l4)
  have HG4 := Lib.hid (only_trans HG3.out l4)
  clear k4 l4 HS3 HR3 HB3 HG3
  have HS4 : Hid (Calls Tryz.prog 26 #[.pointer (some ⟨g, 0, none⟩), .int .i64 1, .string ⟨#[84, 82, 65, 80]⟩] w4 (Took g E R (isL 1 wTRAP R) w4)) := by obtain ⟨A, c, h⟩ := HR4.out; exact take_any h 1 ⟨#[84, 82, 65, 80]⟩
  rw [H4.out] at HS4
  go_wp2_with fail
  refine HS4.out.mono ?_
  rintro e w5 ⟨rfl, k5, l5⟩
  have HR5 : Hid (RdrAt 66 w5 g E R.tail Flt.none) := k5
  have HB5 := Lib.hid (box_only HB4.out (by have := HGL.out; omega) l5)
  have HG5 := Lib.hid (only_trans HG4.out l5)
  clear k5 l5 HS4 HR4 HB4 HG4
  have HD := Lib.hid (data_any hE 3 (by unfold I64; omega) HR5.out)
  go_wp2_with fail
  refine HD.out.mono ?_
  rintro e w8 ⟨l8, k8⟩
  have HB8 := Lib.hid (box_only HB5.out (by have := HGL.out; omega) l8)
  have HG8 := Lib.hid (only_trans HG5.out l8)
  obtain ⟨p0, p1, y0, y1, hl⟩ := box2 HB8.out
  clear l8 HD
  rcases k8 with ⟨⟨x, y⟩, R', v, hx, rfl, ⟨rfl, b1, b2⟩, hr⟩ | ⟨err, R', v, hx, rfl, ⟨x, y, rfl⟩, hr⟩
  · have HX := Lib.hid (HEQ.out.trans hx)
    have HRR := Lib.hid hr
    have HBB := Lib.hid (And.intro b1 b2)
    clear hx hr b1 b2
    go_wp2_with fail
    try simp only [Exit.inBlock, Exit.then]
    exact bodyPost_ret (results_box_tmp rfl _ _ w.heap.size 27 _ rfl (set2_box HB8.out) _ Tryz.underlying27 rfl actSize) rfl ⟨grow_new HG8.out set2_only (Nat.le_refl _), .inl ⟨(x, y), R', _, HX.out, rfl, ⟨rfl, HBB.out.1, HBB.out.2⟩, HRR.out.other set2_only HGL.out⟩⟩
  · have HX := Lib.hid (HEQ.out.trans hx)
    have HRR := Lib.hid hr
    clear hx hr
    go_wp2_with fail
    try simp only [Exit.inBlock, Exit.then]
    exact bodyPost_ret (results_box_tmp rfl _ _ w.heap.size 27 _ rfl (set2_box HB8.out) _ Tryz.underlying27 rfl actSize) rfl ⟨grow_new HG8.out set2_only (Nat.le_refl _), .inr ⟨err, R', _, HX.out, rfl, ⟨_, _, rfl⟩, HRR.out.other set2_only HGL.out⟩⟩

set_option maxRecDepth 100000 in
set_option maxHeartbeats 8000000 in
theorem action_5 (hE : ∀ W, E.laid W → Laid W) (h0 : isL 1 wALLOW R = false) (h1 : isL 1 wLOG R = false) (h2 : isL 1 wKILL R = false) (h3 : isL 1 wKILLP R = false) (h4 : isL 1 wTRAP R = false) (h5 : isL 1 wERRNO R = true) (h : RdrAt 66 w g E R Flt.none) :
    Calls Tryz.prog 36 #[.pointer (some ⟨g, 0, none⟩)] w (Gave 66 g E ActNew ActShape (actionX R) w) := by
  have HEQ : Hid (actionX R = dataX 4 R.tail) := by
    show actionX R = _
    unfold actionX
    rw [if_neg (by rw [h0]; decide), if_neg (by rw [h1]; decide), if_neg (by rw [h2]; decide), if_neg (by rw [h3]; decide), if_neg (by rw [h4]; decide), if_pos h5]
  have H0 := Lib.hid h0
  have H1 := Lib.hid h1
  have H2 := Lib.hid h2
  have H3 := Lib.hid h3
  have H4 := Lib.hid h4
  have H5 := Lib.hid h5
  have HGL := Lib.hid h.lt
  have HR0 := Lib.hid (h.alloc (.cells zAct 27))
  have HB0 := Lib.hid (Box.new w 27 zAct)
  have HG0 := Lib.hid (only_alloc w (.cells zAct 27) g)
  clear h h0 h1 h2 h3 h4 h5
  go_enter Tryz.func36, Tryz.ntmps36
  have HS0 : Hid (Calls Tryz.prog 26 #[.pointer (some ⟨g, 0, none⟩), .int .i64 1, .string ⟨#[65, 76, 76, 79, 87]⟩] (w.alloc (.cells zAct 27)) (Took g E R (isL 1 wALLOW R) (w.alloc (.cells zAct 27)))) := by obtain ⟨A, c, h⟩ := HR0.out; exact take_any h 1 ⟨#[65, 76, 76, 79, 87]⟩
  rw [H0.out] at HS0
  go_wp2_with fail
  refine HS0.out.mono ?_
  rintro e w1 ⟨rfl, k1, l1⟩
  have HR1 : Hid (RdrAt 66 w1 g E R Flt.none) := k1
  have HB1 := Lib.hid (box_only HB0.out (by have := HGL.out; omega) l1)
  have HG1 := Lib.hid (only_trans HG0.out l1)
  clear k1 l1 HS0 HR0 HB0 HG0
  have HS1 : Hid (Calls Tryz.prog 26 #[.pointer (some ⟨g, 0, none⟩), .int .i64 1, .string ⟨#[76, 79, 71]⟩] w1 (Took g E R (isL 1 wLOG R) w1)) := by obtain ⟨A, c, h⟩ := HR1.out; exact take_any h 1 ⟨#[76, 79, 71]⟩
  rw [H1.out] at HS1
  go_wp2_with fail
  refine HS1.out.mono ?_
  rintro e w2 ⟨rfl, k2, l2⟩
  have HR2 : Hid (RdrAt 66 w2 g E R Flt.none) := k2
  have HB2 := Lib.hid (box_only HB1.out (by have := HGL.out; omega) l2)
  have HG2 := Lib.hid (only_trans HG1.out l2)
  clear k2 l2 HS1 HR1 HB1 HG1
  have HS2 : Hid (Calls Tryz.prog 26 #[.pointer (some ⟨g, 0, none⟩), .int .i64 1, .string ⟨#[75, 73, 76, 76]⟩] w2 (Took g E R (isL 1 wKILL R) w2)) := by obtain ⟨A, c, h⟩ := HR2.out; exact take_any h 1 ⟨#[75, 73, 76, 76]⟩
  rw [H2.out] at HS2
  go_wp2_with fail
  refine HS2.out.mono ?_
  rintro e w3 ⟨rfl, k3, l3⟩
  have HR3 : Hid (RdrAt 66 w3 g E R Flt.none) := k3
  have HB3 := Lib.hid (box_only HB2.out (by have := HGL.out; omega) l3)
  have HG3 := Lib.hid (only_trans HG2.out l3)
  clear k3 l3 HS2 HR2 HB2 HG2
  have HS3 : Hid (Calls Tryz.prog 26 #[.pointer (some ⟨g, 0, none⟩), .int .i64 1, .string ⟨#[75, 73, 76, 76, 95, 80, 82, 79, 67, 69, 83, 83]⟩] w3 (Took g E R (isL 1 wKILLP R) w3)) := by obtain ⟨A, c, h⟩ := HR3.out; exact take_any h 1 ⟨#[75, 73, 76, 76, 95, 80, 82, 79, 67, 69, 83, 83]⟩
  rw [H3.out] at HS3
  go_wp2_with fail
  refine HS3.out.mono ?_
  rintro e w4 ⟨rfl, k4, l4⟩
  have HR4 : Hid (RdrAt 66 w4 g E R Flt.none) := k4
  have HB4 := Lib.hid (box_only HB3.out (by have := HGL.out; omega) l4)
  have HG4 := Lib.hid (only_trans HG3.out l4)
  clear k4 l4 HS3 HR3 HB3 HG3
  have HS4 : Hid (Calls Tryz.prog 26 #[.pointer (some ⟨g, 0, none⟩), .int .i64 1, .string ⟨#[84, 82, 65, 80]⟩] w4 (Took g E R (isL 1 wTRAP R) w4)) := by obtain ⟨A, c, h⟩ := HR4.out; exact take_any h 1 ⟨#[84, 82, 65, 80]⟩
  rw [H4.out] at HS4
  go_wp2_with fail
  refine HS4.out.mono ?_
  rintro e w5 ⟨rfl, k5, l5⟩
  have HR5 : Hid (RdrAt 66 w5 g E R Flt.none) := k5
  have HB5 := Lib.hid (box_only HB4.out (by have := HGL.out; omega) l5)
  have HG5 := Lib.hid (only_trans HG4.out l5)
  clear k5 l5 HS4 HR4 HB4 HG4
  have HS5 : Hid (Calls Tryz.prog 26 #[.pointer (some ⟨g, 0, none⟩), .int .i64 1, .string ⟨#[69, 82, 82, 78, 79]⟩] w5 (Took g E R (isL 1 wERRNO R) w5)) := by obtain ⟨A, c, h⟩ := HR5.out; exact take_any h 1 ⟨#[69, 82, 82, 78, 79]⟩
  rw [H5.out] at HS5
  go_wp2_with fail
  refine HS5.out.mono ?_
  rintro e w6 ⟨rfl, k6, l6⟩
  have HR6 : Hid (RdrAt 66 w6 g E R.tail Flt.none) := k6
  have HB6 := Lib.hid (box_only HB5.out (by have := HGL.out; omega) l6)
  have HG6 := Lib.hid (only_trans HG5.out l6)
  clear k6 l6 HS5 HR5 HB5 HG5
  have HD := Lib.hid (data_any hE 4 (by unfold I64; omega) HR6.out)
  go_wp2_with fail
  refine HD.out.mono ?_
  rintro e w8 ⟨l8, k8⟩
  have HB8 := Lib.hid (box_only HB6.out (by have := HGL.out; omega) l8)
  have HG8 := Lib.hid (only_trans HG6.out l8)
  obtain ⟨p0, p1, y0, y1, hl⟩ := box2 HB8.out
  clear l8 HD
  rcases k8 with ⟨⟨x, y⟩, R', v, hx, rfl, ⟨rfl, b1, b2⟩, hr⟩ | ⟨err, R', v, hx, rfl, ⟨x, y, rfl⟩, hr⟩
  · have HX := Lib.hid (HEQ.out.trans hx)
    have HRR := Lib.hid hr
    have HBB := Lib.hid (And.intro b1 b2)
    clear hx hr b1 b2
    go_wp2_with fail
    try simp only [Exit.inBlock, Exit.then]
    exact bodyPost_ret (results_box_tmp rfl _ _ w.heap.size 27 _ rfl (set2_box HB8.out) _ Tryz.underlying27 rfl actSize) rfl ⟨grow_new HG8.out set2_only (Nat.le_refl _), .inl ⟨(x, y), R', _, HX.out, rfl, ⟨rfl, HBB.out.1, HBB.out.2⟩, HRR.out.other set2_only HGL.out⟩⟩
  · have HX := Lib.hid (HEQ.out.trans hx)
    have HRR := Lib.hid hr
    clear hx hr
    go_wp2_with fail
    try simp only [Exit.inBlock, Exit.then]
    exact bodyPost_ret (results_box_tmp rfl _ _ w.heap.size 27 _ rfl (set2_box HB8.out) _ Tryz.underlying27 rfl actSize) rfl ⟨grow_new HG8.out set2_only (Nat.le_refl _), .inr ⟨err, R', _, HX.out, rfl, ⟨_, _, rfl⟩, HRR.out.other set2_only HGL.out⟩⟩

set_option maxRecDepth 100000 in
set_option maxHeartbeats 8000000 in
theorem action_6 (hE : ∀ W, E.laid W → Laid W) (h0 : isL 1 wALLOW R = false) (h1 : isL 1 wLOG R = false) (h2 : isL 1 wKILL R = false) (h3 : isL 1 wKILLP R = false) (h4 : isL 1 wTRAP R = false) (h5 : isL 1 wERRNO R = false) (h6 : isL 1 wTRACE R = true) (h : RdrAt 66 w g E R Flt.none) :
    Calls Tryz.prog 36 #[.pointer (some ⟨g, 0, none⟩)] w (Gave 66 g E ActNew ActShape (actionX R) w) := by
  have HEQ : Hid (actionX R = dataX 5 R.tail) := by
    show actionX R = _
    unfold actionX
    rw [if_neg (by rw [h0]; decide), if_neg (by rw [h1]; decide), if_neg (by rw [h2]; decide), if_neg (by rw [h3]; decide), if_neg (by rw [h4]; decide), if_neg (by rw [h5]; decide), if_pos h6]
  have H0 := Lib.hid h0
  have H1 := Lib.hid h1
  have H2 := Lib.hid h2
  have H3 := Lib.hid h3
  have H4 := Lib.hid h4
  have H5 := Lib.hid h5
  have H6 := Lib.hid h6
  have HGL := Lib.hid h.lt
  have HR0 := Lib.hid (h.alloc (.cells zAct 27))
  have HB0 := Lib.hid (Box.new w 27 zAct)
  have HG0 := Lib.hid (only_alloc w (.cells zAct 27) g)
  clear h h0 h1 h2 h3 h4 h5 h6
  go_enter Tryz.func36, Tryz.ntmps36
  have HS0 : Hid (Calls Tryz.prog 26 #[.pointer (some ⟨g, 0, none⟩), .int .i64 1, .string ⟨#[65, 76, 76, 79, 87]⟩] (w.alloc (.cells zAct 27)) (Took g E R (isL 1 wALLOW R) (w.alloc (.cells zAct 27)))) := by obtain ⟨A, c, h⟩ := HR0.out; exact take_any h 1 ⟨#[65, 76, 76, 79, 87]⟩
  rw [H0.out] at HS0
  go_wp2_with fail
  refine HS0.out.mono ?_
  rintro e w1 ⟨rfl, k1, l1⟩
  have HR1 : Hid (RdrAt 66 w1 g E R Flt.none) := k1
  have HB1 := Lib.hid (box_only HB0.out (by have := HGL.out; omega) l1)
  have HG1 := Lib.hid (only_trans HG0.out l1)
  clear k1 l1 HS0 HR0 HB0 HG0
  have HS1 : Hid (Calls Tryz.prog 26 #[.pointer (some ⟨g, 0, none⟩), .int .i64 1, .string ⟨#[76, 79, 71]⟩] w1 (Took g E R (isL 1 wLOG R) w1)) := by obtain ⟨A, c, h⟩ := HR1.out; exact take_any h 1 ⟨#[76, 79, 71]⟩
  rw [H1.out] at HS1
  go_wp2_with fail
  refine HS1.out.mono ?_
  rintro e w2 ⟨rfl, k2, l2⟩
  have HR2 : Hid (RdrAt 66 w2 g E R Flt.none) := k2
  have HB2 := Lib.hid (box_only HB1.out (by have := HGL.out; omega) l2)
  have HG2 := Lib.hid (only_trans HG1.out l2)
  clear k2 l2 HS1 HR1 HB1 HG1
  have HS2 : Hid (Calls Tryz.prog 26 #[.pointer (some ⟨g, 0, none⟩), .int .i64 1, .string ⟨#[75, 73, 76, 76]⟩] w2 (Took g E R (isL 1 wKILL R) w2)) := by obtain ⟨A, c, h⟩ := HR2.out; exact take_any h 1 ⟨#[75, 73, 76, 76]⟩
  rw [H2.out] at HS2
  go_wp2_with fail
  refine HS2.out.mono ?_
  rintro e w3 ⟨rfl, k3, l3⟩
  have HR3 : Hid (RdrAt 66 w3 g E R Flt.none) := k3
  have HB3 := Lib.hid (box_only HB2.out (by have := HGL.out; omega) l3)
  have HG3 := Lib.hid (only_trans HG2.out l3)
  clear k3 l3 HS2 HR2 HB2 HG2
  have HS3 : Hid (Calls Tryz.prog 26 #[.pointer (some ⟨g, 0, none⟩), .int .i64 1, .string ⟨#[75, 73, 76, 76, 95, 80, 82, 79, 67, 69, 83, 83]⟩] w3 (Took g E R (isL 1 wKILLP R) w3)) := by obtain ⟨A, c, h⟩ := HR3.out; exact take_any h 1 ⟨#[75, 73, 76, 76, 95, 80, 82, 79, 67, 69, 83, 83]⟩
  rw [H3.out] at HS3
  go_wp2_with fail
  refine HS3.out.mono ?_
  rintro e w4 ⟨rfl, k4, l4⟩
  have HR4 : Hid (RdrAt 66 w4 g E R Flt.none) := k4
  have HB4 := Lib.hid (box_only HB3.out (by have := HGL.out; omega) l4)
  have HG4 := Lib.hid (only_trans HG3.out l4)
  clear k4 l4 HS3 HR3 HB3 HG3
  have HS4 : Hid (Calls Tryz.prog 26 #[.pointer (some ⟨g, 0, none⟩), .int .i64 1, .string ⟨#[84, 82, 65, 80]⟩] w4 (Took g E R (isL 1 wTRAP R) w4)) := by obtain ⟨A, c, h⟩ := HR4.out; exact take_any h 1 ⟨#[84, 82, 65, 80]⟩
  rw [H4.out] at HS4
  go_wp2_with fail
  refine HS4.out.mono ?_
  rintro e w5 ⟨rfl, k5, l5⟩
  have HR5 : Hid (RdrAt 66 w5 g E R Flt.none) := k5
  have HB5 := Lib.hid (box_only HB4.out (by have := HGL.out; omega) l5)
  have HG5 := Lib.hid (only_trans HG4.out l5)
  clear k5 l5 HS4 HR4 HB4 HG4
  have HS5 : Hid (Calls Tryz.prog 26 #[.pointer (some ⟨g, 0, none⟩), .int .i64 1, .string ⟨#[69, 82, 82, 78, 79]⟩] w5 (Took g E R (isL 1 wERRNO R) w5)) := by obtain ⟨A, c, h⟩ := HR5.out; exact take_any h 1 ⟨#[69, 82, 82, 78, 79]⟩
  rw [H5.out] at HS5
  go_wp2_with fail
  refine HS5.out.mono ?_
  rintro e w6 ⟨rfl, k6, l6⟩
  have HR6 : Hid (RdrAt 66 w6 g E R Flt.none) := k6
  have HB6 := Lib.hid (box_only HB5.out (by have := HGL.out; omega) l6)
  have HG6 := Lib.hid (only_trans HG5.out l6)
  clear k6 l6 HS5 HR5 HB5 HG5
  have HS6 : Hid (Calls Tryz.prog 26 #[.pointer (some ⟨g, 0, none⟩), .int .i64 1, .string ⟨#[84, 82, 65, 67, 69]⟩] w6 (Took g E R (isL 1 wTRACE R) w6)) := by obtain ⟨A, c, h⟩ := HR6.out; exact take_any h 1 ⟨#[84, 82, 65, 67, 69]⟩
  rw [H6.out] at HS6
  go_wp2_with fail
  refine HS6.out.mono ?_
  rintro e w7 ⟨rfl, k7, l7⟩
  have HR7 : Hid (RdrAt 66 w7 g E R.tail Flt.none) := k7
  have HB7 := Lib.hid (box_only HB6.out (by have := HGL.out; omega) l7)
  have HG7 := Lib.hid (only_trans HG6.out l7)
  clear k7 l7 HS6 HR6 HB6 HG6
  have HD := Lib.hid (data_any hE 5 (by unfold I64; omega) HR7.out)
  go_wp2_with fail
  refine HD.out.mono ?_
  rintro e w8 ⟨l8, k8⟩
  have HB8 := Lib.hid (box_only HB7.out (by have := HGL.out; omega) l8)
  have HG8 := Lib.hid (only_trans HG7.out l8)
  obtain ⟨p0, p1, y0, y1, hl⟩ := box2 HB8.out
  clear l8 HD
  rcases k8 with ⟨⟨x, y⟩, R', v, hx, rfl, ⟨rfl, b1, b2⟩, hr⟩ | ⟨err, R', v, hx, rfl, ⟨x, y, rfl⟩, hr⟩
  · have HX := Lib.hid (HEQ.out.trans hx)
    have HRR := Lib.hid hr
    have HBB := Lib.hid (And.intro b1 b2)
    clear hx hr b1 b2
    go_wp2_with fail
    try simp only [Exit.inBlock, Exit.then]
    exact bodyPost_ret (results_box_tmp rfl _ _ w.heap.size 27 _ rfl (set2_box HB8.out) _ Tryz.underlying27 rfl actSize) rfl ⟨grow_new HG8.out set2_only (Nat.le_refl _), .inl ⟨(x, y), R', _, HX.out, rfl, ⟨rfl, HBB.out.1, HBB.out.2⟩, HRR.out.other set2_only HGL.out⟩⟩
  · have HX := Lib.hid (HEQ.out.trans hx)
    have HRR := Lib.hid hr
    clear hx hr
    go_wp2_with fail
    try simp only [Exit.inBlock, Exit.then]
    exact bodyPost_ret (results_box_tmp rfl _ _ w.heap.size 27 _ rfl (set2_box HB8.out) _ Tryz.underlying27 rfl actSize) rfl ⟨grow_new HG8.out set2_only (Nat.le_refl _), .inr ⟨err, R', _, HX.out, rfl, ⟨_, _, rfl⟩, HRR.out.other set2_only HGL.out⟩⟩

set_option maxRecDepth 100000 in
set_option maxHeartbeats 8000000 in
theorem action_7 (h0 : isL 1 wALLOW R = false) (h1 : isL 1 wLOG R = false) (h2 : isL 1 wKILL R = false) (h3 : isL 1 wKILLP R = false) (h4 : isL 1 wTRAP R = false) (h5 : isL 1 wERRNO R = false) (h6 : isL 1 wTRACE R = false) (h : RdrAt 66 w g E R Flt.none) :
    Calls Tryz.prog 36 #[.pointer (some ⟨g, 0, none⟩)] w (Gave 66 g E ActNew ActShape (actionX R) w) := by
  have HEQ : Hid (actionX R = .error (3, R)) := by
    show actionX R = _
    unfold actionX
    rw [if_neg (by rw [h0]; decide), if_neg (by rw [h1]; decide), if_neg (by rw [h2]; decide), if_neg (by rw [h3]; decide), if_neg (by rw [h4]; decide), if_neg (by rw [h5]; decide), if_neg (by rw [h6]; decide)]
  have H0 := Lib.hid h0
  have H1 := Lib.hid h1
  have H2 := Lib.hid h2
  have H3 := Lib.hid h3
  have H4 := Lib.hid h4
  have H5 := Lib.hid h5
  have H6 := Lib.hid h6
  have HGL := Lib.hid h.lt
  have HR0 := Lib.hid (h.alloc (.cells zAct 27))
  have HB0 := Lib.hid (Box.new w 27 zAct)
  have HG0 := Lib.hid (only_alloc w (.cells zAct 27) g)
  clear h h0 h1 h2 h3 h4 h5 h6
  go_enter Tryz.func36, Tryz.ntmps36
  have HS0 : Hid (Calls Tryz.prog 26 #[.pointer (some ⟨g, 0, none⟩), .int .i64 1, .string ⟨#[65, 76, 76, 79, 87]⟩] (w.alloc (.cells zAct 27)) (Took g E R (isL 1 wALLOW R) (w.alloc (.cells zAct 27)))) := by obtain ⟨A, c, h⟩ := HR0.out; exact take_any h 1 ⟨#[65, 76, 76, 79, 87]⟩
  rw [H0.out] at HS0
  go_wp2_with fail
  refine HS0.out.mono ?_
  rintro e w1 ⟨rfl, k1, l1⟩
  have HR1 : Hid (RdrAt 66 w1 g E R Flt.none) := k1
  have HB1 := Lib.hid (box_only HB0.out (by have := HGL.out; omega) l1)
  have HG1 := Lib.hid (only_trans HG0.out l1)
  clear k1 l1 HS0 HR0 HB0 HG0
  have HS1 : Hid (Calls Tryz.prog 26 #[.pointer (some ⟨g, 0, none⟩), .int .i64 1, .string ⟨#[76, 79, 71]⟩] w1 (Took g E R (isL 1 wLOG R) w1)) := by obtain ⟨A, c, h⟩ := HR1.out; exact take_any h 1 ⟨#[76, 79, 71]⟩
  rw [H1.out] at HS1
  go_wp2_with fail
  refine HS1.out.mono ?_
  rintro e w2 ⟨rfl, k2, l2⟩
  have HR2 : Hid (RdrAt 66 w2 g E R Flt.none) := k2
  have HB2 := Lib.hid (box_only HB1.out (by have := HGL.out; omega) l2)
  have HG2 := Lib.hid (only_trans HG1.out l2)
  clear k2 l2 HS1 HR1 HB1 HG1
  have HS2 : Hid (Calls Tryz.prog 26 #[.pointer (some ⟨g, 0, none⟩), .int .i64 1, .string ⟨#[75, 73, 76, 76]⟩] w2 (Took g E R (isL 1 wKILL R) w2)) := by obtain ⟨A, c, h⟩ := HR2.out; exact take_any h 1 ⟨#[75, 73, 76, 76]⟩
  rw [H2.out] at HS2
  go_wp2_with fail
  refine HS2.out.mono ?_
  rintro e w3 ⟨rfl, k3, l3⟩
  have HR3 : Hid (RdrAt 66 w3 g E R Flt.none) := k3
  have HB3 := Lib.hid (box_only HB2.out (by have := HGL.out; omega) l3)
  have HG3 := Lib.hid (only_trans HG2.out l3)
  clear k3 l3 HS2 HR2 HB2 HG2
  have HS3 : Hid (Calls Tryz.prog 26 #[.pointer (some ⟨g, 0, none⟩), .int .i64 1, .string ⟨#[75, 73, 76, 76, 95, 80, 82, 79, 67, 69, 83, 83]⟩] w3 (Took g E R (isL 1 wKILLP R) w3)) := by obtain ⟨A, c, h⟩ := HR3.out; exact take_any h 1 ⟨#[75, 73, 76, 76, 95, 80, 82, 79, 67, 69, 83, 83]⟩
  rw [H3.out] at HS3
  go_wp2_with fail
  refine HS3.out.mono ?_
  rintro e w4 ⟨rfl, k4, l4⟩
  have HR4 : Hid (RdrAt 66 w4 g E R Flt.none) := k4
  have HB4 := Lib.hid (box_only HB3.out (by have := HGL.out; omega) l4)
  have HG4 := Lib.hid (only_trans HG3.out l4)
  clear k4 l4 HS3 HR3 HB3 HG3
  have HS4 : Hid (Calls Tryz.prog 26 #[.pointer (some ⟨g, 0, none⟩), .int .i64 1, .string ⟨#[84, 82, 65, 80]⟩] w4 (Took g E R (isL 1 wTRAP R) w4)) := by obtain ⟨A, c, h⟩ := HR4.out; exact take_any h 1 ⟨#[84, 82, 65, 80]⟩
  rw [H4.out] at HS4
  go_wp2_with fail
  refine HS4.out.mono ?_
  rintro e w5 ⟨rfl, k5, l5⟩
  have HR5 : Hid (RdrAt 66 w5 g E R Flt.none) := k5
  have HB5 := Lib.hid (box_only HB4.out (by have := HGL.out; omega) l5)
  have HG5 := Lib.hid (only_trans HG4.out l5)
  clear k5 l5 HS4 HR4 HB4 HG4
  have HS5 : Hid (Calls Tryz.prog 26 #[.pointer (some ⟨g, 0, none⟩), .int .i64 1, .string ⟨#[69, 82, 82, 78, 79]⟩] w5 (Took g E R (isL 1 wERRNO R) w5)) := by obtain ⟨A, c, h⟩ := HR5.out; exact take_any h 1 ⟨#[69, 82, 82, 78, 79]⟩
  rw [H5.out] at HS5
  go_wp2_with fail
  refine HS5.out.mono ?_
  rintro e w6 ⟨rfl, k6, l6⟩
  have HR6 : Hid (RdrAt 66 w6 g E R Flt.none) := k6
  have HB6 := Lib.hid (box_only HB5.out (by have := HGL.out; omega) l6)
  have HG6 := Lib.hid (only_trans HG5.out l6)
  clear k6 l6 HS5 HR5 HB5 HG5
  have HS6 : Hid (Calls Tryz.prog 26 #[.pointer (some ⟨g, 0, none⟩), .int .i64 1, .string ⟨#[84, 82, 65, 67, 69]⟩] w6 (Took g E R (isL 1 wTRACE R) w6)) := by obtain ⟨A, c, h⟩ := HR6.out; exact take_any h 1 ⟨#[84, 82, 65, 67, 69]⟩
  rw [H6.out] at HS6
  go_wp2_with fail
  refine HS6.out.mono ?_
  rintro e w7 ⟨rfl, k7, l7⟩
  have HR7 : Hid (RdrAt 66 w7 g E R Flt.none) := k7
  have HB7 := Lib.hid (box_only HB6.out (by have := HGL.out; omega) l7)
  have HG7 := Lib.hid (only_trans HG6.out l7)
  clear k7 l7 HS6 HR6 HB6 HG6
  obtain ⟨p0, p1, y0, y1, hl⟩ := box2 HB7.out
  go_wp2_with fail
  try simp only [Exit.inBlock, Exit.then]
  exact bodyPost_ret (results_box_tmp rfl _ _ w.heap.size 27 _ rfl (set2_box HB7.out) _ Tryz.underlying27 rfl actSize) rfl ⟨grow_new HG7.out set2_only (Nat.le_refl _), .inr ⟨3, R, _, HEQ.out, rfl, ⟨_, _, rfl⟩, .inl ⟨rfl, HR7.out.other set2_only HGL.out⟩⟩⟩

theorem action_any (hE : ∀ W, E.laid W → Laid W) (h : RdrAt 66 w g E R Flt.none) :
    Calls Tryz.prog 36 #[.pointer (some ⟨g, 0, none⟩)] w (Gave 66 g E ActNew ActShape (actionX R) w) := by
  cases h0 : isL 1 wALLOW R
  case true => exact action_0  h0 h
  cases h1 : isL 1 wLOG R
  case true => exact action_1 h0 h1 h
  cases h2 : isL 1 wKILL R
  case true => exact action_2 h0 h1 h2 h
  cases h3 : isL 1 wKILLP R
  case true => exact action_3 h0 h1 h2 h3 h
  cases h4 : isL 1 wTRAP R
  case true => exact action_4 hE h0 h1 h2 h3 h4 h
  cases h5 : isL 1 wERRNO R
  case true => exact action_5 hE h0 h1 h2 h3 h4 h5 h
  cases h6 : isL 1 wTRACE R
  case true => exact action_6 hE h0 h1 h2 h3 h4 h5 h6 h
  exact action_7 h0 h1 h2 h3 h4 h5 h6 h
end

end Go.Proofs.YtfklajkmikanbaaGreatDoor.LandedP
