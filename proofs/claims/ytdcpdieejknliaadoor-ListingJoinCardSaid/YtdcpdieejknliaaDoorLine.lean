/- What the document's own line gives: an instruction, read. -/
import Derived.Test.YtdcpdieejknliaaDoorParts
import Derived.Test.YtdcpdieejknliaaDoorNumber
import Derived.Test.YtdcpdieejknliaaDoorCodeName
import Derived.Test.YtdcpdieejknliaaDoorIns
import Derived.Deep.DeepCutAuto
import Derived.Test.YtdcpdieejknliaaDoorResBox
namespace Go.Proofs.YtdcpdieejknliaaDoor
open Go.RowKit

/-- The code of a name; below 0: it is none. -/
def codeAt (p : List UInt8) : Int := codeTab.foldl (fun c t => if t.2 = p then t.1 else c) (-1)
/-- A line's parts: the code, and the texts of the three numbers. -/
def headOf : List (List UInt8) → Option (Int × List UInt8 × List UInt8 × List UInt8)
  | [h, c, x, y, z] => if h = [99, 111, 100, 101] ∧ (numOf c 65535).2 = true ∧ nameOf (numOf c 65535).1 = [] then some ((numOf c 65535).1, x, y, z) else none
  | [h, x, y, z] => if codeAt h < 0 then none else some (codeAt h, x, y, z)
  | _ => none
def lineTail (c : Int) (x y z : List UInt8) : Option Ins :=
  if (numOf x 255).2 && ((numOf y 255).2 && (numOf z 4294967295).2) then some ⟨c, (numOf x 255).1, (numOf y 255).1, (numOf z 4294967295).1⟩ else none
def lineRead (s : List UInt8) : Option Ins := match headOf (partsOf 32 s) with
  | none => none
  | some (c, x, y, z) => lineTail c x y z

/-- What line hands back. -/
def LineIs (o : Option Ins) (w : World) : Ending → World → Prop :=
  fun r w' => (∃ x : Ins, r = .returned (.tuple #[x.val, .bool o.isSome]) ∧ (∀ y, o = some y → x = y)) ∧ Below w.heap.size w w'

theorem num_bd (l : List UInt8) (m : Int) : 0 ≤ (numOf l m).1 ∧ ((numOf l m).2 = true → (numOf l m).1 ≤ m) := by
  unfold numOf
  split
  · exact ⟨by simp, fun h => by simpa using h⟩
  · exact ⟨by simp, fun h => by simp at h⟩

theorem num_le (l : List UInt8) (m : Int) : (numOf l m).1 ≤ 999999999999 := by
  unfold numOf
  split
  · rename_i h
    simp only [Bool.and_eq_true] at h
    have h1 := val_lt l h.2
    have h2 := (numShape_true h.1).2.1
    have h3 : 10 ^ l.length ≤ 10 ^ 12 := Nat.pow_le_pow_right (by omega) h2
    simp only
    omega
  · simp

theorem insSize : (Tryd.prog.info? 38).map (·.size) = some 4 := by kernel_rfl

theorem str_eq (a b : List UInt8) : ((strOf a).toList == b) = (a == b) := by rw [strOf_toList]

set_option maxRecDepth 100000 in
set_option maxHeartbeats 4000000 in
theorem line_else (s : ByteArray) (ps : List (List UInt8)) (w : World) (hs : s.size ≤ 1099511627776) (hp : partsOf 32 s.data.toList = ps) (h4 : ps.length ≠ 4) (h5 : ps.length ≠ 5) :
    Calls Tryd.prog 16 #[.string s] w (LineIs (lineRead s.data.toList) w) := by
  have HR : Hid (lineRead s.data.toList = none) := by
    unfold Hid lineRead
    rw [hp]
    match ps, h4, h5 with
    | [], _, _ => rfl
    | [_], _, _ => rfl
    | [_, _], _, _ => rfl
    | [_, _, _], _, _ => rfl
    | [_, _, _, _], h4, _ => exact absurd rfl h4
    | [_, _, _, _, _], _, h5 => exact absurd rfl h5
    | _ :: _ :: _ :: _ :: _ :: _ :: _, _, _ => rfl
  have HC : Hid (∀ W : World, Calls Tryd.prog 15 #[.string s, .int .u8 32] W (NewRow 9 1 ps.length (strsV ps) W)) := fun W => by
    have := parts_any s 32 W hs
    rw [hp] at this
    exact this
  generalize ps.length = N at h4 h5 HC
  have h4' : ((N : Int) == 4) = false := by rw [beq_eq_false_iff_ne]; omega
  have h5' : ((N : Int) == 5) = false := by rw [beq_eq_false_iff_ne]; omega
  clear hp h4 h5
  go_enter Tryd.func16, Tryd.ntmps16
  go_wp2_with fail
  refine (HC.out _).mono ?_
  rintro r w1 ⟨v1, rfl, hown, hb1⟩
  obtain ⟨A1, k1, rfl, hk1, hl1⟩ := own_form hown
  have hbr := (Box.new w 38 #[.int .i64 0, .int .i64 0, .int .i64 0, .int .u32 0]).below hb1 (by simp)
  have HN1 := Lib.hid (((Below.refl w.heap.size w).alloc (Nat.le_refl _) (.cells #[.int .i64 0, .int .i64 0, .int .i64 0, .int .u32 0] 38)).trans (hb1.mono (by simp)))
  have HBR := Lib.hid hbr
  have g1 := hbr.lt
  have r0 := hbr.cell 0
  have r1 := hbr.cell 1
  have r2 := hbr.cell 2
  have r3 := hbr.cell 3
  simp only [List.getElem?_toArray, List.getElem?_cons_zero, List.getElem?_cons_succ] at r0 r1 r2 r3
  have f0 := hbr.free 0
  have f1 := hbr.free 1
  have f2 := hbr.free 2
  have f3 := hbr.free 3
  clear hown hl1 hb1 hbr
  go_wp2
  refine bodyPost_ret (v := .tuple #[.agg #[.int .i64 0, .int .i64 0, .int .i64 0, .int .u32 0], .bool false]) (by simp [results, Tryd.results16, go_sem, *]) rfl ⟨⟨⟨0, 0, 0, 0⟩, by rw [HR.out]; rfl, fun y hy => by rw [HR.out] at hy; cases hy⟩, ?_⟩
  with_reducible refine below_alloc ?_ (Nat.le_refl _) _
  iterate 4 (with_reducible refine below_set (Nat.le_refl _) ?_)
  exact HN1.out

set_option maxRecDepth 100000 in
set_option maxHeartbeats 4000000 in
theorem line_five (s : ByteArray) (h c x y z : List UInt8) (w : World) (hs : s.size ≤ 1099511627776) (hp : partsOf 32 s.data.toList = [h, c, x, y, z]) (hh : ¬ h = [99, 111, 100, 101]) :
    Calls Tryd.prog 16 #[.string s] w (LineIs (lineRead s.data.toList) w) := by
  have HR : Hid (lineRead s.data.toList = none) := by
    unfold Hid lineRead
    rw [hp]
    simp only [headOf]
    rw [if_neg (fun q => hh q.1)]
  have HC : Hid (∀ W : World, Calls Tryd.prog 15 #[.string s, .int .u8 32] W (NewRow 9 1 5 (strsV [h, c, x, y, z]) W)) := fun W => by
    have := parts_any s 32 W hs
    rw [hp] at this
    exact this
  have hq : ((strOf h).toList == [99, 111, 100, 101]) = false := by rw [str_eq, beq_eq_false_iff_ne]; exact hh
  clear hp hh
  go_enter Tryd.func16, Tryd.ntmps16
  go_wp2_with fail
  refine (HC.out _).mono ?_
  rintro r w1 ⟨v1, rfl, hown, hb1⟩
  obtain ⟨A1, k1, rfl, hk1, hl1⟩ := own_form hown
  obtain ⟨b, o, rfl, hb, hc⟩ := hl1.2 (by simp)
  have p0 := hc 0 (.string (strOf h)) rfl
  rw [Nat.add_zero] at p0
  clear hc
  have hbr := (Box.new w 38 #[.int .i64 0, .int .i64 0, .int .i64 0, .int .u32 0]).below hb1 (by simp)
  have HN1 := Lib.hid (((Below.refl w.heap.size w).alloc (Nat.le_refl _) (.cells #[.int .i64 0, .int .i64 0, .int .i64 0, .int .u32 0] 38)).trans (hb1.mono (by simp)))
  have HBR := Lib.hid hbr
  have g1 := hbr.lt
  have r0 := hbr.cell 0
  have r1 := hbr.cell 1
  have r2 := hbr.cell 2
  have r3 := hbr.cell 3
  simp only [List.getElem?_toArray, List.getElem?_cons_zero, List.getElem?_cons_succ] at r0 r1 r2 r3
  have f0 := hbr.free 0
  have f1 := hbr.free 1
  have f2 := hbr.free 2
  have f3 := hbr.free 3
  clear hown hl1 hb1 hbr
  go_wp2
  refine bodyPost_ret (v := .tuple #[.agg #[.int .i64 0, .int .i64 0, .int .i64 0, .int .u32 0], .bool false]) (by simp [results, Tryd.results16, go_sem, *]) rfl ⟨⟨⟨0, 0, 0, 0⟩, by rw [HR.out]; rfl, fun y hy => by rw [HR.out] at hy; cases hy⟩, ?_⟩
  with_reducible refine below_alloc ?_ (Nat.le_refl _) _
  iterate 4 (with_reducible refine below_set (Nat.le_refl _) ?_)
  exact HN1.out

set_option maxRecDepth 100000 in
set_option maxHeartbeats 8000000 in
theorem line_code (s : ByteArray) (h c x y z : List UInt8) (w : World) (hs : s.size ≤ 1099511627776) (hp : partsOf 32 s.data.toList = [h, c, x, y, z]) (hh : h = [99, 111, 100, 101]) :
    Calls Tryd.prog 16 #[.string s] w (LineIs (lineRead s.data.toList) w) := by
  have HL : Hid (lineRead s.data.toList = if (numOf c 65535).2 = true ∧ nameOf (numOf c 65535).1 = [] then lineTail (numOf c 65535).1 x y z else none) := by
    unfold Hid lineRead
    rw [hp]
    simp only [headOf, hh, true_and]
    by_cases hq : (numOf c 65535).2 = true ∧ nameOf (numOf c 65535).1 = []
    · rw [if_pos hq, if_pos hq]
    · rw [if_neg hq, if_neg hq]
  have HC : Hid (∀ W : World, Calls Tryd.prog 15 #[.string s, .int .u8 32] W (NewRow 9 1 5 (strsV [h, c, x, y, z]) W)) := fun W => by
    have := parts_any s 32 W hs
    rw [hp] at this
    exact this
  have hq : ((strOf h).toList == [99, 111, 100, 101]) = true := by rw [str_eq, hh]; rfl
  clear hp hh
  go_enter Tryd.func16, Tryd.ntmps16
  go_wp2_with fail
  refine (HC.out _).mono ?_
  rintro r w1 ⟨v1, rfl, hown, hb1⟩
  obtain ⟨A1, k1, rfl, hk1, hl1⟩ := own_form hown
  obtain ⟨b, o, rfl, hb, hc⟩ := hl1.2 (by simp)
  have p0 := hc 0 (.string (strOf h)) rfl
  have p1 := hc 1 (.string (strOf c)) rfl
  have p2 := hc 2 (.string (strOf x)) rfl
  have p3 := hc 3 (.string (strOf y)) rfl
  have p4 := hc 4 (.string (strOf z)) rfl
  rw [Nat.add_zero] at p0
  clear hc
  have hbr := (Box.new w 38 #[.int .i64 0, .int .i64 0, .int .i64 0, .int .u32 0]).below hb1 (by simp)
  have HN1 := Lib.hid (((Below.refl w.heap.size w).alloc (Nat.le_refl _) (.cells #[.int .i64 0, .int .i64 0, .int .i64 0, .int .u32 0] 38)).trans (hb1.mono (by simp)))
  have HBR := Lib.hid hbr
  have g1 := hbr.lt
  have r0 := hbr.cell 0
  have r1 := hbr.cell 1
  have r2 := hbr.cell 2
  have r3 := hbr.cell 3
  simp only [List.getElem?_toArray, List.getElem?_cons_zero, List.getElem?_cons_succ] at r0 r1 r2 r3
  have f0 := hbr.free 0
  have f1 := hbr.free 1
  have f2 := hbr.free 2
  have f3 := hbr.free 3
  clear hown hl1 hb1 hbr
  have hN := num_bd c 65535
  go_wp2_with fail
  refine (number_any (strOf c) 65535 _).mono ?_
  rintro r w2 ⟨rfl, rfl⟩
  rw [strOf_data]
  generalize numOf c 65535 = N at hN HL ⊢
  obtain ⟨cv, cb⟩ := N
  simp only at hN
  obtain ⟨n0, n1⟩ := hN
  cases cb
  · have HR : Hid (lineRead s.data.toList = none) := by rw [HL.out, if_neg (by simp)]; rfl
    clear HL
    go_wp2
    refine bodyPost_ret (v := .tuple #[.agg #[.int .i64 0, .int .i64 0, .int .i64 0, .int .u32 0], .bool false]) (by simp [results, Tryd.results16, go_sem, *]) rfl ⟨⟨⟨0, 0, 0, 0⟩, by rw [HR.out]; rfl, fun y hy => by rw [HR.out] at hy; cases hy⟩, ?_⟩
    with_reducible refine below_alloc ?_ (Nat.le_refl _) _
    iterate 4 (with_reducible refine below_set (Nat.le_refl _) ?_)
    exact HN1.out
  · have n2 := n1 rfl
    clear n1
    have hx := Box.new w1 38 #[.int .i64 (-1), .int .i64 0, .int .i64 0, .int .u32 0]
    have HX := Lib.hid hx
    clear hx
    go_wp2_with fail
    refine (codeName_any cv _).mono ?_
    rintro r w3 ⟨rfl, hb3⟩
    have hx3 := HX.out.below hb3 (by simp)
    have hr3 := (HBR.out.alloc (.cells #[.int .i64 (-1), .int .i64 0, .int .i64 0, .int .u32 0] 38)).below hb3 (by simp; omega)
    have HN3 := Lib.hid ((HN1.out.alloc HN1.out.size (.cells #[.int .i64 (-1), .int .i64 0, .int .i64 0, .int .u32 0] 38)).trans (hb3.mono (by have := HN1.out.size; simp; omega)))
    have u2 := (hb3.cell (p := ⟨b, o + 2, none⟩) (by simp; omega)).trans ((World.cell?_alloc_lt w1 _ ⟨b, o + 2, none⟩ hb).trans p2)
    have u3 := (hb3.cell (p := ⟨b, o + 3, none⟩) (by simp; omega)).trans ((World.cell?_alloc_lt w1 _ ⟨b, o + 3, none⟩ hb).trans p3)
    have u4 := (hb3.cell (p := ⟨b, o + 4, none⟩) (by simp; omega)).trans ((World.cell?_alloc_lt w1 _ ⟨b, o + 4, none⟩ hb).trans p4)
    have x0 := hx3.cell 0
    have x1 := hx3.cell 1
    have x2 := hx3.cell 2
    have x3 := hx3.cell 3
    have s0 := hr3.cell 0
    have s1 := hr3.cell 1
    have s2 := hr3.cell 2
    have s3 := hr3.cell 3
    simp only [List.getElem?_toArray, List.getElem?_cons_zero, List.getElem?_cons_succ] at x0 x1 x2 x3 s0 s1 s2 s3
    have fx0 := hx3.free 0
    have fx1 := hx3.free 1
    have fx2 := hx3.free 2
    have fx3 := hx3.free 3
    have fs0 := hr3.free 0
    have fs1 := hr3.free 1
    have fs2 := hr3.free 2
    have fs3 := hr3.free 3
    have HRB := Lib.hid hr3
    have lx := hx3.lt
    have ls := hr3.lt
    clear hb3 hx3 hr3 HX HBR p0 p1 p2 p3 p4 r0 r1 r2 r3 f0 f1 f2 f3
    by_cases hne : nameOf cv = []
    · have HL' : Hid (lineRead s.data.toList = lineTail cv x y z) := by rw [HL.out, if_pos (by simp [hne])]; rfl
      have h1 : (strOf (nameOf cv)).toList = [] := by rw [strOf_toList, hne]
      have h2 : ((strOf (nameOf cv)).toList == []) = true := by rw [strOf_toList, hne]; rfl
      have h3 : (strOf (nameOf cv)).toList.isEmpty = true := by rw [strOf_toList, hne]; rfl
      clear HL hne
      go_wp2_with fail
      refine (number_any (strOf x) 255 _).mono ?_
      rintro r w4 ⟨rfl, rfl⟩
      rw [strOf_data]
      have bx := num_bd x 255
      have cx := num_le x 255
      generalize hX : numOf x 255 = X at bx cx ⊢
      have HX := Lib.hid hX
      clear hX
      obtain ⟨xv, xb⟩ := X
      simp only at bx cx
      obtain ⟨dx, ex⟩ := bx
      have Ex := Lib.hid ex
      clear ex
      go_wp2_with fail
      refine (number_any (strOf y) 255 _).mono ?_
      rintro r w5 ⟨rfl, rfl⟩
      rw [strOf_data]
      have nby := num_bd y 255
      have cy := num_le y 255
      generalize hY : numOf y 255 = Y at nby cy ⊢
      have HY := Lib.hid hY
      clear hY
      obtain ⟨yv, yb⟩ := Y
      simp only at nby cy
      obtain ⟨dy, ey⟩ := nby
      have Ey := Lib.hid ey
      clear ey
      go_wp2_with fail
      refine (number_any (strOf z) 4294967295 _).mono ?_
      rintro r w6 ⟨rfl, rfl⟩
      rw [strOf_data]
      have bz := num_bd z 4294967295
      have cz := num_le z 4294967295
      generalize hZ : numOf z 4294967295 = Z at bz cz ⊢
      have HZ := Lib.hid hZ
      clear hZ
      obtain ⟨zv, zb⟩ := Z
      simp only at bz cz
      obtain ⟨dz, ez⟩ := bz
      have Ez := Lib.hid ez
      clear ez
      have HT : Hid (lineRead s.data.toList = if xb && (yb && zb) then some ⟨cv, xv, yv, zv⟩ else none) := by
        unfold Hid
        rw [HL'.out, lineTail, HX.out, HY.out, HZ.out]
      clear HL' HX HY HZ
      cases xb <;> cases yb <;> cases zb
      case true.true.true =>
        have hz := Ez.out rfl
        have hzz : zv % 4294967296 = zv := by omega
        have HZZ := Lib.hid hzz
        clear hz hzz
        go_wp2_with fail
        have hbx := box_four (a := .int .i64 cv) (b := .int .i64 xv) (c := .int .i64 yv) (d := .int .u32 (zv % 4294967296)) (((((HRB.out.other (i := 0) (u := .int .i64 cv) (Nat.ne_of_lt g1)).other (i := 1) (u := .int .i64 xv) (Nat.ne_of_lt g1)).other (i := 2) (u := .int .i64 yv) (Nat.ne_of_lt g1)).other (i := 3) (u := .int .u32 (zv % 4294967296)) (Nat.ne_of_lt g1)))
        refine bodyPost_ret (results_box_tmp rfl _ _ w.heap.size 38 _ ?q1 hbx _ Tryd.underlying38 ?q2 ?q3) ?q4 ?q5
        case q2 => rfl
        case q3 => exact insSize
        case q1 => rfl
        case q4 => rfl
        case q5 =>
          refine ⟨⟨⟨cv, xv, yv, zv % 4294967296⟩, ?_, ?_⟩, ?_⟩
          · rw [HT.out]; rfl
          · intro y hy
            rw [HT.out] at hy
            rw [HZZ.out]
            exact Option.some.inj hy
          · have hle := HN1.out.size
            iterate 4 (with_reducible refine below_set (Nat.le_refl _) ?_)
            iterate 4 (with_reducible refine below_set hle ?_)
            exact HN3.out
      all_goals
        go_wp2_with fail
        have hbx := box_four (a := .int .i64 cv) (b := .int .i64 xv) (c := .int .i64 yv) (d := .int .u32 (zv % 4294967296)) (((((HRB.out.other (i := 0) (u := .int .i64 cv) (Nat.ne_of_lt g1)).other (i := 1) (u := .int .i64 xv) (Nat.ne_of_lt g1)).other (i := 2) (u := .int .i64 yv) (Nat.ne_of_lt g1)).other (i := 3) (u := .int .u32 (zv % 4294967296)) (Nat.ne_of_lt g1)))
        refine bodyPost_ret (results_box_tmp rfl _ _ w.heap.size 38 _ ?e1 hbx _ Tryd.underlying38 ?e2 ?e3) ?e4 ?e5
        case e2 => rfl
        case e3 => exact insSize
        case e1 => rfl
        case e4 => rfl
        case e5 =>
          refine ⟨⟨⟨cv, xv, yv, zv % 4294967296⟩, ?_, ?_⟩, ?_⟩
          · rw [HT.out]; rfl
          · intro y hy
            rw [HT.out] at hy
            cases hy
          · have hle := HN1.out.size
            iterate 4 (with_reducible refine below_set (Nat.le_refl _) ?_)
            iterate 4 (with_reducible refine below_set hle ?_)
            exact HN3.out
    · have HR : Hid (lineRead s.data.toList = none) := by rw [HL.out, if_neg (fun q => hne q.2)]; rfl
      obtain ⟨h3, h2⟩ := strOf_empty _ hne
      clear HL hne
      go_wp2
      refine bodyPost_ret (v := .tuple #[.agg #[.int .i64 0, .int .i64 0, .int .i64 0, .int .u32 0], .bool false]) (by simp [results, Tryd.results16, go_sem, *]) rfl ⟨⟨⟨0, 0, 0, 0⟩, by rw [HR.out]; rfl, fun y hy => by rw [HR.out] at hy; cases hy⟩, ?_⟩
      iterate 4 (with_reducible refine below_set (Nat.le_refl _) ?_)
      exact HN3.out


end Go.Proofs.YtdcpdieejknliaaDoor
