/- What the document's own line gives: a line of four parts. -/
import Derived.Test.YtdcpdieejknliaaDoorLine
import Derived.BigQuiet
namespace Go.Proofs.YtdcpdieejknliaaDoor
open Go.RowKit

def codeUpto (p : List UInt8) (k : Nat) : Int := (codeTab.take k).foldl (fun c t => if t.2 = p then t.1 else c) (-1)
theorem codeUpto_step (p : List UInt8) (k : Nat) (t : Int × List UInt8) (h : codeTab[k]? = some t) : codeUpto p (k + 1) = if t.2 = p then t.1 else codeUpto p k := by
  unfold codeUpto
  rw [take_one h, List.foldl_append]
  rfl
theorem codeUpto_all (p : List UInt8) : codeUpto p 41 = codeAt p := rfl
theorem codeAt_bd (p : List UInt8) : -1 ≤ codeAt p ∧ codeAt p ≤ 65535 := by
  have h : ∀ l : List (Int × List UInt8), (∀ t ∈ l, -1 ≤ t.1 ∧ t.1 ≤ 65535) → ∀ c : Int, -1 ≤ c ∧ c ≤ 65535 → -1 ≤ l.foldl (fun c t => if t.2 = p then t.1 else c) c ∧ l.foldl (fun c t => if t.2 = p then t.1 else c) c ≤ 65535 := by
    intro l
    induction l with
    | nil => intro _ c hc; exact hc
    | cons t r ih =>
      intro hl c hc
      rw [List.foldl_cons]
      refine ih (fun u hu => hl u (List.mem_cons_of_mem _ hu)) _ ?_
      split
      · exact hl t (List.mem_cons_self ..)
      · exact hc
  exact h codeTab (by decide) (-1) (by omega)

theorem only_drewN {a w : World} {g : Nat} (h : a.grownBy w (some g)) (n : Nat) : a.grownBy (w.drewN n) (some g) := ⟨h.os, h.tape, h.output, h.size, h.block⟩

/-- Where the loop over the codes stands. -/
def Finding (w : World) (gx : Nat) (p : List UInt8) (i : Value) (W wr : World) : Prop :=
  ∃ k : Nat, k ≤ 41 ∧ i = .int .i64 k ∧ Box wr gx 38 #[.int .i64 (codeUpto p k), .int .i64 0, .int .i64 0, .int .u32 0] ∧ W.grownBy wr (some gx) ∧ Below w.heap.size w wr

set_option maxRecDepth 100000 in
set_option maxHeartbeats 8000000 in
theorem line_four (s : ByteArray) (h x y z : List UInt8) (w : World) (hs : s.size ≤ 1099511627776) (hp : partsOf 32 s.data.toList = [h, x, y, z]) :
    Calls Tryd.prog 16 #[.string s] w (LineIs (lineRead s.data.toList) w) := by
  have HL : Hid (lineRead s.data.toList = if codeAt h < 0 then none else lineTail (codeAt h) x y z) := by
    unfold Hid lineRead
    rw [hp]
    simp only [headOf]
    by_cases hq : codeAt h < 0
    · rw [if_pos hq, if_pos hq]
    · rw [if_neg hq, if_neg hq]
  have HC : Hid (∀ W : World, Calls Tryd.prog 15 #[.string s, .int .u8 32] W (NewRow 9 1 4 (strsV [h, x, y, z]) W)) := fun W => by
    have := parts_any s 32 W hs
    rw [hp] at this
    exact this
  clear hp
  go_enter Tryd.func16, Tryd.ntmps16
  go_wp2_with fail
  refine (HC.out _).mono ?_
  rintro r w1 ⟨v1, rfl, hown, hb1⟩
  obtain ⟨A1, k1, rfl, hk1, hl1⟩ := own_form hown
  obtain ⟨b, o, rfl, hb, hc⟩ := hl1.2 (by simp)
  have p0 := hc 0 (.string (strOf h)) rfl
  have p2 := hc 1 (.string (strOf x)) rfl
  have p3 := hc 2 (.string (strOf y)) rfl
  have p4 := hc 3 (.string (strOf z)) rfl
  rw [Nat.add_zero] at p0
  clear hc
  have hbr := (Box.new w 38 #[.int .i64 0, .int .i64 0, .int .i64 0, .int .u32 0]).below hb1 (by simp)
  have HN1 := Lib.hid (((Below.refl w.heap.size w).alloc (Nat.le_refl _) (.cells #[.int .i64 0, .int .i64 0, .int .i64 0, .int .u32 0] 38)).trans (hb1.mono (by simp)))
  have HBR := Lib.hid hbr
  have g1 := hbr.lt
  have r0 := hbr.cell 0
  have r1 := hbr.cell 1
  have r2 := hbr.cell 2
  have r3 := hbr.cell 3
  simp only [List.getElem?_toArray, List.getElem?_cons_zero, List.getElem?_cons_succ] at r0 r1 r2 r3
  have f0 := hbr.free 0
  have f1 := hbr.free 1
  have f2 := hbr.free 2
  have f3 := hbr.free 3
  clear hown hl1 hb1 hbr
  have HX := Lib.hid (Box.new w1 38 #[.int .i64 (-1), .int .i64 0, .int .i64 0, .int .u32 0])
  clear r0 r1 r2 r3 f0 f1 f2 f3
  go_wp2_with fail
  refine (codes_any _).mono ?_
  rintro r w3 ⟨gn, gt, rfl, ⟨hln, hlt⟩, hb3⟩
  have hx3 := HX.out.below hb3 (by simp)
  have hr3 := (HBR.out.alloc (.cells #[.int .i64 (-1), .int .i64 0, .int .i64 0, .int .u32 0] 38)).below hb3 (by simp; omega)
  have HN3 := Lib.hid ((HN1.out.alloc HN1.out.size (.cells #[.int .i64 (-1), .int .i64 0, .int .i64 0, .int .u32 0] 38)).trans (hb3.mono (by have := HN1.out.size; simp; omega)))
  have u1 := (hb3.cell (p := ⟨b, o, none⟩) (by simp; omega)).trans ((World.cell?_alloc_lt w1 _ ⟨b, o, none⟩ hb).trans p0)
  have u2 := (hb3.cell (p := ⟨b, o + 1, none⟩) (by simp; omega)).trans ((World.cell?_alloc_lt w1 _ ⟨b, o + 1, none⟩ hb).trans p2)
  have u3 := (hb3.cell (p := ⟨b, o + 2, none⟩) (by simp; omega)).trans ((World.cell?_alloc_lt w1 _ ⟨b, o + 2, none⟩ hb).trans p3)
  have u4 := (hb3.cell (p := ⟨b, o + 3, none⟩) (by simp; omega)).trans ((World.cell?_alloc_lt w1 _ ⟨b, o + 3, none⟩ hb).trans p4)
  clear hb3 p0 p2 p3 p4
  go_wp2_with fail
  have hgn : gn ≠ w1.heap.size := by
    intro e
    obtain ⟨b1, o1, e1, _, hc1⟩ := hln.2 (by omega)
    simp only [Option.some.injEq, Addr.mk.injEq, and_true] at e1
    obtain ⟨rfl, rfl⟩ := e1
    have h1 := hc1 5 _ rfl
    rw [e, hx3.cell] at h1
    simp at h1
  have hgt : gt ≠ w1.heap.size := by
    intro e
    obtain ⟨b1, o1, e1, _, hc1⟩ := hlt.2 (by omega)
    simp only [Option.some.injEq, Addr.mk.injEq, and_true] at e1
    obtain ⟨rfl, rfl⟩ := e1
    have h1 := hc1 5 _ rfl
    rw [e, hx3.cell] at h1
    simp at h1
  have HLN := Lib.hid hln
  have HLT := Lib.hid hlt
  have HX3 := Lib.hid hx3
  have HR3 := Lib.hid hr3
  clear hln hlt hx3 hr3
  go_loopw [10] (fun i wr => Finding w w1.heap.size h i w3 wr) (fun i _ => 41 - (intOf i).toNat)
  case atStart => exact ⟨0, by omega, rfl, HX3.out, only_refl _ _, HN3.out⟩
  case round =>
    obtain ⟨k, hk, rfl, hbx, hgr, hnx⟩ := hrel
    have HBX := Lib.hid hbx
    have HGR := Lib.hid hgr
    have HNX := Lib.hid hnx
    have keep : ∀ p : Addr, p.block < w3.heap.size → p.block ≠ w1.heap.size → wr.cell? p = w3.cell? p := fun p h1 h2 => World.cell?_of_block (hgr.block p.block h1 (by simpa using h2))
    have hz3 : w1.heap.size < w3.heap.size := HX3.out.lt
    have v1 := (keep ⟨b, o, none⟩ (by show b < _; omega) (Nat.ne_of_lt hb)).trans u1
    have v2 := (keep ⟨b, o + 1, none⟩ (by show b < _; omega) (Nat.ne_of_lt hb)).trans u2
    have v3 := (keep ⟨b, o + 2, none⟩ (by show b < _; omega) (Nat.ne_of_lt hb)).trans u3
    have v4 := (keep ⟨b, o + 3, none⟩ (by show b < _; omega) (Nat.ne_of_lt hb)).trans u4
    have hbr2 : Box wr w.heap.size 38 #[.int .i64 0, .int .i64 0, .int .i64 0, .int .u32 0] := by
      have := hgr.block w.heap.size HR3.out.lt (by simp; omega)
      unfold Box
      rw [this]
      exact HR3.out
    have HRB := Lib.hid hbr2
    have xc := hbx.cell 0
    have xf := hbx.free 0
    have xl := hbx.lt
    simp only [List.getElem?_toArray, List.getElem?_cons_zero] at xc
    by_cases hkl : k < 41
    · obtain ⟨t, ht, _⟩ := tab_at k hkl
      have y1 : wr.cell? ⟨gn, k, none⟩ = some (.int .i64 t.1) := by
        obtain ⟨b1, o1, e1, hb1, hc1⟩ := HLN.out.2 (by omega)
        simp only [Option.some.injEq, Addr.mk.injEq, and_true] at e1
        obtain ⟨rfl, rfl⟩ := e1
        have h1 := hc1 k (.int .i64 t.1) (by rw [List.getElem?_map, ht]; rfl)
        rw [Nat.zero_add] at h1
        exact (keep ⟨gn, k, none⟩ hb1 hgn).trans h1
      have y2 : wr.cell? ⟨gt, k, none⟩ = some (.string (strOf t.2)) := by
        obtain ⟨b1, o1, e1, hb1, hc1⟩ := HLT.out.2 (by omega)
        simp only [Option.some.injEq, Addr.mk.injEq, and_true] at e1
        obtain ⟨rfl, rfl⟩ := e1
        have h1 := hc1 k (.string (strOf t.2)) (by rw [List.getElem?_map, ht]; rfl)
        rw [Nat.zero_add] at h1
        exact (keep ⟨gt, k, none⟩ hb1 hgt).trans h1
      have HST := Lib.hid (codeUpto_step h k t ht)
      clear ht keep hbx hgr hnx hbr2 u1 u2 u3 u4 v2 v3 v4
      by_cases hq : t.2 = h
      · have HS2 : Hid (codeUpto h (k + 1) = t.1) := by rw [HST.out, if_pos hq]; rfl
        have q1 : ((strOf t.2).toList == (strOf h).toList) = true := by rw [hq]; simp
        clear hq
        go_wp2
        go_quiet (fail)
        go_wp2
        go_roundw
        case rel => exact ⟨k + 1, by omega, by go_num, by rw [HS2.out]; exact HBX.out.set 0 (.int .i64 t.1), only_trans HGR.out (only_drewN (only_set _ _ _ _) _), below_drewN (below_set HN1.out.size HNX.out) _⟩
        case measure => simp [intOf]; omega
      · have HS2 : Hid (codeUpto h (k + 1) = codeUpto h k) := by rw [HST.out, if_neg hq]; rfl
        have q1 : ((strOf t.2).toList == (strOf h).toList) = false := by rw [strOf_toList, strOf_toList, beq_eq_false_iff_ne]; exact hq
        clear hq
        go_wp2
        go_quiet (fail)
        go_wp2
        go_roundw
        case rel => exact ⟨k + 1, by omega, by go_num, by rw [HS2.out]; exact HBX.out, only_drewN HGR.out _, below_drewN HNX.out _⟩
        case measure => simp [intOf]; omega
    · obtain rfl : k = 41 := by omega
      rw [codeUpto_all] at xc
      have hxb := hbx
      rw [codeUpto_all] at hxb
      have x1 := hxb.cell 1
      have x2 := hxb.cell 2
      have x3 := hxb.cell 3
      have s0 := hbr2.cell 0
      have s1 := hbr2.cell 1
      have s2 := hbr2.cell 2
      have s3 := hbr2.cell 3
      simp only [List.getElem?_toArray, List.getElem?_cons_zero, List.getElem?_cons_succ] at x1 x2 x3 s0 s1 s2 s3
      have fx1 := hbx.free 1
      have fx2 := hbx.free 2
      have fx3 := hbx.free 3
      have fs0 := hbr2.free 0
      have fs1 := hbr2.free 1
      have fs2 := hbr2.free 2
      have fs3 := hbr2.free 3
      have ls := hbr2.lt
      obtain ⟨n0, n1⟩ := codeAt_bd h
      have HL2 := HL.out
      generalize codeAt h = cv at xc HL2 n0 n1
      clear keep hbx hgr hnx hbr2 hxb u1 u2 u3 u4 v1 HX HX3 HR3 HBX HGR HLN HLT hgn hgt
      by_cases hneg : cv < 0
      · have HR : Hid (lineRead s.data.toList = none) := by rw [HL2, if_pos hneg]; rfl
        clear HL HL2
        go_wp2
        refine bodyPost_ret (results_box_tmp rfl _ _ w.heap.size 38 _ ?q1 (box_four (a := .int .i64 0) (b := .int .i64 0) (c := .int .i64 0) (d := .int .u32 0) HRB.out) _ Tryd.underlying38 ?q2 ?q3) ?q4 ?q5
        case q2 => rfl
        case q3 => exact insSize
        case q1 => rfl
        case q4 => rfl
        case q5 =>
          refine ⟨⟨⟨0, 0, 0, 0⟩, ?_, ?_⟩, ?_⟩
          · rw [HR.out]; rfl
          · intro y hy
            rw [HR.out] at hy
            cases hy
          · iterate 4 (with_reducible refine below_set (Nat.le_refl _) ?_)
            exact HNX.out
      · have HLT : Hid (lineRead s.data.toList = lineTail cv x y z) := by rw [HL2, if_neg hneg]; rfl
        clear HL HL2
        go_wp2_with fail
        refine (number_any (strOf x) 255 _).mono ?_
        rintro r w4 ⟨rfl, rfl⟩
        rw [strOf_data]
        have bx := num_bd x 255
        have cx := num_le x 255
        generalize hX : numOf x 255 = X at bx cx ⊢
        have HX := Lib.hid hX
        clear hX
        obtain ⟨xv, xb⟩ := X
        simp only at bx cx
        obtain ⟨dx, ex⟩ := bx
        have Ex := Lib.hid ex
        clear ex
        go_wp2_with fail
        refine (number_any (strOf y) 255 _).mono ?_
        rintro r w5 ⟨rfl, rfl⟩
        rw [strOf_data]
        have nby := num_bd y 255
        have cy := num_le y 255
        generalize hY : numOf y 255 = Y at nby cy ⊢
        have HY := Lib.hid hY
        clear hY
        obtain ⟨yv, yb⟩ := Y
        simp only at nby cy
        obtain ⟨dy, ey⟩ := nby
        have Ey := Lib.hid ey
        clear ey
        go_wp2_with fail
        refine (number_any (strOf z) 4294967295 _).mono ?_
        rintro r w6 ⟨rfl, rfl⟩
        rw [strOf_data]
        have bz := num_bd z 4294967295
        have cz := num_le z 4294967295
        generalize hZ : numOf z 4294967295 = Z at bz cz ⊢
        have HZ := Lib.hid hZ
        clear hZ
        obtain ⟨zv, zb⟩ := Z
        simp only at bz cz
        obtain ⟨dz, ez⟩ := bz
        have Ez := Lib.hid ez
        clear ez
        have HT : Hid (lineRead s.data.toList = if xb && (yb && zb) then some ⟨cv, xv, yv, zv⟩ else none) := by
          unfold Hid
          rw [HLT.out, lineTail, HX.out, HY.out, HZ.out]
        clear HLT HX HY HZ
        cases xb <;> cases yb <;> cases zb
        case true.true.true =>
          have hz := Ez.out rfl
          have hzz : zv % 4294967296 = zv := by omega
          have HZZ := Lib.hid hzz
          clear hz hzz
          go_wp2_with fail
          have hbx := box_four (a := .int .i64 cv) (b := .int .i64 xv) (c := .int .i64 yv) (d := .int .u32 (zv % 4294967296)) ((((HRB.out.other (i := 1) (u := .int .i64 xv) (Nat.ne_of_lt g1)).other (i := 2) (u := .int .i64 yv) (Nat.ne_of_lt g1)).other (i := 3) (u := .int .u32 (zv % 4294967296)) (Nat.ne_of_lt g1)))
          refine bodyPost_ret (results_box_tmp rfl _ _ w.heap.size 38 _ ?g1x hbx _ Tryd.underlying38 ?g2x ?g3x) ?g4x ?g5x
          case g2x => rfl
          case g3x => exact insSize
          case g1x => rfl
          case g4x => rfl
          case g5x =>
            refine ⟨⟨⟨cv, xv, yv, zv % 4294967296⟩, ?_, ?_⟩, ?_⟩
            · rw [HT.out]; rfl
            · intro y hy
              rw [HT.out] at hy
              rw [HZZ.out]
              exact Option.some.inj hy
            · have hle := HN1.out.size
              iterate 4 (with_reducible refine below_set (Nat.le_refl _) ?_)
              iterate 3 (with_reducible refine below_set hle ?_)
              exact HNX.out
        all_goals
          go_wp2_with fail
          have hbx := box_four (a := .int .i64 cv) (b := .int .i64 xv) (c := .int .i64 yv) (d := .int .u32 (zv % 4294967296)) ((((HRB.out.other (i := 1) (u := .int .i64 xv) (Nat.ne_of_lt g1)).other (i := 2) (u := .int .i64 yv) (Nat.ne_of_lt g1)).other (i := 3) (u := .int .u32 (zv % 4294967296)) (Nat.ne_of_lt g1)))
          refine bodyPost_ret (results_box_tmp rfl _ _ w.heap.size 38 _ ?e1 hbx _ Tryd.underlying38 ?e2 ?e3) ?e4 ?e5
          case e2 => rfl
          case e3 => exact insSize
          case e1 => rfl
          case e4 => rfl
          case e5 =>
            refine ⟨⟨⟨cv, xv, yv, zv % 4294967296⟩, ?_, ?_⟩, ?_⟩
            · rw [HT.out]; rfl
            · intro y hy
              rw [HT.out] at hy
              cases hy
            · have hle := HN1.out.size
              iterate 4 (with_reducible refine below_set (Nat.le_refl _) ?_)
              iterate 3 (with_reducible refine below_set hle ?_)
              exact HNX.out

/-- What the document's own line gives. -/
theorem line_any (s : ByteArray) (w : World) (hs : s.size ≤ 1099511627776) :
    Calls Tryd.prog 16 #[.string s] w (LineIs (lineRead s.data.toList) w) := by
  match hp : partsOf 32 s.data.toList with
  | [h, x, y, z] => exact line_four s h x y z w hs hp
  | [h, c, x, y, z] =>
    by_cases hh : h = [99, 111, 100, 101]
    · exact line_code s h c x y z w hs hp hh
    · exact line_five s h c x y z w hs hp hh
  | [] => exact line_else s [] w hs hp (by simp) (by simp)
  | [a] => exact line_else s [a] w hs hp (by simp) (by simp)
  | [a, b] => exact line_else s [a, b] w hs hp (by simp) (by simp)
  | [a, b, c] => exact line_else s [a, b, c] w hs hp (by simp) (by simp)
  | a :: b :: c :: d :: e :: f :: r => exact line_else s (a :: b :: c :: d :: e :: f :: r) w hs hp (by simp) (by simp)

end Go.Proofs.YtdcpdieejknliaaDoor
