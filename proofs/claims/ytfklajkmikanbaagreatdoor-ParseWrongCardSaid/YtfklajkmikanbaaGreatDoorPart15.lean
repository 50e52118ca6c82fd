/- Texts of mine put together (a claim has at most so many files): ParGoesO, ParOp. -/
import Derived.Test.YtfklajkmikanbaaGreatDoorPart14
import Derived.Test.YtfklajkmikanbaaGreatDoorPart8
import Derived.Test.YtfklajkmikanbaaGreatDoorPart12
/- What the landed parser's goesOn gives, behind '||' and else. No condition but sizes. -/
namespace Go.Proofs.YtfklajkmikanbaaGreatDoor.LandedP
open Go.RowKit

section
variable {P : Nat → Prop} {w : World} {g k : Nat} {E : Env} {R : List Tk}

/-- The end of the way behind '||'. -/
theorem went_or {x : Lvl} {e r : Ex} {Z : Ex} {w2 x1 W : World} (HE : goesX x.bare e.bare R = some ⟨none, 0, [Z], none, 0, [], 0⟩) (HP : ∀ b, w.heap.size ≤ b → P b) (HG : ∀ b, P b → b ≠ g ∧ b ≠ k) (HGK : g < k ∧ k < w.heap.size)
    (HB2 : Box w2 k 137 x.cells.toArray) (HR2 : RdrAt 66 w2 g E (restL true R) Flt.none) (HG2 : w.grownBy w2 (some g)) (hz2 : w.heap.size < w2.heap.size) (HB1 : Below w2.drew.heap.size w2.drew x1) (HR1 : r.bare = Z) (HI1 : ExP P x1 r)
    (w4 : World) (hw4 : w4 = ((x1.setCell ⟨k, 0, none⟩ (.slice (some ⟨x1.heap.size, 0, none⟩) 1 1)).setCell ⟨k, 1, none⟩ (.slice none 0 0)).setCell ⟨k, 2, none⟩ (.int .i64 0)) (hW : W = w4.alloc (.cells r.cells.toArray 48)) :
    Went P g k E R x e w (.returned (.bool true)) W := by
  subst hW
  have hd : Below w2.heap.size w2 x1 := (Below.refl _ _).drew.trans HB1
  have hbk := HB2.step hd
  have hs : w4.heap.size = x1.heap.size := by rw [hw4]; exact set3_size _ _ _ _ _
  have hO : x1.grownBy w4 (some k) := by rw [hw4]; exact set3_only
  have hB : Box w4 k 137 #[.slice (some ⟨x1.heap.size, 0, none⟩) 1 1, .slice none 0 0, .int .i64 0] := by rw [hw4]; exact set3_box hbk
  have hP1 : ∀ b, P b → b ≠ k := fun b hb => (HG b hb).2
  have hm1 : Move P P x1 (w4.alloc (.cells r.cells.toArray 48)) := (Move.grown hO fun b _ hp => ⟨hp, fun e => hP1 b hp (Option.some.inj e).symm⟩).trans (Move.grown (World.grownBy_alloc w4 _ none) fun b hb hp => ⟨hp, by simp⟩)
  have hm2 : Move P P w2 (w4.alloc (.cells r.cells.toArray 48)) := (Move.same_below hd).trans hm1
  refine .inl ⟨_, ⟨some ⟨x1.heap.size, 0, none⟩, 1, [r], none, 0, [], 0⟩, HE, ?_, rfl, hB.alloc _, ⟨one_sl x1.heap.size hs.symm (HP _ (by have := hd.size; omega)) (HI1.move hm1), .nil _ _ _ _ _, ⟨Nat.le_refl _, Nat.zero_le _⟩, by show (0 : Nat) ≤ _; omega⟩, ?_, x1, grow_step HG2 hd, grow_alloc hO _⟩
  · rw [← HR1]; rfl
  · exact ((RdrAt.step (show RdrAt _ _ _ _ R.tail _ from HR2) hd).other hO HGK.1).alloc _

set_option maxRecDepth 100000 in
set_option maxHeartbeats 8000000 in
theorem goes_or (hP : ∀ b, w.heap.size ≤ b → P b) (hg : ∀ b, P b → b ≠ g ∧ b ≠ k) (hgk : g < k) (x : Lvl) (e : Ex) (hx : LvP P w x) (he : ExP P w e) (hb : Box w k 137 x.cells.toArray) (h : RdrAt 66 w g E R Flt.none) (hn : sgL [38, 38] R = false) (hs : sgL [124, 124] R = true) :
    Calls Tryz.prog 69 #[.pointer (some ⟨g, 0, none⟩), .pointer (some ⟨k, 0, none⟩), e.val] w (Went P g k E R x e w) := by
  have HE : Hid (goesX x.bare e.bare R = some ⟨none, 0, [x.bare.whole e.bare], none, 0, [], 0⟩) := by
    show goesX _ _ _ = _
    unfold goesX
    rw [if_neg (by rw [hn]; decide), if_pos hs]
  have HS := Lib.hid (sign_any (h.alloc (.cells e.cells.toArray 48)) ⟨#[38, 38]⟩)
  rw [show ((⟨#[38, 38]⟩ : ByteArray)).data.toList = [38, 38] from rfl, hn] at HS
  have HBX := Lib.hid (hb.alloc (.cells e.cells.toArray 48))
  have HBE := Lib.hid (Box.new w 48 e.cells.toArray)
  have HGK := Lib.hid (And.intro hgk hb.lt)
  have HX := Lib.hid hx
  have HEX := Lib.hid he
  have HP := Lib.hid hP
  have HG := Lib.hid hg
  have HSO := Lib.hid hs
  clear h hn hs hb hx he hP hg
  obtain ⟨oA, oc, ors, aA, ac, ands, N⟩ := x
  obtain ⟨kd0, op0, nm0, nu0, A0, c0, ks0⟩ := e
  unfold Lvl.cells at HBX
  unfold Ex.cells at HBE HBX HS
  unfold Ex.val
  dsimp only at HBX HBE HS ⊢
  go_enter Tryz.func69, Tryz.ntmps69
  go_wp2_with fail
  refine HS.out.mono ?_
  rintro r w9 ⟨rfl, h9, hg9⟩
  have HS9 := Lib.hid (sign_any (show RdrAt 66 w9 g E R Flt.none from h9) ⟨#[124, 124]⟩)
  rw [show ((⟨#[124, 124]⟩ : ByteArray)).data.toList = [124, 124] from rfl, HSO.out] at HS9
  have HO9 := Lib.hid hg9
  clear h9 hg9 HS HSO
  go_wp2_with fail
  refine HS9.out.mono ?_
  rintro r w2 ⟨rfl, h2, hg8⟩
  have hg2 := only_trans HO9.out hg8
  clear hg8
  have hgk2 := HGK.out
  have HB2 := Lib.hid (box_only HBX.out (by omega) hg2)
  have HE2 := Lib.hid (box_only HBE.out (by omega) hg2)
  have HR2 := Lib.hid h2
  have HG2 := Lib.hid (only_trans (only_alloc w (.cells (Ex.node kd0 op0 nm0 nu0 A0 c0 ks0).cells.toArray 48) g) hg2)
  have hmv : Move P P w w2 := Move.grown HG2.out fun b hb hp => ⟨hp, fun e => (HG.out b hp).1 (Option.some.inj e).symm⟩
  have HX2 := Lib.hid (HX.out.move hmv)
  have hz2 : w.heap.size < w2.heap.size := HE2.out.lt
  have HA : Hid (Calls Tryz.prog 70 #[(Lvl.mk oA oc ors aA ac ands N).val, (Ex.node kd0 op0 nm0 nu0 A0 c0 ks0).val] w2.drew (Joined P ((Lvl.mk oA oc ors aA ac ands N).bare.whole (Ex.node kd0 op0 nm0 nu0 A0 c0 ks0).bare) w2.drew)) :=
    whole_any (w := w2.drew) (fun b hb => HP.out b (by have : w2.drew.heap.size = w2.heap.size := rfl; omega)) _ _ ((HX.out.move hmv).move (.same_below (Below.refl _ _).drew)) ((HEX.out.move hmv).move (.same_below (Below.refl _ _).drew))
  clear h2 hg2 HS9 HO9 HBX HBE hmv
  generalize (Lvl.mk oA oc ors aA ac ands N).bare.whole (Ex.node kd0 op0 nm0 nu0 A0 c0 ks0).bare = Z at HA HE
  unfold Lvl.val Ex.val at HA
  dsimp only at HA
  obtain ⟨q0, q1, q2, z0, z1, z2, hl⟩ := box3 HB2.out
  obtain ⟨p0, p1, p2, p3, p4, y0, y1, y2, y3, y4, hl2⟩ := box5 HE2.out
  go_wp2_with fail
  go_region_with (first
    | (go_at_call 70; refine HA.out.mono ?_; rintro e x1 ⟨hb1, r1, hr1, rfl, hi1⟩; have HR1 := Lib.hid hr1; have HI1 := Lib.hid hi1; obtain ⟨u0, u1, u2, v0, v1, v2, ul⟩ := box3 (HB2.out.drew.step hb1); have HB1 := Lib.hid hb1; clear hr1 hi1 hb1; obtain ⟨kd, op, nm, nu, A, c, ks⟩ := r1; simp only [Ex.val]))
  all_goals
    go_wp2
    go_ret
    exact went_or HE.out HP.out HG.out HGK.out HB2.out HR2.out HG2.out hz2 HB1.out HR1.out HI1.out _ rfl rfl

set_option maxRecDepth 100000 in
set_option maxHeartbeats 8000000 in
theorem goes_no (x : Lvl) (e : Ex) (h : RdrAt 66 w g E R Flt.none) (hn : sgL [38, 38] R = false) (hs : sgL [124, 124] R = false) :
    Calls Tryz.prog 69 #[.pointer (some ⟨g, 0, none⟩), .pointer (some ⟨k, 0, none⟩), e.val] w (Went P g k E R x e w) := by
  have HE : Hid (goesX x.bare e.bare R = none) := by
    show goesX _ _ _ = _
    unfold goesX
    rw [if_neg (by rw [hn]; decide), if_neg (by rw [hs]; decide)]
  have HS := Lib.hid (sign_any (h.alloc (.cells e.cells.toArray 48)) ⟨#[38, 38]⟩)
  rw [show ((⟨#[38, 38]⟩ : ByteArray)).data.toList = [38, 38] from rfl, hn] at HS
  have HSO := Lib.hid hs
  clear h hn hs
  obtain ⟨kd0, op0, nm0, nu0, A0, c0, ks0⟩ := e
  unfold Ex.cells at HS
  unfold Ex.val
  dsimp only at HS ⊢
  go_enter Tryz.func69, Tryz.ntmps69
  go_wp2_with fail
  refine HS.out.mono ?_
  rintro r w9 ⟨rfl, h9, hg9⟩
  have HS9 := Lib.hid (sign_any (show RdrAt 66 w9 g E R Flt.none from h9) ⟨#[124, 124]⟩)
  rw [show ((⟨#[124, 124]⟩ : ByteArray)).data.toList = [124, 124] from rfl, HSO.out] at HS9
  have HO9 := Lib.hid hg9
  clear h9 hg9 HS HSO
  go_wp2_with fail
  refine HS9.out.mono ?_
  rintro r w2 ⟨rfl, h2, hg8⟩
  have H2 := Lib.hid h2
  have HO2 := Lib.hid (only_trans (only_trans (only_alloc w (.cells (Ex.node kd0 op0 nm0 nu0 A0 c0 ks0).cells.toArray 48) g) HO9.out) hg8)
  clear h2 hg8 HS9 HO9
  go_wp2
  go_ret
  exact .inr ⟨HE.out, rfl, H2.out, HO2.out⟩

theorem goes_any (hP : ∀ b, w.heap.size ≤ b → P b) (hg : ∀ b, P b → b ≠ g ∧ b ≠ k) (hgk : g < k) (x : Lvl) (e : Ex) (hx : LvP P w x) (he : ExP P w e) (hb : Box w k 137 x.cells.toArray) (h : RdrAt 66 w g E R Flt.none) :
    Calls Tryz.prog 69 #[.pointer (some ⟨g, 0, none⟩), .pointer (some ⟨k, 0, none⟩), e.val] w (Went P g k E R x e w) := by
  cases h1 : sgL [38, 38] R
  · cases h2 : sgL [124, 124] R
    · exact goes_no x e h h1 h2
    · exact goes_or hP hg hgk x e hx he hb h h1 h2
  · exact goes_and hP hg hgk x e hx he hb h h1
end

end Go.Proofs.YtfklajkmikanbaaGreatDoor.LandedP

/- What the landed parser's op gives. No condition. -/
namespace Go.Proofs.YtfklajkmikanbaaGreatDoor.LandedP
open Go.RowKit

/-- A comparison's sign is taken, or not. -/
def Opped (g : Nat) (E : Env) (R : List Tk) (w : World) : Ending → World → Prop := fun e w' => w.grownBy w' (some g) ∧
  ((∃ s, opH R opsL = some s ∧ e = .returned (.tuple #[.string (strOf s), .bool true]) ∧ RdrAt 66 w' g E R.tail Flt.none) ∨
   (opH R opsL = none ∧ e = .returned (.tuple #[.string ⟨#[]⟩, .bool false]) ∧ RdrAt 66 w' g E R Flt.none))

theorem ix_0 (w : World) : (Go.Instr.index 168 (.agg #[.string ⟨#[61, 61]⟩, .string ⟨#[33, 61]⟩, .string ⟨#[60]⟩, .string ⟨#[60, 61]⟩, .string ⟨#[62]⟩, .string ⟨#[62, 61]⟩]) (.int .i64 0)).run Tryz.prog w = .ok (.string ⟨#[61, 61]⟩) w := by kernel_rfl
theorem ix_1 (w : World) : (Go.Instr.index 168 (.agg #[.string ⟨#[61, 61]⟩, .string ⟨#[33, 61]⟩, .string ⟨#[60]⟩, .string ⟨#[60, 61]⟩, .string ⟨#[62]⟩, .string ⟨#[62, 61]⟩]) (.int .i64 1)).run Tryz.prog w = .ok (.string ⟨#[33, 61]⟩) w := by kernel_rfl
theorem ix_2 (w : World) : (Go.Instr.index 168 (.agg #[.string ⟨#[61, 61]⟩, .string ⟨#[33, 61]⟩, .string ⟨#[60]⟩, .string ⟨#[60, 61]⟩, .string ⟨#[62]⟩, .string ⟨#[62, 61]⟩]) (.int .i64 2)).run Tryz.prog w = .ok (.string ⟨#[60]⟩) w := by kernel_rfl
theorem ix_3 (w : World) : (Go.Instr.index 168 (.agg #[.string ⟨#[61, 61]⟩, .string ⟨#[33, 61]⟩, .string ⟨#[60]⟩, .string ⟨#[60, 61]⟩, .string ⟨#[62]⟩, .string ⟨#[62, 61]⟩]) (.int .i64 3)).run Tryz.prog w = .ok (.string ⟨#[60, 61]⟩) w := by kernel_rfl
theorem ix_4 (w : World) : (Go.Instr.index 168 (.agg #[.string ⟨#[61, 61]⟩, .string ⟨#[33, 61]⟩, .string ⟨#[60]⟩, .string ⟨#[60, 61]⟩, .string ⟨#[62]⟩, .string ⟨#[62, 61]⟩]) (.int .i64 4)).run Tryz.prog w = .ok (.string ⟨#[62]⟩) w := by kernel_rfl
theorem ix_5 (w : World) : (Go.Instr.index 168 (.agg #[.string ⟨#[61, 61]⟩, .string ⟨#[33, 61]⟩, .string ⟨#[60]⟩, .string ⟨#[60, 61]⟩, .string ⟨#[62]⟩, .string ⟨#[62, 61]⟩]) (.int .i64 5)).run Tryz.prog w = .ok (.string ⟨#[62, 61]⟩) w := by kernel_rfl

section
variable {w : World} {g : Nat} {E : Env} {R : List Tk}

/-- The loop's state behind k signs. -/
def OpSt (g : Nat) (E : Env) (R : List Tk) (w : World) (k : Nat) (W : World) : Prop := opH R opsL = opH R (opsL.drop k) ∧ RdrAt 66 W g E R Flt.none ∧ w.grownBy W (some g)

set_option maxRecDepth 100000 in
set_option maxHeartbeats 8000000 in
theorem op_any (h : RdrAt 66 w g E R Flt.none) :
    Calls Tryz.prog 86 #[.pointer (some ⟨g, 0, none⟩)] w (Opped g E R w) := by
  have H0 : Hid (∀ cs T, OpSt g E R w 0 (w.alloc (.cells cs T))) := fun cs T => ⟨rfl, h.alloc _, only_alloc _ _ _⟩
  clear h
  go_enter Tryz.func86, Tryz.ntmps86
  go_wp2_with fail
  go_loopw [9] (fun v wr => ∃ k : Nat, k ≤ 6 ∧ v = .int .i64 (k : Int) ∧ Hid (OpSt g E R w k wr)) (fun v _ => 6 - (intOf v).toNat)
  case atStart => exact ⟨0, by omega, rfl, H0.out _ _⟩
  case round =>
    obtain ⟨k, hk, rfl, HK⟩ := hrel
    clear H0
    by_cases h6 : k < 6
    · rcases (by omega : k = 0 ∨ k = 1 ∨ k = 2 ∨ k = 3 ∨ k = 4 ∨ k = 5) with rfl | rfl | rfl | rfl | rfl | rfl
      · have HS := Lib.hid (sign_any HK.out.2.1 ⟨#[61, 61]⟩)
        rw [show ((⟨#[61, 61]⟩ : ByteArray)).data.toList = [61, 61] from rfl] at HS
        have H3 := Lib.hid HK.out.2.2
        have H4  := Lib.hid HK.out.1
        have hix := ix_0
        clear HK
        cases hs : sgL [61, 61] R
        · rw [hs] at HS
          have HE : Hid (opH R opsL = opH R (opsL.drop (0 + 1))) := H4.out.trans (by show (if sgL [61, 61] R = true then _ else _) = _; rw [if_neg (by rw [hs]; decide)]; rfl)
          clear hs H4
          go_wp2_with fail
          refine HS.out.mono ?_
          rintro e w1 ⟨rfl, h1, h2⟩
          have HN : Hid (OpSt g E R w (0 + 1) w1) := ⟨HE.out, h1, only_trans H3.out h2⟩
          clear h1 h2
          go_wp2
          go_roundw
          case rel => exact ⟨0 + 1, by omega, by go_num, HN⟩
          case measure => simp [intOf]
        · rw [hs] at HS
          have HE : Hid (opH R opsL = some [61, 61]) := H4.out.trans (by show (if sgL [61, 61] R = true then _ else _) = _; rw [if_pos hs])
          clear hs H4
          go_wp2_with fail
          refine HS.out.mono ?_
          rintro e w1 ⟨rfl, h1, h2⟩
          have H1 := Lib.hid h1
          have H2 := Lib.hid (only_trans H3.out h2)
          clear h1 h2
          go_wp2
          go_ret2
          exact ⟨H2.out, .inl ⟨_, HE.out, rfl, H1.out⟩⟩
      · have HS := Lib.hid (sign_any HK.out.2.1 ⟨#[33, 61]⟩)
        rw [show ((⟨#[33, 61]⟩ : ByteArray)).data.toList = [33, 61] from rfl] at HS
        have H3 := Lib.hid HK.out.2.2
        have H4  := Lib.hid HK.out.1
        have hix := ix_1
        clear HK
        cases hs : sgL [33, 61] R
        · rw [hs] at HS
          have HE : Hid (opH R opsL = opH R (opsL.drop (1 + 1))) := H4.out.trans (by show (if sgL [33, 61] R = true then _ else _) = _; rw [if_neg (by rw [hs]; decide)]; rfl)
          clear hs H4
          go_wp2_with fail
          refine HS.out.mono ?_
          rintro e w1 ⟨rfl, h1, h2⟩
          have HN : Hid (OpSt g E R w (1 + 1) w1) := ⟨HE.out, h1, only_trans H3.out h2⟩
          clear h1 h2
          go_wp2
          go_roundw
          case rel => exact ⟨1 + 1, by omega, by go_num, HN⟩
          case measure => simp [intOf]
        · rw [hs] at HS
          have HE : Hid (opH R opsL = some [33, 61]) := H4.out.trans (by show (if sgL [33, 61] R = true then _ else _) = _; rw [if_pos hs])
          clear hs H4
          go_wp2_with fail
          refine HS.out.mono ?_
          rintro e w1 ⟨rfl, h1, h2⟩
          have H1 := Lib.hid h1
          have H2 := Lib.hid (only_trans H3.out h2)
          clear h1 h2
          go_wp2
          go_ret2
          exact ⟨H2.out, .inl ⟨_, HE.out, rfl, H1.out⟩⟩
      · have HS := Lib.hid (sign_any HK.out.2.1 ⟨#[60]⟩)
        rw [show ((⟨#[60]⟩ : ByteArray)).data.toList = [60] from rfl] at HS
        have H3 := Lib.hid HK.out.2.2
        have H4  := Lib.hid HK.out.1
        have hix := ix_2
        clear HK
        cases hs : sgL [60] R
        · rw [hs] at HS
          have HE : Hid (opH R opsL = opH R (opsL.drop (2 + 1))) := H4.out.trans (by show (if sgL [60] R = true then _ else _) = _; rw [if_neg (by rw [hs]; decide)]; rfl)
          clear hs H4
          go_wp2_with fail
          refine HS.out.mono ?_
          rintro e w1 ⟨rfl, h1, h2⟩
          have HN : Hid (OpSt g E R w (2 + 1) w1) := ⟨HE.out, h1, only_trans H3.out h2⟩
          clear h1 h2
          go_wp2
          go_roundw
          case rel => exact ⟨2 + 1, by omega, by go_num, HN⟩
          case measure => simp [intOf]
        · rw [hs] at HS
          have HE : Hid (opH R opsL = some [60]) := H4.out.trans (by show (if sgL [60] R = true then _ else _) = _; rw [if_pos hs])
          clear hs H4
          go_wp2_with fail
          refine HS.out.mono ?_
          rintro e w1 ⟨rfl, h1, h2⟩
          have H1 := Lib.hid h1
          have H2 := Lib.hid (only_trans H3.out h2)
          clear h1 h2
          go_wp2
          go_ret2
          exact ⟨H2.out, .inl ⟨_, HE.out, rfl, H1.out⟩⟩
      · have HS := Lib.hid (sign_any HK.out.2.1 ⟨#[60, 61]⟩)
        rw [show ((⟨#[60, 61]⟩ : ByteArray)).data.toList = [60, 61] from rfl] at HS
        have H3 := Lib.hid HK.out.2.2
        have H4  := Lib.hid HK.out.1
        have hix := ix_3
        clear HK
        cases hs : sgL [60, 61] R
        · rw [hs] at HS
          have HE : Hid (opH R opsL = opH R (opsL.drop (3 + 1))) := H4.out.trans (by show (if sgL [60, 61] R = true then _ else _) = _; rw [if_neg (by rw [hs]; decide)]; rfl)
          clear hs H4
          go_wp2_with fail
          refine HS.out.mono ?_
          rintro e w1 ⟨rfl, h1, h2⟩
          have HN : Hid (OpSt g E R w (3 + 1) w1) := ⟨HE.out, h1, only_trans H3.out h2⟩
          clear h1 h2
          go_wp2
          go_roundw
          case rel => exact ⟨3 + 1, by omega, by go_num, HN⟩
          case measure => simp [intOf]
        · rw [hs] at HS
          have HE : Hid (opH R opsL = some [60, 61]) := H4.out.trans (by show (if sgL [60, 61] R = true then _ else _) = _; rw [if_pos hs])
          clear hs H4
          go_wp2_with fail
          refine HS.out.mono ?_
          rintro e w1 ⟨rfl, h1, h2⟩
          have H1 := Lib.hid h1
          have H2 := Lib.hid (only_trans H3.out h2)
          clear h1 h2
          go_wp2
          go_ret2
          exact ⟨H2.out, .inl ⟨_, HE.out, rfl, H1.out⟩⟩
      · have HS := Lib.hid (sign_any HK.out.2.1 ⟨#[62]⟩)
        rw [show ((⟨#[62]⟩ : ByteArray)).data.toList = [62] from rfl] at HS
        have H3 := Lib.hid HK.out.2.2
        have H4  := Lib.hid HK.out.1
        have hix := ix_4
        clear HK
        cases hs : sgL [62] R
        · rw [hs] at HS
          have HE : Hid (opH R opsL = opH R (opsL.drop (4 + 1))) := H4.out.trans (by show (if sgL [62] R = true then _ else _) = _; rw [if_neg (by rw [hs]; decide)]; rfl)
          clear hs H4
          go_wp2_with fail
          refine HS.out.mono ?_
          rintro e w1 ⟨rfl, h1, h2⟩
          have HN : Hid (OpSt g E R w (4 + 1) w1) := ⟨HE.out, h1, only_trans H3.out h2⟩
          clear h1 h2
          go_wp2
          go_roundw
          case rel => exact ⟨4 + 1, by omega, by go_num, HN⟩
          case measure => simp [intOf]
        · rw [hs] at HS
          have HE : Hid (opH R opsL = some [62]) := H4.out.trans (by show (if sgL [62] R = true then _ else _) = _; rw [if_pos hs])
          clear hs H4
          go_wp2_with fail
          refine HS.out.mono ?_
          rintro e w1 ⟨rfl, h1, h2⟩
          have H1 := Lib.hid h1
          have H2 := Lib.hid (only_trans H3.out h2)
          clear h1 h2
          go_wp2
          go_ret2
          exact ⟨H2.out, .inl ⟨_, HE.out, rfl, H1.out⟩⟩
      · have HS := Lib.hid (sign_any HK.out.2.1 ⟨#[62, 61]⟩)
        rw [show ((⟨#[62, 61]⟩ : ByteArray)).data.toList = [62, 61] from rfl] at HS
        have H3 := Lib.hid HK.out.2.2
        have H4  := Lib.hid HK.out.1
        have hix := ix_5
        clear HK
        cases hs : sgL [62, 61] R
        · rw [hs] at HS
          have HE : Hid (opH R opsL = opH R (opsL.drop (5 + 1))) := H4.out.trans (by show (if sgL [62, 61] R = true then _ else _) = _; rw [if_neg (by rw [hs]; decide)]; rfl)
          clear hs H4
          go_wp2_with fail
          refine HS.out.mono ?_
          rintro e w1 ⟨rfl, h1, h2⟩
          have HN : Hid (OpSt g E R w (5 + 1) w1) := ⟨HE.out, h1, only_trans H3.out h2⟩
          clear h1 h2
          go_wp2
          go_roundw
          case rel => exact ⟨5 + 1, by omega, by go_num, HN⟩
          case measure => simp [intOf]
        · rw [hs] at HS
          have HE : Hid (opH R opsL = some [62, 61]) := H4.out.trans (by show (if sgL [62, 61] R = true then _ else _) = _; rw [if_pos hs])
          clear hs H4
          go_wp2_with fail
          refine HS.out.mono ?_
          rintro e w1 ⟨rfl, h1, h2⟩
          have H1 := Lib.hid h1
          have H2 := Lib.hid (only_trans H3.out h2)
          clear h1 h2
          go_wp2
          go_ret2
          exact ⟨H2.out, .inl ⟨_, HE.out, rfl, H1.out⟩⟩
    · obtain rfl : k = 6 := by omega
      go_wp2
      go_ret2
      obtain ⟨h1, h2, h3⟩ := HK.out
      exact ⟨h3, .inr ⟨h1, rfl, h2⟩⟩
end

end Go.Proofs.YtfklajkmikanbaaGreatDoor.LandedP
