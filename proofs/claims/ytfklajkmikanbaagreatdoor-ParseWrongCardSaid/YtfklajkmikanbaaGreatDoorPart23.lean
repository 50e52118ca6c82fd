/- Texts of mine put together (a claim has at most so many files): ParMain, ParItD. -/
import Derived.Test.YtfklajkmikanbaaGreatDoorPart22
import Derived.Deep.RegionLaw
import Derived.Deep.AppendLies
import Derived.Test.YtfklajkmikanbaaGreatDoorPart17
/- What the landed parser's main gives. Condition: what the start lays, as far as the library reads it. -/
namespace Go.Proofs.YtfklajkmikanbaaGreatDoor.LandedP
open Go.RowKit

/-- What an item leaves. -/
def ItemRes (B g k : Nat) (E : Env) (X : Rx Unt) (W : World) : Ending → World → Prop := fun e W' => Kp B g k W W' ∧
  ((∃ u' R', X = .ok (u'.bare, R') ∧ e = .returned (.bool true) ∧ UniAt B g k u' W' ∧ RdrAt 66 W' g E R' Flt.none) ∨
   (∃ err R', X = .error (err, R') ∧ e = .returned (.bool false) ∧ Wrong 66 W' g E err R'))

section
variable {W : World} {B g k : Nat} {E : Env} {R : List Tk} {u : Unt}

theorem kp_g {W' : World} (h : W.grownBy W' (some g)) : Kp B g k W W' := .one h fun _ e => .inl (Option.some.inj e).symm
theorem kp_below {W' : World} (h : Below W.heap.size W W') : Kp B g k W W' := kp_g (only_below h g)

/-- The three cells of what is used at last, in either order. -/
theorem last_box {u : Unt} {W : World} {x y z : Value} (h : Box W k 29 u.cells.toArray) :
    Box (((W.setCell ⟨k, 2, none⟩ x).setCell ⟨k, 3, none⟩ y).setCell ⟨k, 4, none⟩ z) k 29 #[.slice u.dA u.defs.length u.dc, .slice u.pA u.pols.length u.pc, x, y, z] ∧
    Box (((W.setCell ⟨k, 3, none⟩ y).setCell ⟨k, 4, none⟩ z).setCell ⟨k, 2, none⟩ x) k 29 #[.slice u.dA u.defs.length u.dc, .slice u.pA u.pols.length u.pc, x, y, z] := by
  constructor
  · have := ((h.set 2 x).set 3 y).set 4 z
    unfold Unt.cells at this
    simpa using this
  · have := ((h.set 3 y).set 4 z).set 2 x
    unfold Unt.cells at this
    simpa using this

theorem main_end {w4 W5 : World} {R0 R2 : List Tk} {l : List ByteArray} {ak ad : Int} {A : Option Addr} {c : Nat} (hX : mainX u.bare R0 R = .ok ({ u.bare with main := l, kind := ak, data := ad }, R2)) (hu : UniAt B g k u w4) (hk : Kp B g k W w4) (hr : RdrAt 66 w4 g E R2 Flt.none)
    (hs : SlP (fun b => W.heap.size ≤ b) w4 1 strCells StrIn A c l) (hrw : ∀ b, W.heap.size ≤ b → Un B u b) (hb : I64 ak ∧ I64 ad) (hbx : Box W5 k 29 #[.slice u.dA u.defs.length u.dc, .slice u.pA u.pols.length u.pc, .slice A l.length c, .int .i64 ak, .int .i64 ad]) (ho : w4.grownBy W5 (some k)) :
    ItemRes B g k E (mainX u.bare R0 R) W (.returned (.bool true)) W5 :=
  ⟨hk.trans (.one ho fun _ e => .inr (.inl (Option.some.inj e).symm)), .inl ⟨{ u with mA := A, mc := c, main := l, kind := ak, data := ad }, R2, hX, rfl, hu.last ho hbx (hs.move (Move.of _ fun b _ hp => hrw b hp) fun _ _ h => h) hb.1 hb.2, hr.other ho hu.gk⟩⟩

set_option maxRecDepth 100000 in
set_option maxHeartbeats 8000000 in
theorem main_any (hE : ∀ W, E.laid W → Laid W) (hu : UniAt B g k u W) (h : RdrAt 66 W g E R Flt.none) (D : Flt) (R0 : List Tk) (hD : D = hereV E 11 R0) :
    Calls Tryz.prog 29 #[.pointer (some ⟨g, 0, none⟩), .pointer (some ⟨k, 0, none⟩), D.val] W (ItemRes B g k E (mainX u.bare R0 R) W) := by
  have hst := store_cx
  obtain ⟨fe, ff, fr, fi⟩ := D
  have HD := Lib.hid hD
  have hba : Below W.heap.size W (W.alloc (.cells #[.int .i64 fe, .int .i64 ff, .complex .f64 fr fi] 33)) := (Below.refl _ _).alloc (Nat.le_refl _) _
  have HNA := Lib.hid (names_any (h.step hba))
  have HU0 := Lib.hid (hu.step hba)
  have HK0 : Hid (Kp B g k W (W.alloc (.cells #[.int .i64 fe, .int .i64 ff, .complex .f64 fr fi] 33))) := kp_below hba
  have HBD0 := Lib.hid (Box.new W 33 #[.int .i64 fe, .int .i64 ff, .complex .f64 fr fi])
  have HGL : Hid (g < k ∧ k < B ∧ B ≤ W.heap.size) := ⟨hu.gk, hu.kB, hu.BW⟩
  have HRW : Hid (∀ b, W.heap.size ≤ b → Un B u b) := fun b hb => ⟨Nat.le_trans hu.BW hb, fun e => by have := (hu.drow.lt _ e).2; omega, fun e => by have := (hu.prow.lt _ e).2; omega⟩
  clear hu h hD hba
  unfold Flt.val
  dsimp only
  go_enter Tryz.func29, Tryz.ntmps29
  go_wp2_with fail
  refine HNA.out.mono ?_
  rintro e w1 ⟨hg1, h1⟩
  have HU1 := Lib.hid (HU0.out.call hg1)
  have HK1 := Lib.hid (HK0.out.trans (kp_g hg1))
  have HBD1 := Lib.hid (box_only HBD0.out (by have := HGL.out; omega) hg1)
  clear hg1 HNA HU0 HK0 HBD0
  rcases h1 with ⟨l, R1, v, hx, rfl, ⟨A, c, rfl, hsl⟩, hr⟩ | ⟨err, R1, v, hx, rfl, ⟨A, n, c, rfl⟩, hr⟩
  · have HX := Lib.hid hx
    have HSL : Hid (SlP (fun b => W.heap.size ≤ b) w1 1 strCells StrIn A c l) := hsl.move (Move.of _ fun b _ hp => by simp at hp; omega) fun _ _ h => h
    have HT : Hid (Calls Tryz.prog 26 #[.pointer (some ⟨g, 0, none⟩), .int .i64 1, .string ⟨#[68, 69, 70, 65, 85, 76, 84]⟩] w1 (Took g E R1 (isL 1 defaultL R1) w1)) := by
      obtain ⟨A, c, h⟩ := hr
      exact take_any h 1 ⟨#[68, 69, 70, 65, 85, 76, 84]⟩
    clear hx hsl hr
    cases hd : isL 1 defaultL R1
    · rw [hd] at HT
      have HEQ : Hid (mainX u.bare R0 R = .error (3, R1)) := by
        show mainX u.bare R0 R = _
        unfold mainX
        rw [HX.out]
        dsimp only
        rw [if_neg (by rw [hd]; decide)]
      clear hd
      go_wp2_with fail
      refine HT.out.mono ?_
      rintro e w2 ⟨rfl, h2, hg2⟩
      have HK2 := Lib.hid (HK1.out.trans (kp_g hg2))
      have HR2 := Lib.hid h2
      clear h2 hg2 HT
      go_wp2
      go_ret
      exact ⟨HK2.out, .inr ⟨3, R1, HEQ.out, rfl, .inl ⟨rfl, HR2.out⟩⟩⟩
    · rw [hd] at HT
      have HEQ : Hid (mainX u.bare R0 R = match actionX R1.tail with
          | .error x => .error x
          | .ok (a, R2) => if 0 < u.bare.main.length then .error (11, R0) else .ok ({ u.bare with main := l, kind := a.1, data := a.2 }, R2)) := by
        show mainX u.bare R0 R = _
        unfold mainX
        rw [HX.out]
        dsimp only
        rw [if_pos hd]
        rfl
      clear hd HX
      go_wp2_with fail
      refine HT.out.mono ?_
      rintro e w2 ⟨rfl, h2, hg2⟩
      have hgl := HGL.out
      have HU2 := Lib.hid (HU1.out.call hg2)
      have HK2 := Lib.hid (HK1.out.trans (kp_g hg2))
      have HBD2 := Lib.hid (box_only HBD1.out (by omega) hg2)
      have HSL2 : Hid (SlP (fun b => W.heap.size ≤ b) w2 1 strCells StrIn A c l) := HSL.out.move (Move.grown hg2 fun b _ hp => ⟨hp, fun e => by have := Option.some.inj e; omega⟩) fun _ _ h => h
      have HAC := Lib.hid (action_any hE (show RdrAt 66 w2 g E R1.tail Flt.none from h2))
      clear h2 hg2 HT HU1 HK1 HBD1 HSL hgl
      go_wp2_with fail
      refine HAC.out.mono ?_
      rintro e w3 ⟨hg3, h3⟩
      have hgl := HGL.out
      have HU3 := Lib.hid (HU2.out.call hg3)
      have HK3 := Lib.hid (HK2.out.trans (kp_g hg3))
      have HBD3 := Lib.hid (box_only HBD2.out (by omega) hg3)
      have HSL3 : Hid (SlP (fun b => W.heap.size ≤ b) w3 1 strCells StrIn A c l) := HSL2.out.move (Move.grown hg3 fun b _ hp => ⟨hp, fun e => by have := Option.some.inj e; omega⟩) fun _ _ h => h
      clear hg3 HAC HU2 HK2 HBD2 HSL2 hgl
      rcases h3 with ⟨⟨ak, ad⟩, R2, v, hx, rfl, ⟨rfl, b1, b2⟩, hr⟩ | ⟨err, R2, v, hx, rfl, ⟨ak, ad, rfl⟩, hr⟩
      · have HE2 : Hid (mainX u.bare R0 R = if 0 < u.main.length then .error (11, R0) else .ok ({ u.bare with main := l, kind := ak, data := ad }, R2)) := by
          have := HEQ.out
          rw [hx] at this
          exact this
        have hba : Below w3.heap.size w3 (w3.alloc (.cells #[.int .i64 ak, .int .i64 ad] 27)) := (Below.refl _ _).alloc (Nat.le_refl _) _
        have HU4 := Lib.hid (HU3.out.step hba)
        have HK4 : Hid (Kp B g k W (w3.alloc (.cells #[.int .i64 ak, .int .i64 ad] 27))) := HK3.out.trans (kp_below hba)
        have HBD4 := Lib.hid (HBD3.out.alloc (.cells #[.int .i64 ak, .int .i64 ad] 27))
        have HR4 := Lib.hid (hr.step hba)
        have HSL4 : Hid (SlP (fun b => W.heap.size ≤ b) (w3.alloc (.cells #[.int .i64 ak, .int .i64 ad] 27)) 1 strCells StrIn A c l) := HSL3.out.move (.same_below hba) fun _ _ h => h
        have HBA4 := Lib.hid (Box.new w3 27 #[.int .i64 ak, .int .i64 ad])
        have HBB := Lib.hid (And.intro b1 b2)
        clear hx hr b1 b2 hba HEQ HU3 HK3 HBD3 HSL3
        dsimp only
        go_upto_region 5 with (fail)
        generalize w3.alloc (.cells #[.int .i64 ak, .int .i64 ad] 27) = w4 at *
        have hbu := HU4.out.box
        have c2 := hbu.cell 2
        have f2 := hbu.free 2
        have f3 := hbu.free 3
        have f4 := hbu.free 4
        have c3 := hbu.cell 3
        have c4 := hbu.cell 4
        have hkl := hbu.lt
        unfold Unt.cells at c2 c3 c4
        simp only [List.getElem?_toArray, List.getElem?_cons_zero, List.getElem?_cons_succ] at c2 c3 c4
        by_cases hm : 0 < u.main.length
        · have HE3 : Hid (mainX u.bare R0 R = .error (11, R0)) := by
            have := HE2.out
            rw [if_pos hm] at this
            exact this
          have hmI : (0 : Int) < (u.main.length : Int) := by omega
          obtain ⟨A6, c6, hr6⟩ := HR4.out
          have d4 := hr6.box.cell 4
          have d5 := hr6.box.cell 5
          have d7 := hr6.box.cell 6
          have e4 := hr6.box.free 4
          have e5 := hr6.box.free 5
          have e7 := hr6.box.free 6
          have hgl := hr6.box.lt
          unfold rdCells at d4 d5 d7
          simp only [List.getElem?_toArray, List.getElem?_cons_zero, List.getElem?_cons_succ] at d4 d5 d7
          obtain ⟨q0, q1, q2, z0, z1, z2, hl⟩ := box3 HBD4.out
          clear hr6 hbu hm HE2
          go_wp2
          go_ret
          obtain ⟨h1, h2⟩ := rdr_fault (F' := ⟨fe, ff, fr, fi⟩) HR4.out
          exact ⟨HK4.out.trans (kp_g h2), .inr ⟨11, R0, HE3.out, rfl, .inr ⟨by decide, R2, by rw [← HD.out]; exact h1⟩⟩⟩
        · have HE3 : Hid (mainX u.bare R0 R = .ok ({ u.bare with main := l, kind := ak, data := ad }, R2)) := by
            have := HE2.out
            rw [if_neg hm] at this
            exact this
          have hmI : ¬ (0 : Int) < (u.main.length : Int) := by omega
          have hmz : u.main.length = 0 := by omega
          obtain ⟨q0, q1, z0, z1, hl⟩ := box2 HBA4.out
          rw [hmz] at c2
          clear hbu hm HE2 hmI hmz
          go_wp2_with fail
          go_region
          all_goals
            go_wp2
            go_ret
            first
              | exact main_end HE3.out HU4.out HK4.out HR4.out HSL4.out HRW.out HBB.out (last_box HU4.out.box).1.drew (only_drew (only_trans (only_trans (only_set _ _ _ _) (only_set _ _ _ _)) (only_set _ _ _ _)))
              | exact main_end HE3.out HU4.out HK4.out HR4.out HSL4.out HRW.out HBB.out (last_box HU4.out.box).2.drew (only_drew (only_trans (only_trans (only_set _ _ _ _) (only_set _ _ _ _)) (only_set _ _ _ _)))
      · have HE2 : Hid (mainX u.bare R0 R = .error (err, R2)) := by
          have := HEQ.out
          rw [hx] at this
          exact this
        have hba : Below w3.heap.size w3 (w3.alloc (.cells #[.int .i64 ak, .int .i64 ad] 27)) := (Below.refl _ _).alloc (Nat.le_refl _) _
        have HK4 : Hid (Kp B g k W (w3.alloc (.cells #[.int .i64 ak, .int .i64 ad] 27))) := HK3.out.trans (kp_below hba)
        have HR4 := Lib.hid (hr.step hba)
        clear hx hr hba HEQ
        go_wp2
        go_ret
        exact ⟨HK4.out, .inr ⟨err, R2, HE2.out, rfl, HR4.out⟩⟩
  · have HEQ : Hid (mainX u.bare R0 R = .error (err, R1)) := by
      show mainX u.bare R0 R = _
      unfold mainX
      rw [hx]
    have HR1 := Lib.hid hr
    clear hx hr
    go_wp2
    go_ret
    exact ⟨HK1.out, .inr ⟨err, R1, HEQ.out, rfl, HR1.out⟩⟩
end

end Go.Proofs.YtfklajkmikanbaaGreatDoor.LandedP

/- What the landed parser's item gives, at a constant. Condition: what the start lays, as far as the library reads it. -/
namespace Go.Proofs.YtfklajkmikanbaaGreatDoor.LandedP
open Go.RowKit

theorem infoDfn : (Tryz.prog.info? 50).map (fun i => (i.zero, i.size, i.bytes)) = some (some (.agg #[.string ⟨#[]⟩, .int .i64 0, .string ⟨#[]⟩, .string ⟨#[]⟩, .int .u64 0, .slice none 0 0]), 6, 88) := by kernel_rfl

section
variable {W : World} {B g k : Nat} {E : Env} {R : List Tk} {u : Unt}

theorem wrong_row {W' : World} {e : TypeId} {size n : Nat} {v : Value} {xs : List Value} {err : Int} (hr : Wrong 66 W g E err R) (hl : g < B) (own : W.ownsRow B e size v n xs) (hg : W.grownBy W' v.ownBlock) : Wrong 66 W' g E err R := by
  rcases hr with ⟨h1, h2⟩ | ⟨h1, R', h2⟩
  · exact .inl ⟨h1, rdr_row h2 hl own hg⟩
  · exact .inr ⟨h1, R', rdr_row h2 hl own hg⟩

/-- Behind the append, and the store of the row. -/
theorem define_end {w4 w6 : World} {b : Bool} {d : Dfn} {gg cap : Nat} (hu : UniAt B g k u w4) (hk : Kp B g k W w4)
    (h5 : (b = true ∧ ∃ R2, itemX u.bare R = .ok ({ u.bare with defs := u.bare.defs ++ [d.bare] }, R2) ∧ DfnP (Un B u) w4 d ∧ RdrAt 66 w4 g E R2 Flt.none) ∨ (b = false ∧ ∃ err R2, itemX u.bare R = .error (err, R2) ∧ Wrong 66 w4 g E err R2))
    (X : Obj) (own : w6.ownsRow B 50 6 (.slice (some ⟨gg, 0, none⟩) (u.defs.length + 1) cap) (u.defs.length + 1) (u.defs.flatMap Dfn.cells ++ d.cells)) (hg : ((w4.alloc X).drew).grownBy w6 (Value.slice u.dA u.defs.length u.dc).ownBlock)
    (hat : (Value.slice u.dA u.defs.length u.dc).ownBlock = some gg ∨ gg = w4.heap.size + 1) :
    ItemRes B g k E (itemX u.bare R) W (.returned (.bool b)) (w6.setCell ⟨k, 0, none⟩ (.slice (some ⟨gg, 0, none⟩) (u.defs.length + 1) cap)) := by
  have hba : Below w4.heap.size w4 (w4.alloc X).drew := ((Below.refl _ _).alloc (Nat.le_refl _) X).drew
  have hu2 := hu.step hba
  have hs : (w4.alloc X).drew.heap.size = w4.heap.size + 1 := by show (w4.alloc X).heap.size = _; simp
  have hgB : g < B := Nat.lt_trans hu.gk hu.kB
  have ho2 := only_set w6 k 0 (.slice (some ⟨gg, 0, none⟩) (u.defs.length + 1) cap)
  have hkk : Kp B g k W (w6.setCell ⟨k, 0, none⟩ (.slice (some ⟨gg, 0, none⟩) (u.defs.length + 1) cap)) :=
    (hk.trans (kp_below hba)).trans ((Kp.one hg fun b e => .inr (.inr (hu2.drow.lt b e).1)).trans (Kp.one ho2 fun b e => .inr (.inl (Option.some.inj e).symm)))
  refine ⟨hkk, ?_⟩
  rcases h5 with ⟨rfl, R2, hx, hd, hr⟩ | ⟨rfl, err, R2, hx, hr⟩
  · have hat2 : (Value.slice (some ⟨gg, 0, none⟩) (u.defs.length + 1) cap).ownBlock = (Value.slice u.dA u.defs.length u.dc).ownBlock ∨ (Value.slice (some ⟨gg, 0, none⟩) (u.defs.length + 1) cap).ownBlock = some (w4.alloc X).drew.heap.size := by
      rcases hat with h | h
      · exact .inl h.symm
      · exact .inr (by rw [hs, ← h]; rfl)
    obtain ⟨h1, h2⟩ := hu2.pushD (d := d) (A' := some ⟨gg, 0, none⟩) (c' := cap) own hg hat2 (hd.move (.same_below hba))
    refine .inl ⟨_, R2, ?_, rfl, h1, (rdr_row (hr.step hba) hgB hu2.drow hg).other ho2 hu.gk⟩
    rw [hx]
    simp [Unt.bare]
  · exact .inr ⟨err, R2, hx, rfl, (wrong_row (hr.step hba) hgB hu2.drow hg).other ho2 hu.gk⟩

set_option maxRecDepth 100000 in
set_option maxHeartbeats 8000000 in
theorem item_define (hE : ∀ W, E.laid W → Laid W) (hu : UniAt B g k u W) (h : RdrAt 66 W g E R Flt.none) (hc : u.defs.length + u.pols.length + R.length ≤ 1000000) (hd : isL 5 defineL R = true) :
    Calls Tryz.prog 17 #[.pointer (some ⟨g, 0, none⟩), .pointer (some ⟨k, 0, none⟩)] W (ItemRes B g k E (itemX u.bare R) W) := by
  obtain ⟨i0, hi, hz0, hz1, hz2⟩ := info_parts infoDfn
  have hst := store_cx
  have HH := Lib.hid (here_any 11 Flt.none h)
  have HU := Lib.hid hu
  have HR := Lib.hid h
  have HGL : Hid (g < k ∧ k < B ∧ B ≤ W.heap.size) := ⟨hu.gk, hu.kB, hu.BW⟩
  have HRW : Hid (∀ b, W.heap.size ≤ b → Un B u b) := fun b hb => ⟨Nat.le_trans hu.BW hb, fun e => by have := (hu.drow.lt _ e).2; omega, fun e => by have := (hu.prow.lt _ e).2; omega⟩
  have HEQ : Hid (itemX u.bare R = match defineX R.tail with
      | .error x => .error x
      | .ok (d, R1) => .ok ({ u.bare with defs := u.bare.defs ++ [d] }, R1)) := by
    show itemX u.bare R = _
    unfold itemX
    rw [if_pos hd]
    rfl
  have HDD := Lib.hid hd
  have hdl : u.defs.length ≤ 1000000 := by omega
  clear hu h hc hd
  go_enter Tryz.func17, Tryz.ntmps17
  go_wp2_with fail
  refine HH.out.mono ?_
  rintro e w1 ⟨rfl, hb1⟩
  have hba := below_alloc hb1 (Nat.le_refl _) (.cells #[.int .i64 (hereV E 11 R).e, .int .i64 (hereV E 11 R).file, .complex .f64 (hereV E 11 R).re (hereV E 11 R).im] 33)
  have HU1 := Lib.hid (HU.out.step hba)
  have HK1 : Hid (Kp B g k W (w1.alloc (.cells #[.int .i64 (hereV E 11 R).e, .int .i64 (hereV E 11 R).file, .complex .f64 (hereV E 11 R).re (hereV E 11 R).im] 33))) := kp_below hba
  have HT : Hid (Calls Tryz.prog 26 #[.pointer (some ⟨g, 0, none⟩), .int .i64 5, .string ⟨#[35, 100, 101, 102, 105, 110, 101]⟩] (w1.alloc (.cells #[.int .i64 (hereV E 11 R).e, .int .i64 (hereV E 11 R).file, .complex .f64 (hereV E 11 R).re (hereV E 11 R).im] 33)) (Took g E R true (w1.alloc (.cells #[.int .i64 (hereV E 11 R).e, .int .i64 (hereV E 11 R).file, .complex .f64 (hereV E 11 R).re (hereV E 11 R).im] 33)))) := by
    obtain ⟨A, c, h⟩ := HR.out.step hba
    have := take_any h 5 ⟨#[35, 100, 101, 102, 105, 110, 101]⟩
    rw [show isL 5 (⟨#[35, 100, 101, 102, 105, 110, 101]⟩ : ByteArray).data.toList R = true from HDD.out] at this
    exact this
  have HZ1 := Lib.hid hb1.size
  clear hb1 hba HH HU HR HDD
  unfold Flt.val
  dsimp only
  go_wp2_with fail
  refine HT.out.mono ?_
  rintro e w2 ⟨rfl, h2, hg2⟩
  have HU2 := Lib.hid (HU1.out.call hg2)
  have HK2 := Lib.hid (HK1.out.trans (kp_g hg2))
  have HDE := Lib.hid (define_any hE (show RdrAt 66 w2 g E R.tail Flt.none from h2))
  have HZ2 : Hid (W.heap.size ≤ w2.heap.size) := HK2.out.size
  clear h2 hg2 HT HU1 HK1
  go_wp2_with fail
  refine HDE.out.mono ?_
  rintro e w3 ⟨hg3, h3⟩
  have HU3 := Lib.hid (HU2.out.call hg3)
  have HK3 := Lib.hid (HK2.out.trans (kp_g hg3))
  clear hg3 HDE HU2 HK2
  have H3 : Hid (∃ (b : Bool) (d : Dfn), e = .returned (.tuple #[.agg d.cells.toArray, .bool b]) ∧ ((b = true ∧ ∃ R2, itemX u.bare R = .ok ({ u.bare with defs := u.bare.defs ++ [d.bare] }, R2) ∧ DfnP (Un B u) w3 d ∧ RdrAt 66 w3 g E R2 Flt.none) ∨ (b = false ∧ ∃ err R2, itemX u.bare R = .error (err, R2) ∧ Wrong 66 w3 g E err R2))) := by
    have hq := HEQ.out
    rcases h3 with ⟨a, R2, v, hx, rfl, ⟨d, rfl, rfl, hin⟩, hr⟩ | ⟨err, R2, v, hx, rfl, ⟨d, rfl⟩, hr⟩
    · rw [hx] at hq
      exact ⟨true, d, rfl, .inl ⟨rfl, R2, hq, hin.move (Move.of _ fun b _ hp => HRW.out b (Nat.le_trans HZ2.out hp)), hr⟩⟩
    · rw [hx] at hq
      exact ⟨false, d, rfl, .inr ⟨rfl, err, R2, hq, hr⟩⟩
  clear h3 HEQ
  obtain ⟨b, d, rfl, H4⟩ := H3.out
  have H4 := Lib.hid H4
  clear H3
  have hba : Below w3.heap.size w3 (w3.alloc (.cells d.cells.toArray 50)) := (Below.refl _ _).alloc (Nat.le_refl _) _
  have HU4 := Lib.hid (HU3.out.step hba)
  have HK4 : Hid (Kp B g k W (w3.alloc (.cells d.cells.toArray 50))) := HK3.out.trans (kp_below hba)
  have H5 : Hid ((b = true ∧ ∃ R2, itemX u.bare R = .ok ({ u.bare with defs := u.bare.defs ++ [d.bare] }, R2) ∧ DfnP (Un B u) (w3.alloc (.cells d.cells.toArray 50)) d ∧ RdrAt 66 (w3.alloc (.cells d.cells.toArray 50)) g E R2 Flt.none) ∨ (b = false ∧ ∃ err R2, itemX u.bare R = .error (err, R2) ∧ Wrong 66 (w3.alloc (.cells d.cells.toArray 50)) g E err R2)) := by
    rcases H4.out with ⟨rfl, R2, hx, he2, hr2⟩ | ⟨rfl, err, R2, hx, hr2⟩
    · exact .inl ⟨rfl, R2, hx, he2.move (.same_below hba), hr2.step hba⟩
    · exact .inr ⟨rfl, err, R2, hx, hr2.step hba⟩
  have HBD4 := Lib.hid (Box.new w3 50 d.cells.toArray)
  clear hba HU3 HK3 H4
  obtain ⟨nm0, ⟨kd, op, nm, nu, A, c, ks⟩⟩ := d
  unfold Dfn.cells Ex.cells at *
  dsimp only at HU4 HK4 H5 HBD4 ⊢
  go_upto_region 4 with (fail)
  generalize w3.alloc (.cells #[.string nm0, .int .i64 kd, .string op, .string nm, .int .u64 nu, .slice A ks.length c] 50) = w4 at *
  obtain ⟨p0, p1, p2, p3, p4, p5, y0, y1, y2, y3, y4, y5, pl⟩ := box6 HBD4.out
  have hbu := HU4.out.box
  have c0 := hbu.cell 0
  have f0 := hbu.free 0
  have hkl := hbu.lt
  unfold Unt.cells at c0
  simp only [List.getElem?_toArray, List.getElem?_cons_zero] at c0
  have hown := HU4.out.drow
  have hBz : B ≤ w4.heap.size := HU4.out.BW
  have HBK : Hid (∀ X w6, ((w4.alloc X).drew).grownBy w6 (Value.slice u.dA u.defs.length u.dc).ownBlock → Box w6 k 29 u.cells.toArray) := fun X w6 hg =>
    (hg.block k (((HU4.out.box.alloc X).drew).lt) (fun e => by have := (hown.lt k e.symm).1; have := HGL.out; omega)).trans ((HU4.out.box.alloc X).drew)
  clear hbu
  go_wp2_with fail
  go_region_law ((refine step_append_lies _ (by rfl) (.tmp 24) (.tmp 26) _ (by rfl) B 50 i0 _ 6 88 Tryz.underlying24 hi hz0 hz1 hz2 (by rfl) (by omega) _ _ _ (by rfl) ((hown.alloc _).drew) _ 1 1 _ (by rfl) (by rfl) (World.news_of_block (heap_alloc_new _ _)) (by simp [Value.oneCell']) (by omega) (by unfold maxLen; omega) (by omega) (by simp; omega) (w4.heap.size + 1) (by simp) ?_; intro gg cap w6 hown6 hgrow hat hlt; have hbk := HBK.out _ _ hgrow; have s0 : w6.cell? ⟨k, 0, none⟩ = some (.slice u.dA u.defs.length u.dc) := hbk.cell 0; have s1 := hbk.free 0; have s2 := hbk.lt; have HBX6 := Lib.hid hbk; clear hbk))
  all_goals
    go_wp2
    go_ret
    exact define_end HU4.out HK4.out H5.out _ hown6 hgrow hat
end

end Go.Proofs.YtfklajkmikanbaaGreatDoor.LandedP
