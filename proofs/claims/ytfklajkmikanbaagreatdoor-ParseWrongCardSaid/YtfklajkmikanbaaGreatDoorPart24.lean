/- Texts of mine put together (a claim has at most so many files): ParItP, ParItem. -/
import Derived.Test.YtfklajkmikanbaaGreatDoorPart23
/- What the landed parser's item gives, at a policy. Condition: what the start lays, as far as the library reads it. -/
namespace Go.Proofs.YtfklajkmikanbaaGreatDoor.LandedP
open Go.RowKit

theorem infoPol : (Tryz.prog.info? 54).map (fun i => (i.zero, i.size, i.bytes)) = some (some (.agg #[.string ⟨#[]⟩, .slice none 0 0]), 2, 40) := by kernel_rfl

section
variable {W : World} {B g k : Nat} {E : Env} {R : List Tk} {u : Unt}

/-- Behind the append, and the store of the row. -/
theorem policy_end {w4 w6 : World} {b : Bool} {d : Pol} {gg cap : Nat} (hu : UniAt B g k u w4) (hk : Kp B g k W w4)
    (h5 : (b = true ∧ ∃ R2, itemX u.bare R = .ok ({ u.bare with pols := u.bare.pols ++ [d.bare] }, R2) ∧ PolP (Un B u) w4 d ∧ RdrAt 66 w4 g E R2 Flt.none) ∨ (b = false ∧ ∃ err R2, itemX u.bare R = .error (err, R2) ∧ Wrong 66 w4 g E err R2))
    (X : Obj) (own : w6.ownsRow B 54 2 (.slice (some ⟨gg, 0, none⟩) (u.pols.length + 1) cap) (u.pols.length + 1) (u.pols.flatMap Pol.cells ++ d.cells)) (hg : ((w4.alloc X).drew).grownBy w6 (Value.slice u.pA u.pols.length u.pc).ownBlock)
    (hat : (Value.slice u.pA u.pols.length u.pc).ownBlock = some gg ∨ gg = w4.heap.size + 1) :
    ItemRes B g k E (itemX u.bare R) W (.returned (.bool b)) (w6.setCell ⟨k, 1, none⟩ (.slice (some ⟨gg, 0, none⟩) (u.pols.length + 1) cap)) := by
  have hba : Below w4.heap.size w4 (w4.alloc X).drew := ((Below.refl _ _).alloc (Nat.le_refl _) X).drew
  have hu2 := hu.step hba
  have hs : (w4.alloc X).drew.heap.size = w4.heap.size + 1 := by show (w4.alloc X).heap.size = _; simp
  have hgB : g < B := Nat.lt_trans hu.gk hu.kB
  have ho2 := only_set w6 k 1 (.slice (some ⟨gg, 0, none⟩) (u.pols.length + 1) cap)
  have hkk : Kp B g k W (w6.setCell ⟨k, 1, none⟩ (.slice (some ⟨gg, 0, none⟩) (u.pols.length + 1) cap)) :=
    (hk.trans (kp_below hba)).trans ((Kp.one hg fun b e => .inr (.inr (hu2.prow.lt b e).1)).trans (Kp.one ho2 fun b e => .inr (.inl (Option.some.inj e).symm)))
  refine ⟨hkk, ?_⟩
  rcases h5 with ⟨rfl, R2, hx, hd, hr⟩ | ⟨rfl, err, R2, hx, hr⟩
  · have hat2 : (Value.slice (some ⟨gg, 0, none⟩) (u.pols.length + 1) cap).ownBlock = (Value.slice u.pA u.pols.length u.pc).ownBlock ∨ (Value.slice (some ⟨gg, 0, none⟩) (u.pols.length + 1) cap).ownBlock = some (w4.alloc X).drew.heap.size := by
      rcases hat with h | h
      · exact .inl h.symm
      · exact .inr (by rw [hs, ← h]; rfl)
    obtain ⟨h1, h2⟩ := hu2.pushP (d := d) (A' := some ⟨gg, 0, none⟩) (c' := cap) own hg hat2 (hd.move (.same_below hba))
    refine .inl ⟨_, R2, ?_, rfl, h1, (rdr_row (hr.step hba) hgB hu2.prow hg).other ho2 hu.gk⟩
    rw [hx]
    simp [Unt.bare]
  · exact .inr ⟨err, R2, hx, rfl, (wrong_row (hr.step hba) hgB hu2.prow hg).other ho2 hu.gk⟩

set_option maxRecDepth 100000 in
set_option maxHeartbeats 8000000 in
theorem item_policy (hE : ∀ W, E.laid W → Laid W) (hu : UniAt B g k u W) (h : RdrAt 66 W g E R Flt.none) (hc : u.defs.length + u.pols.length + R.length ≤ 1000000) (hd0 : isL 5 defineL R = false) (hd : isL 1 policyL R = true) :
    Calls Tryz.prog 17 #[.pointer (some ⟨g, 0, none⟩), .pointer (some ⟨k, 0, none⟩)] W (ItemRes B g k E (itemX u.bare R) W) := by
  obtain ⟨i0, hi, hz0, hz1, hz2⟩ := info_parts infoPol
  have hst := store_cx
  have HH := Lib.hid (here_any 11 Flt.none h)
  have HU := Lib.hid hu
  have HR := Lib.hid h
  have HGL : Hid (g < k ∧ k < B ∧ B ≤ W.heap.size) := ⟨hu.gk, hu.kB, hu.BW⟩
  have HRW : Hid (∀ b, W.heap.size ≤ b → Un B u b) := fun b hb => ⟨Nat.le_trans hu.BW hb, fun e => by have := (hu.drow.lt _ e).2; omega, fun e => by have := (hu.prow.lt _ e).2; omega⟩
  have HEQ : Hid (itemX u.bare R = match policyX R.tail with
      | .error x => .error x
      | .ok (d, R1) => .ok ({ u.bare with pols := u.bare.pols ++ [d] }, R1)) := by
    show itemX u.bare R = _
    unfold itemX
    rw [if_neg (by rw [hd0]; decide), if_pos hd]
    rfl
  have HDD := Lib.hid hd
  have HD0 := Lib.hid hd0
  have hdl : u.pols.length ≤ 1000000 := by omega
  clear hu h hc hd hd0
  go_enter Tryz.func17, Tryz.ntmps17
  go_wp2_with fail
  refine HH.out.mono ?_
  rintro e w1 ⟨rfl, hb1⟩
  have hba := below_alloc hb1 (Nat.le_refl _) (.cells #[.int .i64 (hereV E 11 R).e, .int .i64 (hereV E 11 R).file, .complex .f64 (hereV E 11 R).re (hereV E 11 R).im] 33)
  have HU1 := Lib.hid (HU.out.step hba)
  have HK1 : Hid (Kp B g k W (w1.alloc (.cells #[.int .i64 (hereV E 11 R).e, .int .i64 (hereV E 11 R).file, .complex .f64 (hereV E 11 R).re (hereV E 11 R).im] 33))) := kp_below hba
  have HT : Hid (Calls Tryz.prog 26 #[.pointer (some ⟨g, 0, none⟩), .int .i64 5, .string ⟨#[35, 100, 101, 102, 105, 110, 101]⟩] (w1.alloc (.cells #[.int .i64 (hereV E 11 R).e, .int .i64 (hereV E 11 R).file, .complex .f64 (hereV E 11 R).re (hereV E 11 R).im] 33)) (Took g E R false (w1.alloc (.cells #[.int .i64 (hereV E 11 R).e, .int .i64 (hereV E 11 R).file, .complex .f64 (hereV E 11 R).re (hereV E 11 R).im] 33)))) := by
    obtain ⟨A, c, h⟩ := HR.out.step hba
    have := take_any h 5 ⟨#[35, 100, 101, 102, 105, 110, 101]⟩
    rw [show isL 5 (⟨#[35, 100, 101, 102, 105, 110, 101]⟩ : ByteArray).data.toList R = false from HD0.out] at this
    exact this
  have HZ1 := Lib.hid hb1.size
  clear hb1 hba HH HU HR HD0
  unfold Flt.val
  dsimp only
  go_wp2_with fail
  refine HT.out.mono ?_
  rintro e w9 ⟨rfl, h9, hg9⟩
  have HU9 := Lib.hid (HU1.out.call hg9)
  have HK9 := Lib.hid (HK1.out.trans (kp_g hg9))
  have HT9 : Hid (Calls Tryz.prog 26 #[.pointer (some ⟨g, 0, none⟩), .int .i64 1, .string ⟨#[80, 79, 76, 73, 67, 89]⟩] w9 (Took g E R true w9)) := by
    obtain ⟨A, c, h⟩ := (show RdrAt 66 w9 g E R Flt.none from h9)
    have := take_any h 1 ⟨#[80, 79, 76, 73, 67, 89]⟩
    rw [show isL 1 (⟨#[80, 79, 76, 73, 67, 89]⟩ : ByteArray).data.toList R = true from HDD.out] at this
    exact this
  clear h9 hg9 HT HU1 HK1 HDD
  go_wp2_with fail
  refine HT9.out.mono ?_
  rintro e w2 ⟨rfl, h2, hg2⟩
  have HU2 := Lib.hid (HU9.out.call hg2)
  have HK2 := Lib.hid (HK9.out.trans (kp_g hg2))
  have HDE := Lib.hid (policy_any hE (show RdrAt 66 w2 g E R.tail Flt.none from h2))
  have HZ2 : Hid (W.heap.size ≤ w2.heap.size) := HK2.out.size
  clear h2 hg2 HT9 HU9 HK9
  go_wp2_with fail
  refine HDE.out.mono ?_
  rintro e w3 ⟨hg3, h3⟩
  have HU3 := Lib.hid (HU2.out.call hg3)
  have HK3 := Lib.hid (HK2.out.trans (kp_g hg3))
  clear hg3 HDE HU2 HK2
  have H3 : Hid (∃ (b : Bool) (d : Pol), e = .returned (.tuple #[.agg d.cells.toArray, .bool b]) ∧ ((b = true ∧ ∃ R2, itemX u.bare R = .ok ({ u.bare with pols := u.bare.pols ++ [d.bare] }, R2) ∧ PolP (Un B u) w3 d ∧ RdrAt 66 w3 g E R2 Flt.none) ∨ (b = false ∧ ∃ err R2, itemX u.bare R = .error (err, R2) ∧ Wrong 66 w3 g E err R2))) := by
    have hq := HEQ.out
    rcases h3 with ⟨a, R2, v, hx, rfl, ⟨d, rfl, rfl, hin⟩, hr⟩ | ⟨err, R2, v, hx, rfl, ⟨s0, A0, n0, c0, rfl⟩, hr⟩
    · rw [hx] at hq
      exact ⟨true, d, rfl, .inl ⟨rfl, R2, hq, hin.move (Move.of _ fun b _ hp => HRW.out b (Nat.le_trans HZ2.out hp)), hr⟩⟩
    · rw [hx] at hq
      exact ⟨false, ⟨s0, A0, c0, List.replicate n0 ⟨⟨#[]⟩, 0, 0, none, 0, []⟩⟩, by simp [Pol.cells], .inr ⟨rfl, err, R2, hq, hr⟩⟩
  clear h3 HEQ
  obtain ⟨b, d, rfl, H4⟩ := H3.out
  have H4 := Lib.hid H4
  clear H3
  have hba : Below w3.heap.size w3 (w3.alloc (.cells d.cells.toArray 54)) := (Below.refl _ _).alloc (Nat.le_refl _) _
  have HU4 := Lib.hid (HU3.out.step hba)
  have HK4 : Hid (Kp B g k W (w3.alloc (.cells d.cells.toArray 54))) := HK3.out.trans (kp_below hba)
  have H5 : Hid ((b = true ∧ ∃ R2, itemX u.bare R = .ok ({ u.bare with pols := u.bare.pols ++ [d.bare] }, R2) ∧ PolP (Un B u) (w3.alloc (.cells d.cells.toArray 54)) d ∧ RdrAt 66 (w3.alloc (.cells d.cells.toArray 54)) g E R2 Flt.none) ∨ (b = false ∧ ∃ err R2, itemX u.bare R = .error (err, R2) ∧ Wrong 66 (w3.alloc (.cells d.cells.toArray 54)) g E err R2)) := by
    rcases H4.out with ⟨rfl, R2, hx, he2, hr2⟩ | ⟨rfl, err, R2, hx, hr2⟩
    · exact .inl ⟨rfl, R2, hx, he2.move (.same_below hba), hr2.step hba⟩
    · exact .inr ⟨rfl, err, R2, hx, hr2.step hba⟩
  have HBD4 := Lib.hid (Box.new w3 54 d.cells.toArray)
  clear hba HU3 HK3 H4
  obtain ⟨nm0, A, c, ks⟩ := d
  unfold Pol.cells at *
  dsimp only at HU4 HK4 H5 HBD4 ⊢
  go_upto_region 8 with (fail)
  generalize w3.alloc (.cells #[.string nm0, .slice A ks.length c] 54) = w4 at *
  obtain ⟨p0, p1, y0, y1, pl⟩ := box2 HBD4.out
  have hbu := HU4.out.box
  have c0 := hbu.cell 1
  have f0 := hbu.free 1
  have hkl := hbu.lt
  unfold Unt.cells at c0
  simp only [List.getElem?_toArray, List.getElem?_cons_zero, List.getElem?_cons_succ] at c0
  have hown := HU4.out.prow
  have hBz : B ≤ w4.heap.size := HU4.out.BW
  have HBK : Hid (∀ X w6, ((w4.alloc X).drew).grownBy w6 (Value.slice u.pA u.pols.length u.pc).ownBlock → Box w6 k 29 u.cells.toArray) := fun X w6 hg =>
    (hg.block k (((HU4.out.box.alloc X).drew).lt) (fun e => by have := (hown.lt k e.symm).1; have := HGL.out; omega)).trans ((HU4.out.box.alloc X).drew)
  clear hbu
  go_wp2_with fail
  go_region_law ((refine step_append_lies _ (by rfl) (.tmp 43) (.tmp 45) _ (by rfl) B 54 i0 _ 2 40 Tryz.underlying25 hi hz0 hz1 hz2 (by rfl) (by omega) _ _ _ (by rfl) ((hown.alloc _).drew) _ 1 1 _ (by rfl) (by rfl) (World.news_of_block (heap_alloc_new _ _)) (by simp [Value.oneCell']) (by omega) (by unfold maxLen; omega) (by omega) (by simp; omega) (w4.heap.size + 1) (by simp) ?_; intro gg cap w6 hown6 hgrow hat hlt; have hbk := HBK.out _ _ hgrow; have s0 : w6.cell? ⟨k, 1, none⟩ = some (.slice u.pA u.pols.length u.pc) := hbk.cell 1; have s1 := hbk.free 1; have s2 := hbk.lt; have HBX6 := Lib.hid hbk; clear hbk))
  all_goals
    go_wp2
    go_ret
    exact policy_end HU4.out HK4.out H5.out _ hown6 hgrow hat
end

end Go.Proofs.YtfklajkmikanbaaGreatDoor.LandedP

/- What the landed parser's item gives. Condition: what the start lays, as far as the library reads it. -/
namespace Go.Proofs.YtfklajkmikanbaaGreatDoor.LandedP
open Go.RowKit

section
variable {W : World} {B g k : Nat} {E : Env} {R : List Tk} {u : Unt}

set_option maxRecDepth 100000 in
set_option maxHeartbeats 8000000 in
theorem item_else (hE : ∀ W, E.laid W → Laid W) (hu : UniAt B g k u W) (h : RdrAt 66 W g E R Flt.none) (hd0 : isL 5 defineL R = false) (hd1 : isL 1 policyL R = false) :
    Calls Tryz.prog 17 #[.pointer (some ⟨g, 0, none⟩), .pointer (some ⟨k, 0, none⟩)] W (ItemRes B g k E (itemX u.bare R) W) := by
  have hst := store_cx
  have HH := Lib.hid (here_any 11 Flt.none h)
  have HU := Lib.hid hu
  have HR := Lib.hid h
  have HGL : Hid (g < k ∧ k < B ∧ B ≤ W.heap.size) := ⟨hu.gk, hu.kB, hu.BW⟩
  have HEQ : Hid (itemX u.bare R = if isL 1 useL R = true then mainX u.bare R R.tail else .error (3, R)) := by
    show itemX u.bare R = _
    unfold itemX
    rw [if_neg (by rw [hd0]; decide), if_neg (by rw [hd1]; decide)]
  have HD0 := Lib.hid hd0
  have HD1 := Lib.hid hd1
  clear hu h hd0 hd1
  go_enter Tryz.func17, Tryz.ntmps17
  go_wp2_with fail
  refine HH.out.mono ?_
  rintro e w1 ⟨rfl, hb1⟩
  obtain ⟨F, hF⟩ : ∃ F, F = hereV E 11 R := ⟨_, rfl⟩
  rw [← hF]
  have HF := Lib.hid hF
  have hba := below_alloc hb1 (Nat.le_refl _) (.cells #[.int .i64 F.e, .int .i64 F.file, .complex .f64 F.re F.im] 33)
  have HU1 := Lib.hid (HU.out.step hba)
  have HK1 : Hid (Kp B g k W (w1.alloc (.cells #[.int .i64 F.e, .int .i64 F.file, .complex .f64 F.re F.im] 33))) := kp_below hba
  have HBX1 := Lib.hid (Box.new w1 33 #[.int .i64 F.e, .int .i64 F.file, .complex .f64 F.re F.im])
  have HT : Hid (Calls Tryz.prog 26 #[.pointer (some ⟨g, 0, none⟩), .int .i64 5, .string ⟨#[35, 100, 101, 102, 105, 110, 101]⟩] (w1.alloc (.cells #[.int .i64 F.e, .int .i64 F.file, .complex .f64 F.re F.im] 33)) (Took g E R false (w1.alloc (.cells #[.int .i64 F.e, .int .i64 F.file, .complex .f64 F.re F.im] 33)))) := by
    obtain ⟨A, c, h⟩ := HR.out.step hba
    have := take_any h 5 ⟨#[35, 100, 101, 102, 105, 110, 101]⟩
    rw [show isL 5 (⟨#[35, 100, 101, 102, 105, 110, 101]⟩ : ByteArray).data.toList R = false from HD0.out] at this
    exact this
  have HZ1 := Lib.hid hb1.size
  clear hb1 hba HH HU HR HD0 hF
  obtain ⟨fe, ff, fr, fi⟩ := F
  unfold Flt.val
  dsimp only at *
  go_wp2_with fail
  refine HT.out.mono ?_
  rintro e w9 ⟨rfl, h9, hg9⟩
  have hgl := HGL.out
  have hz1 := HZ1.out
  have HU9 := Lib.hid (HU1.out.call hg9)
  have HK9 := Lib.hid (HK1.out.trans (kp_g hg9))
  have HBX9 := Lib.hid (box_only HBX1.out (by omega) hg9)
  have HT9 : Hid (Calls Tryz.prog 26 #[.pointer (some ⟨g, 0, none⟩), .int .i64 1, .string ⟨#[80, 79, 76, 73, 67, 89]⟩] w9 (Took g E R false w9)) := by
    obtain ⟨A, c, h⟩ := (show RdrAt 66 w9 g E R Flt.none from h9)
    have := take_any h 1 ⟨#[80, 79, 76, 73, 67, 89]⟩
    rw [show isL 1 (⟨#[80, 79, 76, 73, 67, 89]⟩ : ByteArray).data.toList R = false from HD1.out] at this
    exact this
  clear h9 hg9 HT HU1 HK1 HD1 HBX1
  go_wp2_with fail
  refine HT9.out.mono ?_
  rintro e w8 ⟨rfl, h8, hg8⟩
  have HU8 := Lib.hid (HU9.out.call hg8)
  have HK8 := Lib.hid (HK9.out.trans (kp_g hg8))
  have HBX8 := Lib.hid (box_only HBX9.out (by omega) hg8)
  have HT8 : Hid (Calls Tryz.prog 26 #[.pointer (some ⟨g, 0, none⟩), .int .i64 1, .string ⟨#[85, 83, 69]⟩] w8 (Took g E R (isL 1 useL R) w8)) := by
    obtain ⟨A, c, h⟩ := (show RdrAt 66 w8 g E R Flt.none from h8)
    exact take_any h 1 ⟨#[85, 83, 69]⟩
  clear h8 hg8 HT9 HU9 HK9 HBX9
  cases hus : isL 1 useL R
  · rw [hus] at HT8
    have HE2 : Hid (itemX u.bare R = .error (3, R)) := by
      have := HEQ.out
      rw [if_neg (by rw [hus]; decide)] at this
      exact this
    clear hus HEQ
    go_wp2_with fail
    refine HT8.out.mono ?_
    rintro e w2 ⟨rfl, h2, hg2⟩
    have HK2 := Lib.hid (HK8.out.trans (kp_g hg2))
    have HR2 := Lib.hid h2
    clear h2 hg2 HT8
    go_wp2
    go_ret
    exact ⟨HK2.out, .inr ⟨3, R, HE2.out, rfl, .inl ⟨rfl, HR2.out⟩⟩⟩
  · rw [hus] at HT8
    have HE2 : Hid (itemX u.bare R = mainX u.bare R R.tail) := by
      have := HEQ.out
      rw [if_pos hus] at this
      exact this
    clear hus HEQ
    go_wp2_with fail
    refine HT8.out.mono ?_
    rintro e w2 ⟨rfl, h2, hg2⟩
    have HU2 := Lib.hid (HU8.out.call hg2)
    have HK2 := Lib.hid (HK8.out.trans (kp_g hg2))
    have HBX2 := Lib.hid (box_only HBX8.out (by omega) hg2)
    have HMA := Lib.hid (main_any hE HU2.out (show RdrAt 66 w2 g E R.tail Flt.none from h2) ⟨fe, ff, fr, fi⟩ R HF.out)
    obtain ⟨q0, q1, q2, z0, z1, z2, hl⟩ := box3 HBX2.out
    clear h2 hg2 HT8 HU8 HK8 HBX8
    unfold Flt.val at HMA
    dsimp only at HMA
    go_wp2_with fail
    refine HMA.out.mono ?_
    rintro e w3 ⟨hk3, h3⟩
    have HK3 := Lib.hid (HK2.out.trans hk3)
    rcases h3 with ⟨u', R', hx, rfl, hu', hr'⟩ | ⟨err, R', hx, rfl, hw'⟩
    · have HX := Lib.hid (HE2.out.trans hx)
      have HU3 := Lib.hid hu'
      have HR3 := Lib.hid hr'
      clear hk3 hx hu' hr' HMA HK2
      go_wp2
      go_ret
      exact ⟨HK3.out, .inl ⟨u', R', HX.out, rfl, HU3.out, HR3.out⟩⟩
    · have HX := Lib.hid (HE2.out.trans hx)
      have HR3 := Lib.hid hw'
      clear hk3 hx hw' HMA HK2
      go_wp2
      go_ret
      exact ⟨HK3.out, .inr ⟨err, R', HX.out, rfl, HR3.out⟩⟩

theorem item_any (hE : ∀ W, E.laid W → Laid W) (hu : UniAt B g k u W) (h : RdrAt 66 W g E R Flt.none) (hc : u.defs.length + u.pols.length + R.length ≤ 1000000) :
    Calls Tryz.prog 17 #[.pointer (some ⟨g, 0, none⟩), .pointer (some ⟨k, 0, none⟩)] W (ItemRes B g k E (itemX u.bare R) W) := by
  cases h1 : isL 5 defineL R
  · cases h2 : isL 1 policyL R
    · exact item_else hE hu h h1 h2
    · exact item_policy hE hu h hc h1 h2
  · exact item_define hE hu h hc h1
end

end Go.Proofs.YtfklajkmikanbaaGreatDoor.LandedP
