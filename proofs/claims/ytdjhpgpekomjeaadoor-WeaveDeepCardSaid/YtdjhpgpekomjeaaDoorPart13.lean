/- Texts of mine put together (a claim has at most so many files): TokCode, WcToks. -/
import Derived.Test.YtdjhpgpekomjeaaDoorTokLand
import Derived.Test.YtdjhpgpekomjeaaDoorPart7
import Derived.Maps.OwnOps
/- What the landed token's Split gives, at every text. No condition but what the start lays. -/
namespace Go.Proofs.YtdjhpgpekomjeaaDoor
open Go.RowKit

set_option maxRecDepth 100000 in
set_option maxHeartbeats 4000000 in
/-- A text that is too long. -/
theorem split_long (s : ByteArray) (file : Int) (w : World) (hs : 20000 < s.size) (hs2 : s.size ≤ 1099511627776) :
    Calls Tryd.prog 16 #[.string s, .int .i64 file] w (SplitNew file (.error (9, 1, 1)) w) := by
  have HAT : Hid (∀ W : World, Calls Tryd.prog 22 #[.string s, .int .i64 0] W fun e w' => e = .returned (.complex .f64 (fl ((1 : Nat) : Int)) (fl ((1 : Nat) : Int))) ∧ W = w') := fun W => by
    have := at_any s 0 W hs2 (by decide) (by decide)
    have e : posAt s.data.toList 0 = (1, 1) := by
      have := cut_at s 0 (Nat.zero_le _)
      rw [List.take_zero] at this
      exact this
    rw [e] at this
    exact this
  have hst := store_cx
  have HBF := Lib.hid (Box.new w 30 (faultCells 0 0 0 0))
  have HN0 : Hid (Below w.heap.size w (w.alloc (.cells (faultCells 0 0 0 0) 30))) := below_alloc (Below.refl _ _) (Nat.le_refl _) _
  unfold faultCells at HBF HN0
  have hsI : (20000 : Int) < (s.size : Int) := by omega
  clear hs
  go_enter Tryd.func16, Tryd.ntmps16
  go_wp2_with fail
  generalize hw0 : w.alloc (.cells #[.int .i64 0, .int .i64 0, .complex .f64 0 0] 30) = w0 at *
  clear hw0
  refine (HAT.out _).mono ?_
  rintro r w1 ⟨rfl, rfl⟩
  obtain ⟨c0, c1, c2, z0, z1, z2, g0⟩ := box_cells HBF.out
  go_wp2_with fail
  refine bodyPost_ret (results_tmp_box rfl _ _ w.heap.size 30 _ rfl (box_trio HBF.out) _ Tryd.underlying30 rfl faultSize) rfl ⟨.inl ⟨9, (1, 1), none, 0, rfl, rfl⟩, set3_below (Nat.le_refl _) HN0.out _ _ _⟩

/-- Its tokens lie in a row of its own. -/
theorem split_new_land (s : ByteArray) (file : Int) (w : World) (hL : Laid w) (hs2 : s.size ≤ 1099511627776) :
    Calls Tryd.prog 16 #[.string s, .int .i64 file] w (SplitNew file (splitOf s.data.toList) w) := by
  have hz : s.data.toList.length = s.size := (Lib.size_eq s).symm
  by_cases hs : s.size ≤ 20000
  · have := split_land s file w hs hL
    have e : splitOf s.data.toList = told (splitL s.size (1, 1) s.data.toList) := by
      unfold splitOf
      rw [if_neg (by omega), hz]
      cases splitL s.size (1, 1) s.data.toList <;> rfl
    rw [e]
    exact this
  · have := split_long s file w (by omega) hs2
    have e : splitOf s.data.toList = .error (9, 1, 1) := by
      unfold splitOf
      rw [if_pos (by omega)]
    rw [e]
    exact this

theorem split_any_land (s : ByteArray) (file : Int) (w : World) (hL : Laid w) (hs2 : s.size ≤ 1099511627776) :
    Calls Tryd.prog 16 #[.string s, .int .i64 file] w (SplitRes file (splitOf s.data.toList) w) :=
  (split_new_land s file w hL hs2).mono fun _ _ h => h.res

end Go.Proofs.YtdjhpgpekomjeaaDoor

/- A file's tokens, as the landed weave keeps them. No condition but sizes and what the start lays. -/
namespace Go.Proofs.YtdjhpgpekomjeaaDoor.LandedW
open Go.RowKit Go.Maps

theorem intKey : Keyed Tryd.prog 3 := int_keyed Tryd.underlying3
theorem zeroTok (w : World) : (zeroValue 26).run Tryd.prog w = .ok (.slice none 0 0) w := by kernel_rfl

section
variable {C : Came} {R Q : Value} {D : DataW Value} {o : List Nat} {k : Nat} {qs : List Value} {ps : List (List FTok)} {d : Nat}

/-- What the tokens of a file n itself are. -/
def OwnToks (C : Came) (R Q : Value) (o : List Nat) (k : Nat) (qs : List Value) (ps : List (List FTok)) (d : Nat) (n : Nat) (f : FileV) (w : World) : Ending → World → Prop := fun r w' =>
  (∃ (e : Int) (p : Nat × Nat) (A : Option Addr) (c : Nat), splitOf f.2.data.toList = .error (e, p) ∧ r = .returned (.tuple #[.slice A 0 c, .agg (faultCells e n (fl p.1) (fl p.2))]) ∧ Below C.w.heap.size C.w w' ∧ Moved (Writes C R Q) (Writes C R Q) w w') ∨
  (∃ (D' : DataW Value) (d' : Nat) (t : List TokV) (A : Option Addr) (c : Nat), splitOf f.2.data.toList = .ok t ∧ r = .returned (.tuple #[.slice A t.length c, .agg (faultCells 0 0 0 0)]) ∧ t.length ≤ c ∧ d' ≤ d + 1 ∧ Sta C R Q D' o k qs ps d' w' ∧ Moved (Writes C R Q) (Writes C R Q) w w' ∧ LiesT (Writes C R Q) w' 4 A t.length (toksV (n : Int) t))

set_option maxRecDepth 100000 in
set_option maxHeartbeats 8000000 in
theorem tokens_any (hC : C.Ok) (hL : Laid C.w) {w : World} (hS : Sta C R Q D o k qs ps d w) (n : Nat) (f : FileV) (hf : C.fs[n]? = some f) (hd : d ≤ 100000) :
    Calls Tryd.prog 10 #[.pointer (some ⟨C.g, 0, none⟩), .int .i64 (n : Int)] w (OwnToks C R Q o k qs ps d n f w) := by
  have hst := store_cx
  have hn : n < C.n := by have := hC.len; have := (List.getElem?_eq_some_iff.1 hf).1; omega
  have hfew := hC.few
  have hnI : (n : Int) < (C.n : Int) := by omega
  have hnc : n < C.c := by have := hC.cap; omega
  have HKEY : Hid (keyOf Tryd.prog 3 (.int .i64 (n : Int)) = some (.int .i64 (n : Int))) := keyOf_int_mk Tryd.underlying3 (WalkArith.wf_i64 (by omega))
  have HB0 := Lib.hid (Box.new w 30 (faultCells 0 0 0 0))
  have hb0 : Below w.heap.size w (w.alloc (.cells (faultCells 0 0 0 0) 30)) := below_alloc (Below.refl _ _) (Nat.le_refl _) _
  have HS1 := Lib.hid (hS.step hb0)
  have HM1 := Lib.hid (Moved.of_below (Writes C R Q) hb0)
  have HX : Hid (¬ Writes C R Q w.heap.size) := fun h => Nat.lt_irrefl _ (hS.lt _ h)
  unfold faultCells at HB0 hb0 HS1 HM1
  have hgl := hS.box.lt
  have HC := Lib.hid hC
  have HL := Lib.hid hL
  have HF := Lib.hid hf
  clear hC hL hf hb0
  go_enter Tryd.func10, Tryd.ntmps10
  go_upto_region 1 with (fail)
  obtain ⟨gr, hgr⟩ : ∃ gr, gr = w.heap.size := ⟨_, rfl⟩
  generalize hw1 : w.alloc (.cells #[.int .i64 0, .int .i64 0, .complex .f64 0 0] 30) = w1 at *
  rw [← hgr] at HB0 HX ⊢
  have g1 := HS1.out.box.cell 1
  have g0 := HS1.out.box.cell 0
  simp only [List.getElem?_toArray, List.getElem?_cons_zero, List.getElem?_cons_succ] at g0 g1
  have hown := HS1.out.map
  have HGC : Hid (C.w.heap.size ≤ gr ∧ w.heap.size ≤ gr) := ⟨by rw [hgr]; exact hS.below.size, Nat.le_of_eq hgr.symm⟩
  clear hgr hw1
  cases hh : Maps.has D (.int .i64 (n : Int)) with
  | true =>
    obtain ⟨A, c, t, hat, htc, hsp, hlt⟩ := HS1.out.kept n f HF.out hh
    obtain ⟨c0, c1, c2, z0, z1, z2, gl⟩ := box_cells HB0.out
    have HLT := Lib.hid hlt
    have HSP := Lib.hid hsp
    have HTC := Lib.hid htc
    obtain ⟨N, hN⟩ : ∃ N, N = t.length := ⟨_, rfl⟩
    have HNN := Lib.hid hN
    rw [← hN] at hat
    clear hlt hsp htc hN g0
    go_wp2_with (at_lookup; refine wpList_lookup_own_ok _ rfl _ _ 38 rfl 3 26 intKey Tryd.underlying38 heldR (zeroTok _) (.held (.slice none 0 0)) [] rfl C.m d D rfl hown _ _ rfl HKEY.out ?_; intro v pl hv; rw [hat] at hv; obtain rfl : v = .slice A N c := by simpa [heldR] using congrArg (Option.map Prod.fst) hv)
    refine bodyPost_ret (results_tmp_box rfl _ _ gr 30 _ rfl (box_trio HB0.out) _ Tryd.underlying30 rfl faultSize) rfl ?_
    refine .inr ⟨D, d, t, A, c, HSP.out, ?_, HTC.out, by omega, HS1.out.other HB0.out HX.out HGC.out.1 (set3_only _ _ _ _ _), HM1.out.after (set3_only _ _ _ _ _) HGC.out.2, HLT.out.other (fun hn => ?_) HB0.out (set3_only _ _ _ _ _)⟩
    · rw [← HNN.out]
      rfl
    · obtain ⟨u, hu⟩ : ∃ u, t[0]? = some u := ⟨_, List.getElem?_eq_getElem hn⟩
      exact ⟨_, (tok_cells (n : Int) t 0 u hu).2.1⟩
  | false =>
    have hnC : 0 < C.n := by omega
    obtain ⟨b, oo, hA, hb, hc⟩ := (HC.out.lies.below HS1.out.below).2 hnC
    have hat := (filesV_at C.fs n f HF.out).2
    have t0 := hc _ _ hat
    rw [← Nat.add_assoc] at t0
    rw [hA] at g0
    have HSPL := Lib.hid (fun (W : World) (hW : Below w1.heap.size w1 W) => split_new_land f.2 (n : Int) W (HL.out.below ((HS1.out.step hW).below)) (by have := (HC.out.size f (List.mem_of_getElem? HF.out)).2; omega))
    clear hc hat
    go_wp2_with (at_lookup; refine wpList_lookup_own_ok _ rfl _ _ 38 rfl 3 26 intKey Tryd.underlying38 heldR (zeroTok _) (.held (.slice none 0 0)) [] rfl C.m d D rfl hown _ _ rfl HKEY.out ?_; intro v pl _)
    refine (HSPL.out w1 (Below.refl _ _)).mono ?_
    rintro r w2 ⟨hres, hb2⟩
    have HS2 := Lib.hid (HS1.out.step hb2)
    have HB2 := Lib.hid (HB0.out.step hb2)
    have HM2 := Lib.hid (HM1.out.trans (Moved.of_below _ hb2))
    have HNEW : Hid (∀ b, w1.heap.size ≤ b → ¬ Writes C R Q b) := fun b hb h => by have := HS1.out.lt b h; omega
    clear HSPL t0 g0 g1 hown hb2 HM1 HB0
    rcases hres with ⟨e, p, A2, c2, hsp, rfl⟩ | ⟨t, A2, c2, hsp, rfl, htc, hown2⟩
    · have HSP := Lib.hid hsp
      have hen : e ≠ 0 := by have := split_num hsp; dsimp only at this; omega
      clear hsp
      unfold faultCells
      have HF3 := Lib.hid (Box.new w2 30 #[.int .i64 e, .int .i64 (n : Int), .complex .f64 (fl (p.1 : Int)) (fl (p.2 : Int))])
      have hb3 : Below w2.heap.size w2 (w2.alloc (.cells #[.int .i64 e, .int .i64 (n : Int), .complex .f64 (fl (p.1 : Int)) (fl (p.2 : Int))] 30)) := below_alloc (Below.refl _ _) (Nat.le_refl _) _
      have HB3 := Lib.hid (HB2.out.step hb3)
      have HM3 := Lib.hid (HM2.out.trans (Moved.of_below _ hb3))
      have HS3 := Lib.hid (HS2.out.step hb3)
      clear hb3
      go_upto_region 5 with (fail)
      obtain ⟨gf, hgf⟩ : ∃ gf, gf = w2.heap.size := ⟨_, rfl⟩
      generalize w2.alloc (.cells #[.int .i64 e, .int .i64 (n : Int), .complex .f64 (fl (p.1 : Int)) (fl (p.2 : Int))] 30) = w3 at *
      rw [← hgf] at HF3 ⊢
      clear hgf
      obtain ⟨c0, c1, c2', z0, z1, z2, gl⟩ := box_cells HB3.out
      obtain ⟨d0, d1, d2, y0, y1, y2, gl2⟩ := box_cells HF3.out
      go_wp2_with fail
      refine wp_region_still_tail 3 (by kernel_rfl) (by kernel_rfl) ?_
      simp only [List.take_succ_cons, List.take_zero, List.drop_succ_cons, List.drop_zero]
      change wpStill _ _ (World.drew _) _ _ _
      repeat still_step
      refine wpStill_nil ?_
      change wpList _ _ _ _ _ (World.drew _)
      go_wp2_with fail
      try simp only [Exit.inBlock, Exit.then]
      refine bodyPost_ret (results_tmp_box rfl _ _ gr 30 _ rfl (box_trio HB3.out.drew) _ Tryd.underlying30 rfl faultSize) rfl ?_
      have hd3 : Below w3.heap.size w3 w3.drew := (Below.refl _ _).drew
      refine .inl ⟨e, p, A2, c2, HSP.out, rfl, ?_, ?_⟩
      · exact ((HS3.out.step hd3).other (HB3.out.step hd3) HX.out HGC.out.1 (set3_only _ _ _ _ _)).below
      · exact (HM3.out.trans (Moved.of_below _ hd3)).after (set3_only _ _ _ _ _) HGC.out.2
    · have HSP := Lib.hid hsp
      have HTC := Lib.hid htc
      have HT2 := Lib.hid (LiesT.of_own hown2 (fun b _ h => HNEW.out b h))
      obtain ⟨N, hN⟩ : ∃ N, N = t.length := ⟨_, rfl⟩
      have HNN := Lib.hid hN
      rw [← hN]
      clear hsp htc hown2 hN
      unfold faultCells
      have HF3 := Lib.hid (Box.new w2 30 #[.int .i64 0, .int .i64 0, .complex .f64 0 0])
      have hb3 : Below w2.heap.size w2 (w2.alloc (.cells #[.int .i64 0, .int .i64 0, .complex .f64 0 0] 30)) := below_alloc (Below.refl _ _) (Nat.le_refl _) _
      have HB3 := Lib.hid (HB2.out.step hb3)
      have HM3 := Lib.hid (HM2.out.trans (Moved.of_below _ hb3))
      have HS3 := Lib.hid (HS2.out.step hb3)
      have HT3 := Lib.hid (HT2.out.moved (Moved.of_below _ hb3))
      have HXF : Hid (¬ Writes C R Q w2.heap.size) := fun h => Nat.lt_irrefl _ (HS2.out.lt _ h)
      clear hb3
      go_upto_region 5 with (fail)
      obtain ⟨gf, hgf⟩ : ∃ gf, gf = w2.heap.size := ⟨_, rfl⟩
      generalize w2.alloc (.cells #[.int .i64 0, .int .i64 0, .complex .f64 0 0] 30) = w3 at *
      rw [← hgf] at HF3 HXF ⊢
      clear hgf HS2 HB2 HM2 HT2
      obtain ⟨d0, d1, d2, y0, y1, y2, gl2⟩ := box_cells HF3.out
      have g1 := HS3.out.box.cell 1
      simp only [List.getElem?_toArray, List.getElem?_cons_zero, List.getElem?_cons_succ] at g1
      have hown3 := HS3.out.map
      have HPUT : Hid (∀ W : World, W.ownsMap Tryd.prog 3 heldR C.m (d + 1) (D.put (.int .i64 (n : Int)) (.held (.slice A2 N c2))) → w3.grownBy W (some C.m) → Sta C R Q (D.put (.int .i64 (n : Int)) (.held (.slice A2 N c2))) o k qs ps (d + 1) W ∧ Moved (Writes C R Q) (Writes C R Q) w3 W ∧ LiesT (Writes C R Q) W 4 A2 t.length (toksV (n : Int) t)) := fun W h1 h2 => by
        rw [HNN.out] at h1 ⊢
        obtain ⟨a1, a2⟩ := HS3.out.learn HF.out h1 h2 HSP.out HTC.out HT3.out
        exact ⟨a1, a2, HT3.out.moved a2⟩
      go_wp2_with (at_mapUpdate; refine wpList_mapUpdate_own _ rfl _ _ _ 38 rfl 3 26 intKey Tryd.underlying38 heldR C.m d D rfl hown3 (by unfold maxLen; omega) _ _ (.int .i64 (n : Int)) rfl rfl HKEY.out (.held (.slice A2 N c2)) [] rfl ?_; intro w4 hown4 hg4)
      obtain ⟨hs4, hm4, ht4⟩ := HPUT.out w4 hown4 hg4
      have HS4 := Lib.hid hs4
      have HM4 := Lib.hid (HM3.out.trans hm4)
      have HT4 := Lib.hid ht4
      have HF4 := Lib.hid (hm4.box HF3.out HXF.out)
      have HB4 := Lib.hid (hm4.box HB3.out HX.out)
      clear hs4 hm4 ht4 hown4 hg4 hown3 HPUT HF3 HB3 HM3 HS3 HT3 d0 d1 d2 y0 y1 y2 gl2 g1
      obtain ⟨c0, c1, c2', z0, z1, z2, gl⟩ := box_cells HB4.out
      obtain ⟨d0, d1, d2, y0, y1, y2, gl2⟩ := box_cells HF4.out
      go_wp2_with fail
      refine wp_region_still_tail 3 (by kernel_rfl) (by kernel_rfl) ?_
      simp only [List.take_succ_cons, List.take_zero, List.drop_succ_cons, List.drop_zero]
      change wpStill _ _ (World.drew _) _ _ _
      repeat still_step
      refine wpStill_nil ?_
      change wpList _ _ _ _ _ (World.drew _)
      go_wp2_with fail
      try simp only [Exit.inBlock, Exit.then]
      refine bodyPost_ret (results_tmp_box rfl _ _ gr 30 _ rfl (box_trio HB4.out.drew) _ Tryd.underlying30 rfl faultSize) rfl ?_
      have hd4 : Below w4.heap.size w4 w4.drew := (Below.refl _ _).drew
      refine .inr ⟨_, d + 1, t, A2, c2, HSP.out, ?_, HTC.out, Nat.le_refl _, (HS4.out.step hd4).other (HB4.out.step hd4) HX.out HGC.out.1 (set3_only _ _ _ _ _), (HM4.out.trans (Moved.of_below _ hd4)).after (set3_only _ _ _ _ _) HGC.out.2, (HT4.out.moved (Moved.of_below _ hd4)).other (fun hn => ?_) (HB4.out.step hd4) (set3_only _ _ _ _ _)⟩
      · rw [← HNN.out]
        rfl
      · obtain ⟨u, hu⟩ : ∃ u, t[0]? = some u := ⟨_, List.getElem?_eq_getElem hn⟩
        exact ⟨_, (tok_cells (n : Int) t 0 u hu).2.1⟩

end
end Go.Proofs.YtdjhpgpekomjeaaDoor.LandedW
