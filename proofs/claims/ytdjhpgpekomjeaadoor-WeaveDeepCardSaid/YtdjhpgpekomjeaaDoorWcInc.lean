/- What the landed weave's include gives, given what reading a file gives. No condition but sizes. -/
import Derived.Test.YtdjhpgpekomjeaaDoorPart13
namespace Go.Proofs.YtdjhpgpekomjeaaDoor.LandedW
open Go.RowKit Go.Maps

/-- What reading a file, or including one, leaves. -/
def ReadRes (C : Came) (R Q : Value) (o : List Nat) (k : Nat) (ps : List (List FTok)) (Z : WeaveR) (w : World) : Ending → World → Prop := fun r w' =>
  (∃ (e : FaultV) (X : Nat → Prop), Z.1 = .error e ∧ e.1 ≠ 0 ∧ r = .returned (.agg (faultCells e.1 e.2.1 (fl e.2.2.1) (fl e.2.2.2))) ∧ Below C.w.heap.size C.w w' ∧ Moved (Writes C R Q) X w w') ∨
  (∃ (x : List FTok) (k' : Nat) (R' Q' : Value) (D' : DataW Value) (qs' : List Value) (new : List (List FTok)) (d' : Nat), Z = (.ok x, k') ∧ r = .returned (.agg (faultCells 0 0 0 0)) ∧ Sta C R' Q' D' o k' qs' (ps ++ new) d' w' ∧ new.flatten = x ∧
    new.length + 2 * k ≤ 2 * k' + 1 ∧ k ≤ k' ∧ k' ≤ 1000 ∧ d' ≤ k' + 1 ∧ Moved (Writes C R Q) (Writes C R' Q') w w')

/-- What the include t :: r comes to. -/
def incOf (fs : List FileV) (rec : Nat → List Nat → Nat → WeaveR) (path : List UInt8) (file : Nat) (o : List Nat) (k : Nat) (t : TokV) (r : List TokV) : WeaveR :=
  if (targetOf fs path o k (t :: r)).2 ≠ 0 then (.error ((targetOf fs path o k (t :: r)).2, file, t.place), k)
  else rec (targetOf fs path o k (t :: r)).1.toNat (o ++ [(targetOf fs path o k (t :: r)).1.toNat]) (k + 1)

theorem target_ok {fs : List FileV} {path : List UInt8} {o : List Nat} {k : Nat} {l : List TokV} (h : (targetOf fs path o k l).2 = 0) : 0 ≤ (targetOf fs path o k l).1 ∧ (targetOf fs path o k l).1.toNat < fs.length ∧ o.length < 8 ∧ k < 1000 ∧ 2 ≤ l.length := by
  unfold targetOf at h ⊢
  split at h
  · rename_i u r
    by_cases h1 : u.kind ≠ 4
    · rw [if_pos h1] at h; cases h
    rw [if_neg h1] at h ⊢
    by_cases h2 : (findOf fs path u.text).2 = false
    · rw [if_pos h2] at h; cases h
    rw [if_neg h2] at h ⊢
    by_cases h3 : o.contains (findOf fs path u.text).1.toNat = true
    · rw [if_pos h3] at h; cases h
    rw [if_neg h3] at h ⊢
    by_cases h4 : 8 ≤ o.length
    · rw [if_pos h4] at h; cases h
    rw [if_neg h4] at h ⊢
    by_cases h5 : 1000 ≤ k
    · rw [if_pos h5] at h; cases h
    rw [if_neg h5] at h ⊢
    have := findOf_lt (fs := fs) (path := path) (text := u.text) (by simpa using h2)
    exact ⟨this.1, this.2, by omega, by omega, by simp⟩
  · cases h

theorem toks_target (fs : List FileV) (rec : Nat → List Nat → Nat → WeaveR) (path : List UInt8) (file : Nat) (o : List Nat) (t : TokV) (r : List TokV) (acc : List FTok) (k : Nat) (h : isInc t = true) :
    weaveToks fs rec path file o (t :: r) acc k = afterInc (fun x k' => weaveToks fs rec path file o (r.drop 1) (acc ++ x) k') (incOf fs rec path file o k t r) := by
  cases r with
  | nil => rw [toks_end _ _ _ _ _ _ _ _ h]; rfl
  | cons u r =>
    rw [toks_inc _ _ _ _ _ _ _ _ _ _ h]
    congr 1
    unfold incStep incOf targetOf
    by_cases h1 : u.kind ≠ 4
    · rw [if_pos h1]; simp only [if_pos h1]; rfl
    simp only [if_neg h1]
    by_cases h2 : (joinPath path u.text).2 = false ∨ (fileOf fs (joinPath path u.text).1).2 = false
    · have e : (findOf fs path u.text).2 = false := by
        unfold findOf
        split
        · rcases h2 with h2 | h2
          · rename_i h3; rw [h2] at h3; cases h3
          · exact h2
        · rfl
      rw [if_pos h2]; simp only [if_pos e]; rfl
    have h2' : (joinPath path u.text).2 = true ∧ (fileOf fs (joinPath path u.text).1).2 = true := by
      simp only [not_or, Bool.not_eq_false] at h2
      exact h2
    have e : findOf fs path u.text = fileOf fs (joinPath path u.text).1 := by unfold findOf; rw [if_pos h2'.1]
    rw [if_neg h2, e]
    simp only [h2'.2, Bool.true_eq_false, if_false]
    by_cases h3 : o.contains (fileOf fs (joinPath path u.text).1).1.toNat = true
    · rw [if_pos h3]; simp only [if_pos h3]; rfl
    rw [if_neg h3]
    simp only [if_neg h3]
    by_cases h4 : 8 ≤ o.length
    · rw [if_pos h4]; simp only [if_pos h4]; rfl
    rw [if_neg h4]
    simp only [if_neg h4]
    by_cases h5 : 1000 ≤ k
    · rw [if_pos h5]; simp only [if_pos h5]; rfl
    rw [if_neg h5]
    simp only [if_neg h5]
    rfl

section
variable {C : Came} {R Q : Value} {D : DataW Value} {o : List Nat} {k : Nat} {qs : List Value} {ps : List (List FTok)} {d : Nat}

set_option maxRecDepth 100000 in
set_option maxHeartbeats 8000000 in
theorem include_any (rec : Nat → List Nat → Nat → WeaveR) (hC : C.Ok) {w : World} (hS : Sta C R Q D o k qs ps d w) (n : Nat) (f : FileV) (hf : C.fs[n]? = some f) (ho : o.length ≤ 8) (hk : k ≤ 1000) (t : TokV) (r : List TokV) (ht : ∀ u ∈ r, u.text.length ≤ 1048576) (b oo c' N' : Nat)
    (hl : LiesT (Writes C R Q) w 4 (some ⟨b, oo, none⟩) N' (toksV (n : Int) (t :: r))) (hN' : N' ≤ 1000000) (hc' : N' ≤ c')
    (HREAD : o.length < 8 → k < 1000 → ∀ (n' : Nat) (W : World), Sta C R Q D o (k + 1) qs ps d W → n' < C.fs.length → Calls Tryd.prog 7 #[.pointer (some ⟨C.g, 0, none⟩), .int .i64 (n' : Int)] W (ReadRes C R Q o (k + 1) ps (rec n' (o ++ [n']) (k + 1)) W)) :
    Calls Tryd.prog 12 #[.pointer (some ⟨C.g, 0, none⟩), .slice (some ⟨b, oo, none⟩) N' c'] w (ReadRes C R Q o (k + 1) ps (incOf C.fs rec f.1.data.toList n o k t r) w) := by
  have hst := store_cx
  have hlr : r.length + 1 = N' := by have := hl.1; rw [toksV_len] at this; simp only [List.length_cons] at this; omega
  have HTA := Lib.hid (fun (W : World) (hW : Below w.heap.size w W) => target_any hC (hS.step hW) n f hf ho hk t r ht b oo c' N' (hl.moved (Moved.of_below _ hW)) hN' hc')
  have HOK : Hid ((targetOf C.fs f.1.data.toList o k (t :: r)).2 = 0 → 0 ≤ (targetOf C.fs f.1.data.toList o k (t :: r)).1 ∧ (targetOf C.fs f.1.data.toList o k (t :: r)).1.toNat < C.fs.length ∧ o.length < 8 ∧ k < 1000 ∧ 2 ≤ (t :: r).length) := target_ok
  obtain ⟨Z, hZ⟩ : ∃ Z, Z = incOf C.fs rec f.1.data.toList n o k t r := ⟨_, rfl⟩
  have HZ : Hid (Z = if (targetOf C.fs f.1.data.toList o k (t :: r)).2 ≠ 0 then (.error ((targetOf C.fs f.1.data.toList o k (t :: r)).2, (n : Int), t.place), k)
    else rec (targetOf C.fs f.1.data.toList o k (t :: r)).1.toNat (o ++ [(targetOf C.fs f.1.data.toList o k (t :: r)).1.toNat]) (k + 1)) := hZ
  rw [← hZ]
  clear hZ
  generalize targetOf C.fs f.1.data.toList o k (t :: r) = T at HTA HOK HZ
  obtain ⟨b', o', he, hb, hx, hc⟩ := hl.2 (by omega)
  obtain ⟨rfl, rfl⟩ : b' = b ∧ o' = oo := by
    have := Option.some.inj he
    injection this with e1 e2
    exact ⟨e1.symm, e2.symm⟩
  obtain ⟨q0, q1, q2, q3⟩ := tok_cells (n : Int) (t :: r) 0 t rfl
  have t2 := hc _ _ q2
  have t3 := hc _ _ q3
  have hB0 := Box.new w 30 (faultCells 0 0 0 0)
  have hb0 : Below w.heap.size w (w.alloc (.cells (faultCells 0 0 0 0) 30)) := below_alloc (Below.refl _ _) (Nat.le_refl _) _
  have HX : Hid (¬ Writes C R Q w.heap.size) := fun h => Nat.lt_irrefl _ (hS.lt _ h)
  have HS := Lib.hid hS
  have HRD := Lib.hid HREAD
  have hgl := hS.box.lt
  have hN1 : (0 : Int) < (N' : Int) := by omega
  unfold faultCells at hB0 hb0
  have HB0 := Lib.hid hB0
  have HN0 := Lib.hid hb0
  clear hc hl hx q0 q1 q2 q3 hf ht he hC HREAD hB0 hb0 hS hlr
  go_enter Tryd.func12, Tryd.ntmps12
  go_upto_region 1 with (fail)
  obtain ⟨gr, hgr⟩ : ∃ gr, gr = w.heap.size := ⟨_, rfl⟩
  have HGC : Hid (C.w.heap.size ≤ w.heap.size ∧ w.heap.size ≤ gr) := ⟨HS.out.below.size, Nat.le_of_eq hgr.symm⟩
  generalize hw1 : w.alloc (.cells #[.int .i64 0, .int .i64 0, .complex .f64 0 0] 30) = w1 at *
  rw [← hgr] at HB0 HX ⊢
  clear hw1
  go_wp2_with fail
  refine (HTA.out w1 HN0.out).mono ?_
  rintro e w2 ⟨rfl, hb2⟩
  have HN2 := Lib.hid (HN0.out.trans (hb2.mono HN0.out.size))
  have HB2 := Lib.hid (HB0.out.step hb2)
  have HS2 := Lib.hid ((HS.out.step HN0.out).step hb2)
  have HM2 := Lib.hid (Moved.of_below (Writes C R Q) HN2.out)
  have t2' := (HN2.out.cell (p := ⟨b', o' + (0 * 4 + 2), none⟩) hb).trans t2
  have t3' := (HN2.out.cell (p := ⟨b', o' + (0 * 4 + 3), none⟩) hb).trans t3
  clear HTA t2 t3 hb2 HB0 HN0 hgr
  obtain ⟨T1, T2⟩ := T
  by_cases h0 : T2 = 0
  · subst h0
    obtain ⟨a1, a2, a3, a4, _⟩ := HOK.out rfl
    dsimp only at a1 a2
    obtain ⟨x, rfl⟩ : ∃ x : Nat, T1 = (x : Int) := ⟨T1.toNat, by omega⟩
    rw [Int.toNat_natCast] at a2
    have HE : Hid (Z = rec x (o ++ [x]) (k + 1)) := HZ.out
    have g3 := HS2.out.box.cell 3
    have z3 := HS2.out.box.free 3
    simp only [List.getElem?_toArray, List.getElem?_cons_zero, List.getElem?_cons_succ] at g3
    have hw1 : wrap64 ((k : Int) + 1) = (k : Int) + 1 := by unfold wrap64; omega
    have hgl2 := HS2.out.box.lt
    obtain ⟨hs3, hm3⟩ := HS2.out.count (k + 1)
    rw [show ((k + 1 : Nat) : Int) = (k : Int) + 1 from by omega] at hs3 hm3
    have HS3 := Lib.hid hs3
    have HM3 := Lib.hid (HM2.out.trans hm3)
    have HB3 := Lib.hid (hm3.box HB2.out HX.out)
    clear HZ HOK a1 t2' t3' hs3 hm3 HB2 HS2 HM2
    have HRES := Lib.hid (HRD.out a3 a4 x _ HS3.out a2)
    clear hb a2 a3 a4 hN1 hgl ho hk hN' hc' HRD
    dsimp only
    go_upto_region 5 with (fail)
    have hgr3 := HB3.out.lt
    generalize w2.setCell ⟨C.g, 3, none⟩ (.int .i64 ((k : Int) + 1)) = w3 at *
    clear g3 z3 hw1 hgl2
    go_wp2_with fail
    refine HRES.out.mono ?_
    rintro e w4 hres
    rcases hres with ⟨e, X, h1, h2, rfl, h3, h4⟩ | ⟨y, k', R', Q', D', qs', new, d', h1, rfl, h2, h3, h4, h5, h6, h7, h8⟩
    · have HB4 := Lib.hid (h4.box HB3.out HX.out)
      have HH1 := Lib.hid h1
      have HH2 := Lib.hid h2
      have HH3 := Lib.hid h3
      have HH4 := Lib.hid (HM3.out.trans h4)
      obtain ⟨c0, c1, c2, z0, z1, z2, gl⟩ := box_cells HB4.out
      unfold faultCells
      clear h1 h2 h3 h4 HRES
      go_wp2_with fail
      try simp only [Exit.inBlock, Exit.then]
      refine bodyPost_ret (results_box rfl _ _ gr 30 _ rfl (box_trio HB4.out) _ Tryd.underlying30 rfl faultSize) rfl ?_
      exact .inl ⟨e, X, by rw [HE.out]; exact HH1.out, HH2.out, rfl, below_only HH3.out (Nat.le_trans HGC.out.1 HGC.out.2) HH3.out.size (set3_only _ _ _ _ _), HH4.out.after (set3_only _ _ _ _ _) HGC.out.2⟩
    · have HB4 := Lib.hid (h8.box HB3.out HX.out)
      have HM4 := Lib.hid (HM3.out.trans h8)
      have HX4 : Hid (¬ Writes C R' Q' gr) := fun h => HX.out (h8.less gr hgr3 h)
      have HH1 := Lib.hid h1
      have HH2 := Lib.hid h2
      have HH3 := Lib.hid (And.intro h3 (And.intro h4 (And.intro h5 (And.intro h6 h7))))
      obtain ⟨c0, c1, c2, z0, z1, z2, gl⟩ := box_cells HB4.out
      unfold faultCells
      clear h1 h2 h3 h4 h5 h6 h7 h8 HRES
      go_wp2_with fail
      try simp only [Exit.inBlock, Exit.then]
      refine bodyPost_ret (results_box rfl _ _ gr 30 _ rfl (box_trio HB4.out) _ Tryd.underlying30 rfl faultSize) rfl ?_
      obtain ⟨h3, h4, h5, h6, h7⟩ := HH3.out
      exact .inr ⟨y, k', R', Q', D', qs', new, d', by rw [HE.out]; exact HH1.out, rfl, HH2.out.other HB4.out HX4.out (Nat.le_trans HGC.out.1 HGC.out.2) (set3_only _ _ _ _ _), h3, h4, h5, h6, h7, HM4.out.after (set3_only _ _ _ _ _) HGC.out.2⟩
  · have HE : Hid (Z = (.error (T2, (n : Int), t.place), k)) := by
      have := HZ.out
      rw [if_pos h0] at this
      exact this
    have HT0 : Hid (T2 ≠ 0) := h0
    clear HZ HOK HRD ho hk hN' hc' HS
    obtain ⟨c0, c1, c2, z0, z1, z2, gl⟩ := box_cells HB2.out
    rw [Nat.zero_mul, Nat.zero_add] at t2' t3'
    have hb2 : b' < w2.heap.size := Nat.lt_of_lt_of_le hb HN2.out.size
    have hN0 : 0 < N' := by omega
    have hN0i : (N' : Int) ≠ 0 := by omega
    have hN0n : N' ≠ 0 := by omega
    dsimp only
    go_wp2_with fail
    refine wp_region_still_tail 10 (by kernel_rfl) (by kernel_rfl) ?_
    simp only [List.take_succ_cons, List.take_zero, List.drop_succ_cons, List.drop_zero]
    change wpStill _ _ (World.drew _) _ _ _
    repeat still_step
    refine wpStill_nil ?_
    change wpList _ _ _ _ _ (World.drew _)
    go_wp2_with fail
    try simp only [Exit.inBlock, Exit.then]
    refine bodyPost_ret (results_box rfl _ _ gr 30 _ rfl (box_trio HB2.out.drew) _ Tryd.underlying30 rfl faultSize) rfl ?_
    have hd2 : Below w2.heap.size w2 w2.drew := (Below.refl _ _).drew
    refine .inl ⟨(T2, (n : Int), t.place), Writes C R Q, by rw [HE.out], HT0.out, rfl, ?_, ?_⟩
    · exact below_only (HS2.out.step hd2).below (Nat.le_trans HGC.out.1 HGC.out.2) (HS2.out.step hd2).below.size (set3_only _ _ _ _ _)
    · exact (HM2.out.trans (Moved.of_below _ hd2)).after (set3_only _ _ _ _ _) HGC.out.2

end

end Go.Proofs.YtdjhpgpekomjeaaDoor.LandedW
