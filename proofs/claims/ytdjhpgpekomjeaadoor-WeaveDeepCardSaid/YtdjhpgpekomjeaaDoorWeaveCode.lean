/- The landed weave keeps what is asked of it. No condition but sizes and what the start lays. -/
import Derived.Test.YtdjhpgpekomjeaaDoorWcRead
import Derived.Test.YtdjhpgpekomjeaaDoorPart6
namespace Go.Proofs.YtdjhpgpekomjeaaDoor
open Go.RowKit Go.Maps
namespace LandedW

theorem read_any {C : Came} (hC : C.Ok) (hL : Laid C.w) : ∀ (dep : Nat) (o : List Nat), o.length + dep = 7 → ∀ (n : Nat) (R Q : Value) (D : DataW Value) (k : Nat) (qs : List Value) (ps : List (List FTok)) (d : Nat) (w : World), Sta C R Q D o k qs ps d w → n < C.fs.length → k ≤ 1000 → d ≤ k → ps.length ≤ 2 * k →
    Calls Tryd.prog 7 #[.pointer (some ⟨C.g, 0, none⟩), .int .i64 (n : Int)] w (ReadRes C R Q o k ps (weaveL C.fs dep n (o ++ [n]) k) w)
  | 0, o, ho, n, R, Q, D, k, qs, ps, d, w, hS, hn, hk, hd, hp =>
    read_with _ hC hL hS n hn (by omega) hk hd hp (fun h => by omega)
  | dep + 1, o, ho, n, R, Q, D, k, qs, ps, d, w, hS, hn, hk, hd, hp =>
    read_with _ hC hL hS n hn (by omega) hk hd hp (fun _ n' R1 Q1 D1 k1 qs1 ps1 d1 W hW hn' hk1 hd1 hp1 => read_any hC hL dep (o ++ [n]) (by rw [List.length_append, List.length_singleton]; omega) n' R1 Q1 D1 k1 qs1 ps1 d1 W hW hn' hk1 hd1 hp1)

theorem res_endL {V : Except FaultV (List FTok)} {w W : World} {e : FaultV} {a b c : Value} {A : Option Addr} {cc gr : Nat} (hR : V = .error e) (hb : Below w.heap.size w W) (hg : w.heap.size ≤ gr) :
    WeaveRes V w (.returned (.tuple #[.slice A 0 cc, .agg (faultCells e.1 e.2.1 (fl e.2.2.1) (fl e.2.2.2))])) (((W.setCell ⟨gr, 0, none⟩ a).setCell ⟨gr, 1, none⟩ b).setCell ⟨gr, 2, none⟩ c) :=
  ⟨.inl ⟨e, A, cc, hR, rfl⟩, set3_below hg hb _ _ _⟩

set_option maxRecDepth 100000 in
set_option maxHeartbeats 8000000 in
theorem weave_land (A : Option Addr) (N c : Nat) (fs : List FileV) (root : ByteArray) (w : World) (hL : Laid w) (hl : Lies w w.heap.size 2 A N (filesV fs)) (hNc : N ≤ c) (hN : N ≤ 1000) (hroot : root.size ≤ 100000) (hfs : ∀ f ∈ fs, f.1.size ≤ 100000 ∧ f.2.size ≤ 100000) :
    Calls Tryd.prog 5 #[.slice A N c, .string root] w (WeaveRes (weaveOf fs root.data.toList) w) := by
  have hst := store_cx
  have hf0 : fl 0 = 0 := by decide +kernel
  have hln : fs.length = N := by have := hl.1; rw [filesV_len] at this; omega
  obtain ⟨F, hF⟩ : ∃ F, F = fileOf fs root.data.toList := ⟨_, rfl⟩
  obtain ⟨V, hV⟩ : ∃ V, V = weaveOf fs root.data.toList := ⟨_, rfl⟩
  have HV : Hid (V = if F.2 then (weaveL fs 7 F.1.toNat [F.1.toNat] 0).1 else .error (4, -1, (0, 0))) := by rw [hV, hF]; rfl
  have HFD : Hid (∀ W : World, Below w.heap.size w W → Calls Tryd.prog 6 #[.slice A N c, .string root] W (NumBool F W)) := fun W hW => by
    rw [hF]
    exact find_land A N c fs root W ((hl.below hW).wider hW.size) (by omega) (by omega) (fun f hf => by have := (hfs f hf).1; omega)
  have HFL : Hid (F.2 = true → 0 ≤ F.1 ∧ F.1.toNat < fs.length) := fun h => by rw [hF] at h ⊢; exact fileOf_lt h
  rw [← hV]
  have HB0 := Lib.hid (Box.new w 30 (faultCells 0 0 0 0))
  have HN0 : Hid (Below w.heap.size w (w.alloc (.cells (faultCells 0 0 0 0) 30))) := below_alloc (Below.refl _ _) (Nat.le_refl _) _
  unfold faultCells at HB0 HN0
  have HL := Lib.hid hL
  have HLI := Lib.hid hl
  have HFS := Lib.hid hfs
  clear hF hV hl hL hfs
  go_enter Tryd.func5, Tryd.ntmps5
  go_upto_region 1 with (fail)
  obtain ⟨gr, hgr⟩ : ∃ gr, gr = w.heap.size := ⟨_, rfl⟩
  have HGC : Hid (w.heap.size ≤ gr) := Nat.le_of_eq hgr.symm
  generalize hw1 : w.alloc (.cells #[.int .i64 0, .int .i64 0, .complex .f64 0 0] 30) = w1 at *
  rw [← hgr] at HB0 ⊢
  clear hw1 hgr
  go_wp2_with fail
  refine (HFD.out w1 HN0.out).mono ?_
  rintro e w2 ⟨rfl, hb2⟩
  have HB2 := Lib.hid (HB0.out.step hb2)
  have HN2 := Lib.hid (HN0.out.trans (hb2.mono HN0.out.size))
  clear HFD HB0 HN0 hb2
  obtain ⟨F1, F2⟩ := F
  cases F2 with
  | false =>
    have HE : Hid (V = .error (4, -1, (0, 0))) := HV.out
    obtain ⟨c0, c1, c2, z0, z1, z2, gl⟩ := box_cells HB2.out
    clear HV HFL
    go_wp2_with fail
    try simp only [Exit.inBlock, Exit.then]
    refine bodyPost_ret (results_tmp_box rfl _ _ gr 30 _ rfl (box_trio HB2.out) _ Tryd.underlying30 rfl faultSize) rfl ?_
    have := res_endL (A := none) (cc := 0) (a := .int .i64 4) (b := .int .i64 (-1)) (c := .complex .f64 0 0) HE.out HN2.out HGC.out
    unfold faultCells at this
    rw [show (((0, 0) : Nat × Nat).1 : Int) = 0 from rfl, hf0] at this
    exact this
  | true =>
    obtain ⟨hq0, hqn⟩ := HFL.out rfl
    dsimp only at hq0 hqn
    obtain ⟨n, rfl⟩ : ∃ n : Nat, F1 = (n : Int) := ⟨F1.toNat, by omega⟩
    rw [Int.toNat_natCast] at hqn
    have HE : Hid (V = (weaveL fs 7 n [n] 0).1) := HV.out
    clear HV HFL hq0
    dsimp only
    have hmm := @run_makeMap Tryd.prog
    go_upto_region 5 with (fail)
    obtain ⟨m, hm⟩ : ∃ m, m = w2.heap.size := ⟨_, rfl⟩
    have hgm : (w2.alloc (.map #[] 0)).heap.size = m + 1 := by rw [hm]; simp
    have HGM : Hid (gr < m ∧ w.heap.size ≤ m) := ⟨by rw [hm]; exact HB2.out.lt, by rw [hm]; exact HN2.out.size⟩
    have hbx := Box.new (w2.alloc (.map #[] 0)) 42 #[.slice A N c, .map (some m), .slice none 0 0, .int .i64 0, .slice none 0 0]
    have hmp := (World.ownsMap_made w2 Tryd.prog 3 heldR).alloc (.cells #[.slice A N c, .map (some m), .slice none 0 0, .int .i64 0, .slice none 0 0] 42)
    have hb3 : Below w2.heap.size w2 ((w2.alloc (.map #[] 0)).alloc (.cells #[.slice A N c, .map (some m), .slice none 0 0, .int .i64 0, .slice none 0 0] 42)) := below_alloc (below_alloc (Below.refl _ _) (Nat.le_refl _) _) (Nat.le_refl _) _
    have HB3 := Lib.hid (HB2.out.step hb3)
    have HN3 := Lib.hid (HN2.out.trans (hb3.mono HN2.out.size))
    rw [hgm] at hbx
    rw [← hm] at hmp ⊢
    clear hgm hm hb3 HB2
    generalize (w2.alloc (.map #[] 0)).alloc (.cells #[.slice A N c, .map (some m), .slice none 0 0, .int .i64 0, .slice none 0 0] 42) = w3 at *
    have HC : Hid (Came.Ok ⟨A, N, c, fs, w, m + 1, m⟩) := ⟨HLI.out, hln, hNc, hN, HFS.out⟩
    have HS3 : Hid (Sta ⟨A, N, c, fs, w, m + 1, m⟩ (.slice none 0 0) (.slice none 0 0) (.map []) [] 0 [] [] 0 w3) := by
      refine ⟨HN3.out, ?_, hbx, hmp, World.ownsRow_nil _ _ _ _, World.ownsRow_nil _ _ _ _, Nat.succ_ne_self m, by simp [Value.ownBlock], by simp [Value.ownBlock], by simp [Value.ownBlock], by simp [Value.ownBlock], Apart.nil_left _, ?_, ?_, ?_⟩
      · rintro b (e | e | e | e)
        · subst e; have := HGM.out.2; show w.heap.size ≤ m + 1; omega
        · subst e; exact HGM.out.2
        · simp [Value.ownBlock] at e
        · simp [Value.ownBlock] at e
      · intro i q r hq _; simp at hq
      · intro r hr; simp at hr
      · intro n f _ hn; simp [Maps.has] at hn
    have HX3 : Hid (¬ Writes ⟨A, N, c, fs, w, m + 1, m⟩ (.slice none 0 0) (.slice none 0 0) gr) := by
      rintro (e | e | e | e)
      · have := HGM.out.1; dsimp only at e; omega
      · have := HGM.out.1; dsimp only at e; omega
      · simp [Value.ownBlock] at e
      · simp [Value.ownBlock] at e
    have HRD := Lib.hid (read_any HC.out HL.out 7 [] rfl n _ _ _ 0 [] [] 0 w3 HS3.out hqn (by omega) (Nat.le_refl _) (Nat.le_refl _))
    rw [List.nil_append] at HRD
    obtain ⟨Y, hY⟩ : ∃ Y, Y = weaveL fs 7 n [n] 0 := ⟨_, rfl⟩
    rw [← hY] at HE
    have HRD2 : Hid (Calls Tryd.prog 7 #[.pointer (some ⟨m + 1, 0, none⟩), .int .i64 (n : Int)] w3 (ReadRes ⟨A, N, c, fs, w, m + 1, m⟩ (.slice none 0 0) (.slice none 0 0) [] 0 [] Y w3)) := by
      have := HRD.out
      dsimp only at this
      rw [← hY] at this
      exact this
    clear hY HRD hbx hmp hqn
    go_wp2_with fail
    refine HRD2.out.mono ?_
    rintro e w4 hres
    rcases hres with ⟨e, X, h1, h2, rfl, h3, h4⟩ | ⟨y, k', R', Q', D', qs', new, d', h1, rfl, h2, h3, h4, h5, h6, h7, h8⟩
    · have HV : Hid (V = .error e) := by unfold Hid; rw [HE.out, h1]
      have HB4 := Lib.hid (h4.box HB3.out HX3.out)
      have HN4 : Hid (Below w.heap.size w w4) := h3
      obtain ⟨e1, e2, ep⟩ := e
      have hen : e1 ≠ 0 := h2
      dsimp only [faultCells]
      have HF5 := Lib.hid (Box.new w4 30 #[.int .i64 e1, .int .i64 e2, .complex .f64 (fl (ep.1 : Int)) (fl (ep.2 : Int))])
      have hb5 : Below w4.heap.size w4 (w4.alloc (.cells #[.int .i64 e1, .int .i64 e2, .complex .f64 (fl (ep.1 : Int)) (fl (ep.2 : Int))] 30)) := below_alloc (Below.refl _ _) (Nat.le_refl _) _
      have HB5 := Lib.hid (HB4.out.step hb5)
      have HN5 := Lib.hid (HN4.out.trans (hb5.mono HN4.out.size))
      clear h1 h2 h3 h4 hb5 HRD2 HB4 HN4 HB3 HN3 HE HS3 HC HX3
      go_upto_region 6 with (fail)
      obtain ⟨gt, hgt⟩ : ∃ gt, gt = w4.heap.size := ⟨_, rfl⟩
      generalize w4.alloc (.cells #[.int .i64 e1, .int .i64 e2, .complex .f64 (fl (ep.1 : Int)) (fl (ep.2 : Int))] 30) = w5 at *
      rw [← hgt] at HF5 ⊢
      clear hgt
      obtain ⟨k0, k1', k2', z0, z1, z2, gl⟩ := box_cells HB5.out
      obtain ⟨d0, d1', d2, y0, y1, y2, gl2⟩ := box_cells HF5.out
      go_wp2_with fail
      refine wp_region_still_tail 2 (by kernel_rfl) (by kernel_rfl) ?_
      simp only [List.take_succ_cons, List.take_zero, List.drop_succ_cons, List.drop_zero]
      change wpStill _ _ (World.drew _) _ _ _
      repeat still_step
      refine wpStill_nil ?_
      change wpList _ _ _ _ _ (World.drew _)
      go_wp2_with fail
      try simp only [Exit.inBlock, Exit.then]
      refine bodyPost_ret (results_tmp_box rfl _ _ gr 30 _ rfl (box_trio HB5.out.drew) _ Tryd.underlying30 rfl faultSize) rfl ?_
      exact res_endL HV.out HN5.out.drew HGC.out
    · have HV : Hid (V = .ok new.flatten) := by unfold Hid; rw [HE.out, h1, h3]
      have HB4 := Lib.hid (h8.box HB3.out HX3.out)
      rw [List.nil_append] at h2
      have HN4 : Hid (Below w.heap.size w w4) := h2.below
      obtain ⟨AQ, cQ, rfl, hcQ, hlQ⟩ := own_form h2.runs
      have hnl : new.length ≤ 2001 := by omega
      have HCC := Lib.hid (fun (W : World) (hW : Below w4.heap.size w4 W) => concat_any AQ new.length cQ qs' new W ((hlQ.below hW).wider hW.size) rfl (by omega) h2.short (fun i q r hq hr => by
        obtain ⟨A5, c5, a1, a2⟩ := h2.piece i q r hq hr
        exact ⟨A5, c5, a1, (a2.lies.below hW).wider hW.size⟩))
      have g4 := h2.box.cell 4
      simp only [List.getElem?_toArray, List.getElem?_cons_zero, List.getElem?_cons_succ] at g4
      have hgl := h2.box.lt
      dsimp only at g4 hgl
      dsimp only [faultCells]
      have HF5 := Lib.hid (Box.new w4 30 #[.int .i64 0, .int .i64 0, .complex .f64 0 0])
      have hb5 : Below w4.heap.size w4 (w4.alloc (.cells #[.int .i64 0, .int .i64 0, .complex .f64 0 0] 30)) := below_alloc (Below.refl _ _) (Nat.le_refl _) _
      have HB5 := Lib.hid (HB4.out.step hb5)
      have HN5 := Lib.hid (HN4.out.trans (hb5.mono HN4.out.size))
      have g5 := (hb5.cell (p := ⟨m + 1, 4, none⟩) hgl).trans g4
      have HC5 := Lib.hid (HCC.out _ hb5)
      clear h1 h2 h3 h4 h5 h6 h7 h8 hb5 HRD2 HB4 HN4 HB3 HN3 HE HS3 HC HX3 HCC g4 hlQ
      go_upto_region 6 with (fail)
      obtain ⟨gt, hgt⟩ : ∃ gt, gt = w4.heap.size := ⟨_, rfl⟩
      generalize w4.alloc (.cells #[.int .i64 0, .int .i64 0, .complex .f64 0 0] 30) = w5 at *
      rw [← hgt] at HF5 ⊢
      clear hgt
      obtain ⟨d0, d1', d2, y0, y1, y2, gl2⟩ := box_cells HF5.out
      obtain ⟨L, hLL⟩ : ∃ L, L = new.length := ⟨_, rfl⟩
      rw [← hLL] at g5 HC5
      clear hLL
      go_wp2_with fail
      refine HC5.out.mono ?_
      rintro e w6 ⟨v, rfl, hown6, hb6⟩
      have HB6 := Lib.hid (HB5.out.step hb6)
      have HN6 := Lib.hid (HN5.out.trans (hb6.mono HN5.out.size))
      have hg5 : gr < w5.heap.size := HB5.out.lt
      obtain ⟨A6, c6, rfl, hc6, _⟩ := own_form hown6
      have hown7 := ownsRow_setCell_below (ownsRow_setCell_below (ownsRow_setCell_below hown6 (a := ⟨gr, 0, none⟩) hg5 (.int .i64 0)) (a := ⟨gr, 1, none⟩) hg5 (.int .i64 0)) (a := ⟨gr, 2, none⟩) hg5 (.complex .f64 0 0)
      have HL7 := Lib.hid (Lies.of_own hown7)
      obtain ⟨NX, hNX⟩ : ∃ NX, NX = new.flatten.length := ⟨_, rfl⟩
      have HNX := Lib.hid hNX
      rw [← hNX] at hc6 HL7 ⊢
      clear hNX hown6 hown7 hb6
      obtain ⟨k0, k1', k2', z0, z1, z2, gl⟩ := box_cells HB6.out
      go_wp2_with fail
      try simp only [Exit.inBlock, Exit.then]
      refine bodyPost_ret (results_tmp_box rfl _ _ gr 30 _ rfl (box_trio HB6.out) _ Tryd.underlying30 rfl faultSize) rfl ?_
      refine ⟨.inr ⟨new.flatten, A6, c6, HV.out, ?_, ?_, ?_⟩, set3_below HGC.out HN6.out _ _ _⟩
      · rw [← HNX.out]; rfl
      · rw [← HNX.out]; exact hc6
      · rw [← HNX.out]; exact HL7.out

end LandedW

/-- The landed code keeps what is asked of it. -/
theorem weave_says : WeaveSays Laid where
  keep _ _ h hb := h.below hb
  tokens A N c fs root w hL hl hNc hN hroot hfs := LandedW.weave_land A N c fs root w hL hl hNc hN hroot hfs

end Go.Proofs.YtdjhpgpekomjeaaDoor
