/- What the landed weave's read gives. No condition but sizes and what the start lays. -/
import Derived.Test.YtdjhpgpekomjeaaDoorWcInc
namespace Go.Proofs.YtdjhpgpekomjeaaDoor.LandedW
open Go.RowKit Go.Maps

theorem infoToks : (Tryd.prog.info? 26).map (fun i => (i.zero, i.size, i.bytes)) = some (some (.slice none 0 0), 1, 24) := by kernel_rfl

/-! ### A list of tokens, cut at its first include -/
theorem ftoks_of (file : Int) (l : List TokV) : toksV file l = ftoksV (l.map fun t => (file, t)) := (ftoksV_file file l).symm

theorem toks_none (fs : List FileV) (rec : Nat → List Nat → Nat → WeaveR) (path : List UInt8) (file : Nat) (o : List Nat) : ∀ (l : List TokV) (acc : List FTok) (k : Nat), ¬ incAt l < l.length →
    weaveToks fs rec path file o l acc k = (.ok (acc ++ l.map fun t => ((file : Int), t)), k)
  | [], acc, k, _ => by rw [weaveToks]; simp
  | t :: r, acc, k, h => by
    cases hi : isInc t with
    | true => rw [inc_here hi] at h; simp at h
    | false =>
      have e : incAt (t :: r) = incAt r + 1 := by unfold incAt; rw [List.takeWhile_cons, hi]; rfl
      rw [toks_plain _ _ _ _ _ _ _ _ _ hi, toks_none fs rec path file o r _ k (by rw [e] at h; simpa using h)]
      simp

theorem toks_some (fs : List FileV) (rec : Nat → List Nat → Nat → WeaveR) (path : List UInt8) (file : Nat) (o : List Nat) : ∀ (l : List TokV) (acc : List FTok) (k : Nat),
    weaveToks fs rec path file o l acc k = weaveToks fs rec path file o (l.drop (incAt l)) (acc ++ (l.take (incAt l)).map fun t => ((file : Int), t)) k
  | [], acc, k => by simp [incAt]
  | t :: r, acc, k => by
    cases hi : isInc t with
    | true => rw [inc_here hi]; simp
    | false =>
      have e : incAt (t :: r) = incAt r + 1 := by unfold incAt; rw [List.takeWhile_cons, hi]; rfl
      rw [toks_plain _ _ _ _ _ _ _ _ _ hi, toks_some fs rec path file o r _ k, e]
      simp

/-- A part of a slice. -/
theorem lies_part {X : Nat → Prop} {w : World} {b oo n : Nat} {file : Int} {l : List TokV} (h : LiesT X w 4 (some ⟨b, oo, none⟩) n (toksV file l)) (i : Nat) (hi : i ≤ n) :
    LiesT X w 4 (some ⟨b, oo, none⟩) i (toksV file (l.take i)) ∧ LiesT X w 4 (some ⟨b, oo + i * 4, none⟩) (n - i) (toksV file (l.drop i)) := by
  have hln : l.length = n := by have := h.1; rw [toksV_len] at this; omega
  have e : toksV file l = toksV file (l.take i) ++ toksV file (l.drop i) := by
    unfold toksV
    rw [← List.flatMap_append, List.take_append_drop]
  have l1 : (toksV file (l.take i)).length = i * 4 := by rw [toksV_len, List.length_take]; congr 1; omega
  have l2 : (toksV file (l.drop i)).length = (n - i) * 4 := by rw [toksV_len, List.length_drop, hln]
  refine ⟨⟨l1, fun h0 => ?_⟩, ⟨l2, fun h0 => ?_⟩⟩
  · obtain ⟨b', o', h1, h2, h3, h4⟩ := h.2 (by omega)
    refine ⟨b', o', h1, h2, h3, fun j u hu => h4 j u ?_⟩
    rw [e, List.getElem?_append_left (List.getElem?_eq_some_iff.1 hu).1]
    exact hu
  · obtain ⟨b', o', h1, h2, h3, h4⟩ := h.2 (by omega)
    have h5 := Option.some.inj h1
    injection h5 with e1 e2
    subst e1 e2
    refine ⟨b, oo + i * 4, rfl, h2, h3, fun j u hu => ?_⟩
    rw [Nat.add_assoc]
    refine h4 (i * 4 + j) u ?_
    rw [e, List.getElem?_append_right (by omega), l1, Nat.add_sub_cancel_left]
    exact hu

def sliceLen : Value → Nat | .slice _ n _ => n | _ => 0

theorem inc_two {fs : List FileV} {rec : Nat → List Nat → Nat → WeaveR} {path : List UInt8} {file : Nat} {o : List Nat} {k k' : Nat} {t : TokV} {r : List TokV} {x : List FTok} (h : incOf fs rec path file o k t r = (.ok x, k')) : 1 ≤ r.length := by
  unfold incOf at h
  by_cases h0 : (targetOf fs path o k (t :: r)).2 = 0
  · have := (target_ok h0).2.2.2.2
    simp only [List.length_cons] at this
    omega
  · rw [if_pos h0] at h
    cases h

/-- Where the loop of read stands. -/
def RLoop (C : Came) (rec : Nat → List Nat → Nat → WeaveR) (path : List UInt8) (n : Nat) (R Q : Value) (o : List Nat) (k : Nat) (ps : List (List FTok)) (Z : WeaveR) (gr : Nat) (w : World) (v : Value) (wr : World) : Prop :=
  ∃ (l : List TokV) (A : Option Addr) (c : Nat) (R1 Q1 : Value) (D1 : DataW Value) (k1 : Nat) (qs1 : List Value) (new : List (List FTok)) (d1 : Nat),
    v = .slice A l.length c ∧ l.length ≤ c ∧ l.length ≤ 20000 ∧ Hid (∀ u ∈ l, u.text.length ≤ 1048576) ∧ Hid (Sta C R1 Q1 D1 (o ++ [n]) k1 qs1 (ps ++ new) d1 wr) ∧ Hid (LiesT (Writes C R1 Q1) wr 4 A l.length (toksV (n : Int) l)) ∧ Hid (Moved (Writes C R Q) (Writes C R1 Q1) w wr) ∧
    new.length + 2 * k ≤ 2 * k1 ∧ k ≤ k1 ∧ k1 ≤ 1000 ∧ d1 ≤ k1 + 1 ∧ Hid (Box wr gr 30 #[.int .i64 0, .int .i64 0, .complex .f64 0 0]) ∧ Hid (¬ Writes C R1 Q1 gr) ∧ Hid (weaveToks C.fs rec path n (o ++ [n]) l new.flatten k1 = Z)

section
variable {C : Came} {R Q : Value} {D : DataW Value} {o : List Nat} {k : Nat} {qs : List Value} {ps : List (List FTok)} {d : Nat}

theorem natsV_snoc (l : List Nat) (n : Nat) : natsV (l ++ [n]) = natsV l ++ [.int .i64 (n : Int)] := by simp [natsV]

/-- A number is appended to the files that are being read. -/
theorem Sta.pushR {w w4 : World} {n : Nat} {v4 : Value} {ob : Obj} (h : Sta C R Q D o k qs ps d w) (ho : w4.ownsRow C.w.heap.size 3 1 v4 (o.length + 1) (natsV o ++ [.int .i64 (n : Int)])) (hg : (w.alloc ob).grownBy w4 R.ownBlock) (hat : v4.ownBlock = R.ownBlock ∨ v4.ownBlock = some (w.heap.size + 1)) :
    ∃ (A : Option Addr) (c : Nat), v4 = .slice A (o.length + 1) c ∧ w4.cell? ⟨C.g, 2, none⟩ = some R ∧ w4.frozen? ⟨C.g, 2, none⟩ = false ∧ C.g < w4.heap.size ∧
      Sta C v4 Q D (o ++ [n]) k qs ps d (w4.setCell ⟨C.g, 2, none⟩ v4) ∧ Moved (Writes C R Q) (Writes C v4 Q) w (w4.setCell ⟨C.g, 2, none⟩ v4) := by
  have hba : Below w.heap.size w (w.alloc ob) := below_alloc (Below.refl _ _) (Nat.le_refl _) _
  have h1 := h.step hba
  obtain ⟨A, c, hv, _, _⟩ := own_form ho
  have hbx : Box w4 C.g 42 #[.slice C.A C.n C.c, .map (some C.m), R, .int .i64 (k : Int), Q] := (hg.block C.g h1.box.lt (fun e => h1.gR e.symm)).trans h1.box
  obtain ⟨h2, h3⟩ := h1.rowR (o' := o ++ [n]) (R' := v4) (w1 := w4) (by rw [natsV_snoc, List.length_append]; exact ho) hg (hat.imp id fun e => ⟨_, e, by simp⟩)
  have c2 := hbx.cell 2
  simp only [List.getElem?_toArray, List.getElem?_cons_zero, List.getElem?_cons_succ] at c2
  exact ⟨A, c, hv, c2, hbx.free 2, hbx.lt, h2, (Moved.of_below _ hba).trans h3⟩

/-- A list of tokens is appended to the pieces. -/
theorem Sta.pushQ {w w4 : World} {v4 : Value} {ob : Obj} {A : Option Addr} {c : Nat} {r : List FTok} (h : Sta C R Q D o k qs ps d w) (ho : w4.ownsRow C.w.heap.size 26 1 v4 (ps.length + 1) (qs ++ [.slice A r.length c])) (hg : (w.alloc ob).grownBy w4 Q.ownBlock) (hat : v4.ownBlock = Q.ownBlock ∨ v4.ownBlock = some (w.heap.size + 1))
    (hr : LiesT (Writes C R Q) w 4 A r.length (ftoksV r)) (hrl : r.length ≤ 20000) :
    ∃ (A4 : Option Addr) (c4 : Nat), v4 = .slice A4 (ps.length + 1) c4 ∧ w4.cell? ⟨C.g, 4, none⟩ = some Q ∧ w4.frozen? ⟨C.g, 4, none⟩ = false ∧ C.g < w4.heap.size ∧
      Sta C R v4 D o k (qs ++ [.slice A r.length c]) (ps ++ [r]) d (w4.setCell ⟨C.g, 4, none⟩ v4) ∧ Moved (Writes C R Q) (Writes C R v4) w (w4.setCell ⟨C.g, 4, none⟩ v4) := by
  have hba : Below w.heap.size w (w.alloc ob) := below_alloc (Below.refl _ _) (Nat.le_refl _) _
  have h1 := h.step hba
  obtain ⟨A4, c4, hv, _, _⟩ := own_form ho
  have hbx : Box w4 C.g 42 #[.slice C.A C.n C.c, .map (some C.m), R, .int .i64 (k : Int), Q] := (hg.block C.g h1.box.lt (fun e => h1.gQ e.symm)).trans h1.box
  obtain ⟨h2, h3⟩ := h1.rowQ (Q' := v4) (w1 := w4) ho hg (hat.imp id fun e => ⟨_, e, by simp⟩) (hr.moved (Moved.of_below _ hba)) hrl
  have c2 := hbx.cell 4
  simp only [List.getElem?_toArray, List.getElem?_cons_zero, List.getElem?_cons_succ] at c2
  exact ⟨A4, c4, hv, c2, hbx.free 4, hbx.lt, h2, (Moved.of_below _ hba).trans h3⟩

/-- The last file was read to its end. -/
theorem Sta.popR {w : World} {n : Nat} {A : Option Addr} {c : Nat} (h : Sta C (.slice A (o.length + 1) c) Q D (o ++ [n]) k qs ps d w) :
    Sta C (.slice A o.length c) Q D o k qs ps d (w.setCell ⟨C.g, 2, none⟩ (.slice A o.length c)) ∧ Moved (Writes C (.slice A (o.length + 1) c) Q) (Writes C (.slice A o.length c) Q) w (w.setCell ⟨C.g, 2, none⟩ (.slice A o.length c)) := by
  have hr := h.reads
  rw [natsV_snoc, List.length_append] at hr
  have e : (natsV o).length = o.length := natsV_len o
  have h2 : w.ownsRow C.w.heap.size 3 1 (.slice A o.length c) o.length (natsV o) := by
    have := own_less (l := natsV o) (x := .int .i64 (n : Int)) (base := C.w.heap.size) (e := 3) (A := A) (cap := c) (w := w) (by rw [e]; exact hr)
    rwa [e] at this
  exact h.rowR (R' := .slice A o.length c) (w1 := w) h2 (World.grownBy.refl _ _) (.inl (by cases A <;> rfl))

set_option maxRecDepth 100000 in
set_option maxHeartbeats 16000000 in
theorem read_with (rec : Nat → List Nat → Nat → WeaveR) (hC : C.Ok) (hL : Laid C.w) {w : World} (hS : Sta C R Q D o k qs ps d w) (n : Nat) (hn : n < C.fs.length) (ho : o.length ≤ 7) (hk : k ≤ 1000) (hd : d ≤ k) (hp : ps.length ≤ 2 * k)
    (HREAD : o.length < 7 → ∀ (n' : Nat) (R1 Q1 : Value) (D1 : DataW Value) (k1 : Nat) (qs1 : List Value) (ps1 : List (List FTok)) (d1 : Nat) (W : World), Sta C R1 Q1 D1 (o ++ [n]) k1 qs1 ps1 d1 W → n' < C.fs.length → k1 ≤ 1000 → d1 ≤ k1 → ps1.length ≤ 2 * k1 →
      Calls Tryd.prog 7 #[.pointer (some ⟨C.g, 0, none⟩), .int .i64 (n' : Int)] W (ReadRes C R1 Q1 (o ++ [n]) k1 ps1 (rec n' (o ++ [n] ++ [n']) k1) W)) :
    Calls Tryd.prog 7 #[.pointer (some ⟨C.g, 0, none⟩), .int .i64 (n : Int)] w (ReadRes C R Q o k ps (weaveFile C.fs rec n (o ++ [n]) k) w) := by
  obtain ⟨i0, hi, hz0, hz1, hz2⟩ := info_parts infoToks
  obtain ⟨ii, hii, hiz0, hiz1, hiz2⟩ := info_parts Tryd.infoIntW
  have hst := store_cx
  obtain ⟨f, hf⟩ : ∃ f, C.fs[n]? = some f := ⟨_, List.getElem?_eq_getElem hn⟩
  obtain ⟨Z, hZ⟩ : ∃ Z, Z = weaveFile C.fs rec n (o ++ [n]) k := ⟨_, rfl⟩
  have HZ : Hid (Z = match splitOf f.2.data.toList with
    | .error e => (.error (e.1, n, e.2), k)
    | .ok t => weaveToks C.fs rec f.1.data.toList n (o ++ [n]) t [] k) := by rw [hZ]; unfold weaveFile; rw [hf]; rfl
  rw [← hZ]
  have hB0 := Box.new w 30 (faultCells 0 0 0 0)
  have hb0 : Below w.heap.size w (w.alloc (.cells (faultCells 0 0 0 0) 30)) := below_alloc (Below.refl _ _) (Nat.le_refl _) _
  have HX : Hid (¬ Writes C R Q w.heap.size) := fun h => Nat.lt_irrefl _ (hS.lt _ h)
  unfold faultCells at hB0 hb0
  have HTK := Lib.hid (fun (W : World) (hW : Below w.heap.size w W) => tokens_any hC hL (hS.step hW) n f hf (by omega))
  have HTL : Hid (∀ t, splitOf f.2.data.toList = .ok t → t.length ≤ 20000 ∧ ∀ u ∈ t, u.text.length ≤ 1048576) := fun t h => ⟨split_most h, fun u hu => by
    have h1 := split_text h u hu
    have h2 := (hC.size f (List.mem_of_getElem? hf)).2
    rw [Lib.size_eq] at h2
    omega⟩
  have HS := Lib.hid hS
  have HC := Lib.hid hC
  have HF := Lib.hid hf
  have HRD := Lib.hid HREAD
  have HB0 := Lib.hid hB0
  have HN0 := Lib.hid hb0
  have HNUM := Lib.hid (And.intro ho (And.intro hk (And.intro hd hp)))
  have hgl := hS.box.lt
  clear hZ hB0 hb0 hS hC hL hf hn HREAD ho hk hd hp
  go_enter Tryd.func7, Tryd.ntmps7
  go_upto_region 1 with (fail)
  obtain ⟨gr, hgr⟩ : ∃ gr, gr = w.heap.size := ⟨_, rfl⟩
  have HGC : Hid (C.w.heap.size ≤ w.heap.size ∧ w.heap.size ≤ gr) := ⟨HS.out.below.size, Nat.le_of_eq hgr.symm⟩
  generalize hw1 : w.alloc (.cells #[.int .i64 0, .int .i64 0, .complex .f64 0 0] 30) = w1 at *
  rw [← hgr] at HB0 HX ⊢
  clear hw1 hgr
  go_wp2_with fail
  refine (HTK.out w1 HN0.out).mono ?_
  rintro e w2 hres
  have HM1 := Lib.hid (Moved.of_below (Writes C R Q) HN0.out)
  rcases hres with ⟨e, p, A2, c2, hsp, rfl, hbw, hmv⟩ | ⟨D2, dd, t, A2, c2, hsp, rfl, htc, hdd, hs2, hm2, hlt2⟩
  · have hen : e ≠ 0 := by have := split_num hsp; dsimp only at this; omega
    have HE : Hid (Z = (.error (e, (n : Int), p), k)) := by have := HZ.out; rw [hsp] at this; exact this
    have HB2 := Lib.hid (hmv.box HB0.out HX.out)
    have HM2 := Lib.hid (HM1.out.trans hmv)
    have HW2 := Lib.hid hbw
    unfold faultCells
    have HF3 := Lib.hid (Box.new w2 30 #[.int .i64 e, .int .i64 (n : Int), .complex .f64 (fl (p.1 : Int)) (fl (p.2 : Int))])
    have hb3 : Below w2.heap.size w2 (w2.alloc (.cells #[.int .i64 e, .int .i64 (n : Int), .complex .f64 (fl (p.1 : Int)) (fl (p.2 : Int))] 30)) := below_alloc (Below.refl _ _) (Nat.le_refl _) _
    have HB3 := Lib.hid (HB2.out.step hb3)
    have HM3 := Lib.hid (HM2.out.trans (Moved.of_below _ hb3))
    have HW3 := Lib.hid (HW2.out.trans (hb3.mono HW2.out.size))
    clear hsp hbw hmv hb3 HZ HTK HTL HRD HM1
    go_upto_region 2 with (fail)
    obtain ⟨gf, hgf⟩ : ∃ gf, gf = w2.heap.size := ⟨_, rfl⟩
    generalize w2.alloc (.cells #[.int .i64 e, .int .i64 (n : Int), .complex .f64 (fl (p.1 : Int)) (fl (p.2 : Int))] 30) = w3 at *
    rw [← hgf] at HF3 ⊢
    clear hgf
    obtain ⟨c0, c1, c2', z0, z1, z2, gl⟩ := box_cells HB3.out
    obtain ⟨d0, d1, d2, y0, y1, y2, gl2⟩ := box_cells HF3.out
    go_wp2_with fail
    try simp only [Exit.inBlock, Exit.then]
    refine bodyPost_ret (results_box rfl _ _ gr 30 _ rfl (box_trio HB3.out) _ Tryd.underlying30 rfl faultSize) rfl ?_
    exact .inl ⟨(e, (n : Int), p), Writes C R Q, by rw [HE.out], hen, rfl, below_only HW3.out (Nat.le_trans HGC.out.1 HGC.out.2) HW3.out.size (set3_only _ _ _ _ _), HM3.out.after (set3_only _ _ _ _ _) HGC.out.2⟩
  · have HE : Hid (weaveToks C.fs rec f.1.data.toList n (o ++ [n]) t [] k = Z) := by have := HZ.out; rw [hsp] at this; exact this.symm
    have HTT := Lib.hid (HTL.out t hsp)
    have HB2 := Lib.hid (hm2.box HB0.out HX.out)
    have HM2 := Lib.hid (HM1.out.trans hm2)
    have HS2 := Lib.hid hs2
    have HLT2 := Lib.hid hlt2
    have htm : t.length ≤ 20000 := HTT.out.1
    unfold faultCells
    have hb3 : Below w2.heap.size w2 (w2.alloc (.cells #[.int .i64 0, .int .i64 0, .complex .f64 0 0] 30)) := below_alloc (Below.refl _ _) (Nat.le_refl _) _
    have HF3 := Lib.hid (Box.new w2 30 #[.int .i64 0, .int .i64 0, .complex .f64 0 0])
    have HB3 := Lib.hid (HB2.out.step hb3)
    have HM3 := Lib.hid (HM2.out.trans (Moved.of_below _ hb3))
    have HS3 := Lib.hid (HS2.out.step hb3)
    have HLT3 := Lib.hid (HLT2.out.moved (Moved.of_below _ hb3))
    clear hsp hb3 HZ HTK HTL HM1 hm2 hs2 hlt2 HB2 HM2 HS2 HLT2 HS HB0 HN0
    go_upto_region 2 with (fail)
    obtain ⟨gf, hgf⟩ : ∃ gf, gf = w2.heap.size := ⟨_, rfl⟩
    generalize w2.alloc (.cells #[.int .i64 0, .int .i64 0, .complex .f64 0 0] 30) = w3 at *
    rw [← hgf] at HF3 ⊢
    clear hgf
    obtain ⟨d0, d1, d2, y0, y1, y2, gl2⟩ := box_cells HF3.out
    have g2 := HS3.out.box.cell 2
    have z2 := HS3.out.box.free 2
    have hgl3 := HS3.out.box.lt
    simp only [List.getElem?_toArray, List.getElem?_cons_zero, List.getElem?_cons_succ] at g2
    have hown := HS3.out.reads
    have hol : o.length ≤ 7 := HNUM.out.1
    have hws := HS3.out.below.size
    have HPU : Hid (∀ (v4 : Value) (w4 : World) (ob : Obj), w4.ownsRow C.w.heap.size 3 1 v4 (o.length + 1) (natsV o ++ [.int .i64 (n : Int)]) → (w3.alloc ob).grownBy w4 R.ownBlock → v4.ownBlock = R.ownBlock ∨ v4.ownBlock = some (w3.heap.size + 1) →
      ∃ (A : Option Addr) (c : Nat), v4 = .slice A (o.length + 1) c ∧ w4.cell? ⟨C.g, 2, none⟩ = some R ∧ w4.frozen? ⟨C.g, 2, none⟩ = false ∧ C.g < w4.heap.size ∧
      Sta C v4 Q D2 (o ++ [n]) k qs ps dd (w4.setCell ⟨C.g, 2, none⟩ v4) ∧ Moved (Writes C R Q) (Writes C v4 Q) w3 (w4.setCell ⟨C.g, 2, none⟩ v4)) := fun _ _ _ h1 h2 h3 => HS3.out.pushR h1 h2 h3
    go_wp2_with (at_builtin; refine wpList_append_lit_at _ rfl (.tmp 25) (.tmp 27) _ rfl C.w.heap.size 3 ii _ 1 8 Tryd.underlying39 hii hiz0 hiz1 hiz2 rfl (by omega) _ _ _ rfl hown _ _ 1 1 rfl rfl (by simp [Value.oneCell']) (by unfold maxLen; omega) (by omega) (by omega) ?_; intro v4 w4 hown4 hg4 hat4; obtain ⟨A4, c4, rfl, g4, z4, l4, hs4, hm4⟩ := HPU.out v4 w4 _ hown4 hg4 hat4; have HS4 := Lib.hid hs4; have HM4 := Lib.hid hm4; clear hown4 hg4 hat4 hs4 hm4)
    have HGR : Hid (gr < w3.heap.size) := HB3.out.lt
    have HB5 := Lib.hid (HM4.out.box HB3.out HX.out)
    have HX5 : Hid (¬ Writes C (.slice A4 (o.length + 1) c4) Q gr) := fun h => HX.out (HM4.out.less gr HGR.out h)
    have HM5 := Lib.hid (HM3.out.trans HM4.out)
    have HLT5 := Lib.hid (HLT3.out.moved HM4.out)
    generalize w4.setCell ⟨C.g, 2, none⟩ (.slice A4 (o.length + 1) c4) = w5 at *
    have HDD : Hid (dd ≤ k + 1) := by have := HNUM.out.2.2.1; unfold Hid; omega
    clear d0 d1 d2 y0 y1 y2 gl2 g2 z2 hgl3 hown hws HPU g4 z4 l4 HM4 HB3 HM3 HLT3 HS3 HF3 HX HGR hdd
    go_loopw [5] (fun v wr => RLoop C rec f.1.data.toList n R Q o k ps Z gr w v wr) (fun v _ => sliceLen v)
    case atStart => exact ⟨t, A2, c2, _, Q, D2, k, qs, [], dd, rfl, htc, htm, HTT.out.2, by rw [List.append_nil]; exact HS4.out, HLT5.out, HM5.out, by simp, Nat.le_refl _, HNUM.out.2.1, HDD.out, HB5.out, HX5.out, HE.out⟩
    case round =>
      clear HTT HS4 HLT5 HM5 HDD HB5 HX5 HE htc htm
      obtain ⟨l, A, c, R1, Q1, D1, k1, qs1, new, d1, rfl, hlc, hlm, HTX, HSR, HLR, HMR, hnew, hk0, hk1, hd1, HBR, HXR, HW⟩ := hrel
      obtain ⟨NL, hNL⟩ : ∃ NL, NL = (ps ++ new).length := ⟨_, rfl⟩
      have hps : NL ≤ 2000 := by have := HNUM.out.2.2.2; rw [hNL, List.length_append]; omega
      have HNEW := Lib.hid hnew
      have HNL := Lib.hid hNL
      obtain ⟨A1, c1, hR1, hc1, hl1⟩ := own_form HSR.out.reads
      have hoL : (o ++ [n]).length = o.length + 1 := by rw [List.length_append]; rfl
      rw [hoL] at hR1 hc1 hl1
      obtain ⟨b1, o1, hA1, _, _⟩ := hl1.2 (by omega)
      subst hA1
      subst hR1
      clear hnew hoL hl1 hNL
      by_cases hin : incAt l < l.length
      · obtain ⟨b, oo, rfl, hb, _, _⟩ := HLR.out.2 (by omega)
        obtain ⟨t', r, hdrop, hinc⟩ := inc_at hin
        have HCUT := Lib.hid (cut_some (n : Int) l b oo l.length c wr HLR.out.lies (by omega) hlc hin)
        have HTS : Hid (weaveToks C.fs rec f.1.data.toList n (o ++ [n]) l new.flatten k1 = afterInc (fun x k' => weaveToks C.fs rec f.1.data.toList n (o ++ [n]) (r.drop 1) ((new.flatten ++ (l.take (incAt l)).map fun t => ((n : Int), t)) ++ x) k') (incOf C.fs rec f.1.data.toList n (o ++ [n]) k1 t' r)) := by
          unfold Hid
          rw [toks_some, hdrop, toks_target _ _ _ _ _ _ _ _ _ hinc]
        obtain ⟨i, hI⟩ : ∃ i, i = incAt l := ⟨_, rfl⟩
        rw [← hI] at HCUT HTS hin hdrop
        have HDR := Lib.hid hdrop
        obtain ⟨N, hN⟩ : ∃ N, N = l.length := ⟨_, rfl⟩
        have HN := Lib.hid hN
        rw [← hN] at HCUT hin hlc hlm HLR ⊢
        have hrl : r.length + 1 = N - i := by have := congrArg List.length hdrop; rw [List.length_drop, ← hN] at this; simp only [List.length_cons] at this; omega
        have HTR : Hid (∀ u ∈ r, u.text.length ≤ 1048576) := fun u hu => HTX.out u (by
          have : u ∈ l.drop i := by rw [hdrop]; exact List.mem_cons_of_mem _ hu
          exact List.mem_of_mem_drop this)
        obtain ⟨m, hm⟩ : ∃ m, m = N - i := ⟨_, rfl⟩
        obtain ⟨cc, hcc⟩ : ∃ cc, cc = c - i := ⟨_, rfl⟩
        have hmc : m ≤ cc := by omega
        have hm2 : m ≤ 20000 := by omega
        have HMN := Lib.hid hm
        rw [← hm, ← hcc] at HCUT
        rw [← hm] at hrl
        clear hI hdrop hN hm hcc
        go_wp2_with fail
        refine HCUT.out.mono ?_
        rintro e w6 ⟨rfl, hb6⟩
        have HS6 := Lib.hid (HSR.out.step hb6)
        have HM6 := Lib.hid (HMR.out.trans (Moved.of_below _ hb6))
        have HB6 := Lib.hid (HBR.out.step hb6)
        have HL6 := Lib.hid (HLR.out.moved (Moved.of_below _ hb6))
        have g4 := HS6.out.box.cell 4
        simp only [List.getElem?_toArray, List.getElem?_cons_zero, List.getElem?_cons_succ] at g4
        have hown := HS6.out.runs
        rw [← HNL.out] at hown
        have hws := HS6.out.below.size
        have HGW : Hid (gr < w6.heap.size) := HB6.out.lt
        have HPQ : Hid (∀ (v4 : Value) (w4 : World) (ob : Obj), w4.ownsRow C.w.heap.size 26 1 v4 (NL + 1) (qs1 ++ [.slice (some ⟨b, oo, none⟩) i c]) → (w6.alloc ob).grownBy w4 Q1.ownBlock → v4.ownBlock = Q1.ownBlock ∨ v4.ownBlock = some (w6.heap.size + 1) →
            ∃ (A4 : Option Addr) (c4 : Nat), v4 = .slice A4 (NL + 1) c4 ∧ w4.cell? ⟨C.g, 4, none⟩ = some Q1 ∧ w4.frozen? ⟨C.g, 4, none⟩ = false ∧ C.g < w4.heap.size ∧
            Sta C (.slice (some ⟨b1, o1, none⟩) (o.length + 1) c1) v4 D1 (o ++ [n]) k1 (qs1 ++ [.slice (some ⟨b, oo, none⟩) i c]) ((ps ++ new) ++ [(l.take i).map fun t => ((n : Int), t)]) d1 (w4.setCell ⟨C.g, 4, none⟩ v4) ∧ Moved (Writes C (.slice (some ⟨b1, o1, none⟩) (o.length + 1) c1) Q1) (Writes C (.slice (some ⟨b1, o1, none⟩) (o.length + 1) c1) v4) w6 (w4.setCell ⟨C.g, 4, none⟩ v4)) := fun v4 w4 ob h1 h2 h3 => by
          have hm : ((l.take i).map fun t => ((n : Int), t)).length = i := by rw [List.length_map, List.length_take, ← HN.out]; omega
          have hl := (lies_part HL6.out i (by omega)).1
          rw [ftoks_of] at hl
          rw [HNL.out] at h1 ⊢
          have := HS6.out.pushQ (A := some ⟨b, oo, none⟩) (c := c) (r := (l.take i).map fun t => ((n : Int), t)) (by rw [hm]; exact h1) h2 h3 (by rw [hm]; exact hl) (by rw [hm]; omega)
          rw [hm] at this
          exact this
        clear hb6 HSR HMR HBR HLR HCUT
        go_wp2_with (at_builtin; refine wpList_append_lit_at _ rfl (.tmp 41) (.tmp 43) _ rfl C.w.heap.size 26 i0 _ 1 24 Tryd.underlying40 hi hz0 hz1 hz2 rfl (by omega) _ _ _ rfl hown _ _ 1 1 rfl rfl (by simp [Value.oneCell']) (by unfold maxLen; omega) (by omega) (by omega) ?_; intro v7 w7 hown7 hg7 hat7; obtain ⟨A7, c7, rfl, g7, z7, l7, hs7, hm7⟩ := HPQ.out v7 w7 _ hown7 hg7 hat7; have HS7 := Lib.hid hs7; have HM7 := Lib.hid hm7; clear hown7 hg7 hat7 hs7 hm7)
        have HB7 := Lib.hid (HM7.out.box HB6.out HXR.out)
        have HX7 : Hid (¬ Writes C (.slice (some ⟨b1, o1, none⟩) (o.length + 1) c1) (.slice A7 (NL + 1) c7) gr) := fun h => HXR.out (HM7.out.less gr HGW.out h)
        have HMM := Lib.hid (HM6.out.trans HM7.out)
        have HL7 := Lib.hid ((lies_part HL6.out i (by omega)).2.moved HM7.out)
        generalize w7.setCell ⟨C.g, 4, none⟩ (.slice A7 (NL + 1) c7) = w8 at *
        clear hown hws HPQ g7 z7 l7 HM7 HB6 HM6 HS6 HL6 g4 HXR
        rw [HDR.out, ← HMN.out] at HL7
        have hpl : ((ps ++ new) ++ [(l.take i).map fun t => ((n : Int), t)]).length ≤ 2 * (k1 + 1) := by
          have h1 := HNEW.out
          have h2 := HNUM.out.2.2.2
          simp only [List.length_append, List.length_singleton]
          omega
        have HINC := Lib.hid (include_any rec HC.out HS7.out n f HF.out (by rw [List.length_append, List.length_singleton]; omega) hk1 t' r HTR.out b (oo + i * 4) cc m HL7.out (by omega) hmc
          (fun h8 hk2 n' W hW hn' => HRD.out (by rw [List.length_append, List.length_singleton] at h8; omega) n' _ _ _ (k1 + 1) _ _ _ W hW hn' (by omega) hd1 hpl))
        have HBE : Hid (∀ x k', incOf C.fs rec f.1.data.toList n (o ++ [n]) k1 t' r = (.ok x, k') → 1 ≤ r.length) := fun x k' h => inc_two h
        obtain ⟨Y, hY⟩ : ∃ Y, Y = incOf C.fs rec f.1.data.toList n (o ++ [n]) k1 t' r := ⟨_, rfl⟩
        rw [← hY] at HINC HBE HTS
        clear hY hpl
        have HZZ : Hid (Z = afterInc (fun x k' => weaveToks C.fs rec f.1.data.toList n (o ++ [n]) (r.drop 1) ((new.flatten ++ (l.take i).map fun t => ((n : Int), t)) ++ x) k') Y) := HW.out.symm.trans HTS.out
        clear HW HTS
        go_wp2_with fail
        refine HINC.out.mono ?_
        rintro e w9 hres
        rcases hres with ⟨e, X, h1, h2, rfl, h3, h4⟩ | ⟨y, k', R', Q', D', qs', new', d', h1, rfl, h2, h3, h4, h5, h6, h7, h8⟩
        · have HE : Hid (Z.1 = .error e) := by
            have hz := HZZ.out
            obtain ⟨Y1, Y2⟩ := Y
            dsimp only at h1
            subst h1
            unfold Hid
            rw [hz]
            rfl
          have hen := h2
          have HB9 := Lib.hid (h4.box HB7.out HX7.out)
          have HM9 := Lib.hid (HMM.out.trans h4)
          have HW9 := Lib.hid h3
          obtain ⟨e1, e2, ep⟩ := e
          dsimp only [faultCells] at hen ⊢
          have HF10 := Lib.hid (Box.new w9 30 #[.int .i64 e1, .int .i64 e2, .complex .f64 (fl (ep.1 : Int)) (fl (ep.2 : Int))])
          have hb10 : Below w9.heap.size w9 (w9.alloc (.cells #[.int .i64 e1, .int .i64 e2, .complex .f64 (fl (ep.1 : Int)) (fl (ep.2 : Int))] 30)) := below_alloc (Below.refl _ _) (Nat.le_refl _) _
          have HB10 := Lib.hid (HB9.out.step hb10)
          have HM10 := Lib.hid (HM9.out.trans (Moved.of_below _ hb10))
          have HW10 := Lib.hid (HW9.out.trans (hb10.mono HW9.out.size))
          clear h1 h2 h3 h4 hb10 HINC HBE HZZ HM9 HW9 HB9 HS7 HMM HB7 HX7 HL7
          go_upto_region 9 with (fail)
          obtain ⟨gt, hgt⟩ : ∃ gt, gt = w9.heap.size := ⟨_, rfl⟩
          generalize w9.alloc (.cells #[.int .i64 e1, .int .i64 e2, .complex .f64 (fl (ep.1 : Int)) (fl (ep.2 : Int))] 30) = w10 at *
          rw [← hgt] at HF10 ⊢
          clear hgt
          obtain ⟨k0, k1', k2', z0, z1, z2, gl⟩ := box_cells HB10.out
          obtain ⟨d0, d1', d2, y0, y1, y2, gl2⟩ := box_cells HF10.out
          go_wp2_with fail
          try simp only [Exit.inBlock, Exit.then]
          refine bodyPost_ret (results_box rfl _ _ gr 30 _ rfl (box_trio HB10.out) _ Tryd.underlying30 rfl faultSize) rfl ?_
          exact .inl ⟨(e1, e2, ep), X, HE.out, hen, rfl, below_only HW10.out (Nat.le_trans HGC.out.1 HGC.out.2) HW10.out.size (set3_only _ _ _ _ _), HM10.out.after (set3_only _ _ _ _ _) HGC.out.2⟩
        · have hr1 := HBE.out y k' h1
          have HE : Hid (weaveToks C.fs rec f.1.data.toList n (o ++ [n]) (r.drop 1) ((new.flatten ++ (l.take i).map fun t => ((n : Int), t)) ++ y) k' = Z) := by
            have hz := HZZ.out
            rw [h1] at hz
            exact hz.symm
          have HFL : Hid ((new ++ ([(l.take i).map fun t => ((n : Int), t)] ++ new')).flatten = (new.flatten ++ (l.take i).map fun t => ((n : Int), t)) ++ y) := by
            unfold Hid
            rw [← h3]
            simp
          have HB9 := Lib.hid (h8.box HB7.out HX7.out)
          have HG8 : Hid (gr < w8.heap.size) := HB7.out.lt
          have HX9 : Hid (¬ Writes C R' Q' gr) := fun h => HX7.out (h8.less gr HG8.out h)
          have HM9 := Lib.hid (HMM.out.trans h8)
          have HS9 := Lib.hid h2
          have HL9 := Lib.hid ((lies_part (HL7.out.moved h8) 2 (by omega)).2)
          have hnum : (new ++ ([(l.take i).map fun t => ((n : Int), t)] ++ new')).length + 2 * k ≤ 2 * k' := by
            have h9 := HNEW.out
            simp only [List.length_append, List.length_singleton]
            omega
          have HNM := Lib.hid hnum
          have hkk : k ≤ k' := by omega
          dsimp only [faultCells]
          have HF10 := Lib.hid (Box.new w9 30 #[.int .i64 0, .int .i64 0, .complex .f64 0 0])
          have hb10 : Below w9.heap.size w9 (w9.alloc (.cells #[.int .i64 0, .int .i64 0, .complex .f64 0 0] 30)) := below_alloc (Below.refl _ _) (Nat.le_refl _) _
          have HB10 := Lib.hid (HB9.out.step hb10)
          have HM10 := Lib.hid (HM9.out.trans (Moved.of_below _ hb10))
          have HS10 := Lib.hid (HS9.out.step hb10)
          have HL10 := Lib.hid (HL9.out.moved (Moved.of_below _ hb10))
          clear h1 h2 h3 h4 h8 hb10 HINC HBE HZZ HM9 HB9 HS7 HMM HB7 HX7 HL7 HS9 HL9 hnum
          go_upto_region 9 with (fail)
          obtain ⟨gt, hgt⟩ : ∃ gt, gt = w9.heap.size := ⟨_, rfl⟩
          generalize w9.alloc (.cells #[.int .i64 0, .int .i64 0, .complex .f64 0 0] 30) = w10 at *
          rw [← hgt] at HF10 ⊢
          clear hgt
          obtain ⟨d0, d1', d2, y0, y1, y2, gl2⟩ := box_cells HF10.out
          have hm3 : 2 ≤ m := by omega
          have hm3i : (2 : Int) ≤ (m : Int) := by omega
          have hm3c : 2 ≤ cc := by omega
          have hm3d : (2 : Int) ≤ (cc : Int) := by omega
          have HRM : Hid ((r.drop 1).length = m - 2 ∧ (t' :: r).drop 2 = r.drop 1) := ⟨by rw [List.length_drop]; omega, rfl⟩
          have HTD : Hid (∀ u ∈ r.drop 1, u.text.length ≤ 1048576) := fun u hu => HTR.out u (List.mem_of_mem_drop hu)
          have HS11 : Hid (Sta C R' Q' D' (o ++ [n]) k' qs' (ps ++ (new ++ ([(l.take i).map fun t => ((n : Int), t)] ++ new'))) d' w10) := by
            unfold Hid
            rw [← List.append_assoc, ← List.append_assoc]
            exact HS10.out
          have HE11 : Hid (weaveToks C.fs rec f.1.data.toList n (o ++ [n]) (r.drop 1) (new ++ ([(l.take i).map fun t => ((n : Int), t)] ++ new')).flatten k' = Z) := by
            unfold Hid
            rw [HFL.out]
            exact HE.out
          have HL11 : Hid (LiesT (Writes C R' Q') w10 4 (some ⟨b, oo + i * 4 + 8, none⟩) (r.drop 1).length (toksV (n : Int) (r.drop 1))) := by
            have := HL10.out
            rw [HRM.out.2] at this
            unfold Hid
            rw [HRM.out.1]
            exact this
          have hmN : m ≤ N := by have := HMN.out; omega
          by_cases hc2 : cc = 2
          · have hm4 : m = 2 := by omega
            have hrn : r.drop 1 = [] := List.eq_nil_of_length_eq_zero (by have := HRM.out.1; omega)
            have HRN := Lib.hid hrn
            subst hc2
            subst hm4
            clear hrn
            go_wp2_with fail
            go_roundw
            case rel =>
              refine ⟨r.drop 1, some ⟨b, oo + i * 4, none⟩, 0, R', Q', D', k', qs', _, d', ?_, ?_, ?_, HTD, HS11, ?_, HM10, HNM.out, hkk, h6, h7, HB10, HX9, HE11⟩
              · rw [HRN.out]; rfl
              · rw [HRN.out]; exact Nat.le_refl _
              · rw [HRN.out]; exact Nat.zero_le _
              · rw [HRN.out]; exact ⟨rfl, fun h => absurd h (Nat.lt_irrefl _)⟩
            case measure => simp [sliceLen]; omega
          · go_wp2_with fail
            go_roundw
            case rel =>
              refine ⟨r.drop 1, some ⟨b, oo + i * 4 + 8, none⟩, cc - 2, R', Q', D', k', qs', _, d', ?_, ?_, ?_, HTD, HS11, HL11, HM10, HNM.out, hkk, h6, h7, HB10, HX9, HE11⟩
              · rw [HRM.out.1]
              · rw [HRM.out.1]; omega
              · rw [HRM.out.1]; omega
            case measure => simp [sliceLen]; omega
      · have HCUT := Lib.hid (cut_none (n : Int) l A l.length c wr HLR.out.lies (by omega) hin)
        have HE : Hid (Z = (.ok (new.flatten ++ l.map fun t => ((n : Int), t)), k1)) := by
          have := HW.out
          rw [toks_none _ _ _ _ _ _ _ _ hin] at this
          exact this.symm
        clear hin HW
        go_wp2_with fail
        refine HCUT.out.mono ?_
        rintro e w6 ⟨rfl, hb6⟩
        have HS6 := Lib.hid (HSR.out.step hb6)
        have HM6 := Lib.hid (HMR.out.trans (Moved.of_below _ hb6))
        have HB6 := Lib.hid (HBR.out.step hb6)
        have HL6 := Lib.hid (HLR.out.moved (Moved.of_below _ hb6))
        have g4 := HS6.out.box.cell 4
        simp only [List.getElem?_toArray, List.getElem?_cons_zero, List.getElem?_cons_succ] at g4
        have hown := HS6.out.runs
        rw [← HNL.out] at hown
        have hws := HS6.out.below.size
        have HGW : Hid (gr < w6.heap.size) := HB6.out.lt
        have HPQ : Hid (∀ (v4 : Value) (w4 : World) (ob : Obj), w4.ownsRow C.w.heap.size 26 1 v4 (NL + 1) (qs1 ++ [.slice A l.length c]) → (w6.alloc ob).grownBy w4 Q1.ownBlock → v4.ownBlock = Q1.ownBlock ∨ v4.ownBlock = some (w6.heap.size + 1) →
            ∃ (A4 : Option Addr) (c4 : Nat), v4 = .slice A4 (NL + 1) c4 ∧ w4.cell? ⟨C.g, 4, none⟩ = some Q1 ∧ w4.frozen? ⟨C.g, 4, none⟩ = false ∧ C.g < w4.heap.size ∧
            Sta C (.slice (some ⟨b1, o1, none⟩) (o.length + 1) c1) v4 D1 (o ++ [n]) k1 (qs1 ++ [.slice A l.length c]) ((ps ++ new) ++ [l.map fun t => ((n : Int), t)]) d1 (w4.setCell ⟨C.g, 4, none⟩ v4) ∧ Moved (Writes C (.slice (some ⟨b1, o1, none⟩) (o.length + 1) c1) Q1) (Writes C (.slice (some ⟨b1, o1, none⟩) (o.length + 1) c1) v4) w6 (w4.setCell ⟨C.g, 4, none⟩ v4)) := fun v4 w4 ob h1 h2 h3 => by
          have hm : (l.map fun t => ((n : Int), t)).length = l.length := List.length_map ..
          have hl := HL6.out
          rw [ftoks_of, ← hm] at hl
          rw [HNL.out] at h1 ⊢
          have := HS6.out.pushQ (A := A) (c := c) (r := l.map fun t => ((n : Int), t)) (by rw [hm]; exact h1) h2 h3 hl (by rw [hm]; exact hlm)
          rw [hm] at this
          exact this
        clear hb6 HSR HMR HBR HLR HCUT
        go_wp2_with (at_builtin; refine wpList_append_lit_at _ rfl (.tmp 41) (.tmp 43) _ rfl C.w.heap.size 26 i0 _ 1 24 Tryd.underlying40 hi hz0 hz1 hz2 rfl (by omega) _ _ _ rfl hown _ _ 1 1 rfl rfl (by simp [Value.oneCell']) (by unfold maxLen; omega) (by omega) (by omega) ?_; intro v7 w7 hown7 hg7 hat7; obtain ⟨A7, c7, rfl, g7, z7, l7, hs7, hm7⟩ := HPQ.out v7 w7 _ hown7 hg7 hat7; have HS7 := Lib.hid hs7; have HM7 := Lib.hid hm7; clear hown7 hg7 hat7 hs7 hm7)
        have HB7 := Lib.hid (HM7.out.box HB6.out HXR.out)
        have HX7 : Hid (¬ Writes C (.slice (some ⟨b1, o1, none⟩) (o.length + 1) c1) (.slice A7 (NL + 1) c7) gr) := fun h => HXR.out (HM7.out.less gr HGW.out h)
        have HMM := Lib.hid (HM6.out.trans HM7.out)
        generalize w7.setCell ⟨C.g, 4, none⟩ (.slice A7 (NL + 1) c7) = w8 at *
        clear hown hws HPQ g7 z7 l7 HM7 HB6 HM6 HS6 HL6 g4 HXR
        have g2 := HS7.out.box.cell 2
        have z2 := HS7.out.box.free 2
        have hgl8 := HS7.out.box.lt
        simp only [List.getElem?_toArray, List.getElem?_cons_zero, List.getElem?_cons_succ] at g2
        have hsub : wrap64 ((o.length : Int) + 1 - 1) = (o.length : Int) := by unfold wrap64; omega
        obtain ⟨OL, hOL⟩ : ∃ OL, OL = o.length := ⟨_, rfl⟩
        have HOL := Lib.hid hOL
        rw [← hOL] at g2 hsub hol hc1 HX7 HMM HS7
        obtain ⟨hs9, hm9⟩ : Sta C (.slice (some ⟨b1, o1, none⟩) OL c1) (.slice A7 (NL + 1) c7) D1 o k1 (qs1 ++ [.slice A l.length c]) ((ps ++ new) ++ [l.map fun t => ((n : Int), t)]) d1 ((w8.setCell ⟨C.g, 2, none⟩ (.slice (some ⟨b1, o1, none⟩) OL c1)).drew) ∧ Moved (Writes C (.slice (some ⟨b1, o1, none⟩) (OL + 1) c1) (.slice A7 (NL + 1) c7)) (Writes C (.slice (some ⟨b1, o1, none⟩) OL c1) (.slice A7 (NL + 1) c7)) w8 ((w8.setCell ⟨C.g, 2, none⟩ (.slice (some ⟨b1, o1, none⟩) OL c1)).drew) := by
          have hd8 : Below w8.heap.size w8 w8.drew := (Below.refl _ _).drew
          have h := HS7.out.step hd8
          rw [hOL] at h ⊢
          exact ⟨h.popR.1, (Moved.of_below _ hd8).trans h.popR.2⟩
        have HS9 := Lib.hid hs9
        have HM9 := Lib.hid (HMM.out.trans hm9)
        have HB9 := Lib.hid (hm9.box HB7.out HX7.out)
        have HGW8 : Hid (gr < w8.heap.size) := HB7.out.lt
        have HX9 : Hid (¬ Writes C (.slice (some ⟨b1, o1, none⟩) OL c1) (.slice A7 (NL + 1) c7) gr) := fun h => HX7.out (hm9.less gr HGW8.out h)
        clear hs9 hm9 HS7 hOL
        have hOc : OL ≤ c1 := by omega
        have hOci : (OL : Int) ≤ (c1 : Int) := by omega
        have hO0 : (0 : Int) ≤ (OL : Int) := by omega
        have hw1 : IntKind.i64.wrap ((OL : Int) + 1 - 1) = (OL : Int) := by rw [IntKind.wrap_i64]; omega
        have hw2 : IntKind.i64.wrap (OL : Int) = (OL : Int) := by rw [IntKind.wrap_i64]; omega
        have hw3 : wrap64 (OL : Int) = (OL : Int) := by unfold wrap64; omega
        refine wp_region_still_tail 14 (by kernel_rfl) (by kernel_rfl) ?_
        simp only [List.take_succ_cons, List.take_zero, List.drop_succ_cons, List.drop_zero]
        change wpStill _ _ (World.drew _) _ _ _
        repeat still_step
        refine wpStill_nil ?_
        change wpList _ _ _ _ _ (World.drew _)
        go_upto_region 13 with (fail)
        generalize (w8.setCell ⟨C.g, 2, none⟩ (.slice (some ⟨b1, o1, none⟩) OL c1)).drew = w9 at *
        clear hOc hOci hO0 hw1 hw2 hw3 hsub g2 z2 hgl8
        obtain ⟨c0, c1', c2', z0, z1, z2, gl⟩ := box_cells HB9.out
        go_wp2_with fail
        try simp only [Exit.inBlock, Exit.then]
        refine bodyPost_ret (results_box rfl _ _ gr 30 _ rfl (box_trio HB9.out) _ Tryd.underlying30 rfl faultSize) rfl ?_
        have hs := HS9.out.other HB9.out HX9.out (Nat.le_trans HGC.out.1 HGC.out.2) (set3_only w9 gr (.int .i64 0) (.int .i64 0) (.complex .f64 0 0))
        rw [List.append_assoc] at hs
        have hfl : (new ++ [l.map fun t => ((n : Int), t)]).flatten = new.flatten ++ l.map fun t => ((n : Int), t) := by simp
        exact .inr ⟨_, k1, _, _, D1, _, new ++ [l.map fun t => ((n : Int), t)], d1, HE.out, rfl, hs, hfl, by rw [List.length_append]; have := HNEW.out; simp only [List.length_singleton]; omega, hk0, hk1, hd1, HM9.out.after (set3_only _ _ _ _ _) HGC.out.2⟩

end
end Go.Proofs.YtdjhpgpekomjeaaDoor.LandedW
