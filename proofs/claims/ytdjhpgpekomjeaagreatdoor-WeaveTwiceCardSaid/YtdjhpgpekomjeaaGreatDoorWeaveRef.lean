/- What the document's own weave gives: the tokens of a file with what it includes. -/
import Derived.Test.YtdjhpgpekomjeaaGreatDoorWeavePlain
import Derived.Test.YtdjhpgpekomjeaaGreatDoorTokSplit
import Derived.Test.YtdjhpgpekomjeaaGreatDoorPart2
import Derived.Test.YtdjhpgpekomjeaaGreatDoorPart4
import Derived.StillTailTactics
import Derived.Deep.DeepCutAuto
import Derived.BigQuiet
import Derived.OneCell
namespace Go.Proofs.YtdjhpgpekomjeaaGreatDoor
open Go.RowKit

theorem Tryz.infoIntW : (Tryz.prog.info? 3).map (fun i => (i.zero, i.size, i.bytes)) = some (some (.int .i64 0), 1, 8) := by kernel_rfl

def natsV (l : List Nat) : List Value := l.map fun (n : Nat) => Value.int .i64 (n : Int)
theorem natsV_len (l : List Nat) : (natsV l).length = l.length := by simp [natsV]
theorem natsV_one (l : List Nat) : ∀ u ∈ natsV l, u.oneCell' = true := by
  intro u hu
  obtain ⟨x, _, rfl⟩ := List.mem_map.1 hu
  rfl

theorem ftoksV_cells (l : List FTok) : ∀ u ∈ ftoksV l, u.oneCell' = true := by
  intro u hu
  obtain ⟨t, _, ht⟩ := List.mem_flatMap.1 hu
  simp only [ftokV, tokVals, List.mem_cons, List.not_mem_nil, or_false] at ht
  rcases ht with rfl | rfl | rfl | rfl <;> rfl

/-- Its block is another one. -/
def Clear (g : Nat) (A : Option Addr) : Prop := ∀ a, A = some a → a.block ≠ g

theorem lies_clear {w w' : World} {B g size n : Nat} {A : Option Addr} {xs : List Value} (h : Lies w B size A n xs) (hA : Clear g A) (hB : B ≤ w.heap.size) (ho : w.grownBy w' (some g)) : Lies w' B size A n xs := by
  refine ⟨h.1, fun hn => ?_⟩
  obtain ⟨b, o, rfl, hb, hc⟩ := h.2 hn
  have hbg : b ≠ g := hA _ rfl
  refine ⟨b, o, rfl, hb, fun j u hu => ?_⟩
  have := ho.block b (by omega) (fun e => hbg (Option.some.inj e))
  have h2 := hc j u hu
  unfold World.cell? at h2 ⊢
  rw [this]
  exact h2
theorem own_only {w w' : World} {base g size n : Nat} {e : TypeId} {v : Value} {xs : List Value} (h : w.ownsRow base e size v n xs) (hg : g < base) (ho : w.grownBy w' (some g)) : w'.ownsRow base e size v n xs := by
  obtain ⟨hl, h0 | ⟨k, cap, cur, hv, hb, hh, r⟩⟩ := h
  · exact ⟨hl, .inl h0⟩
  · have hk : k < w.heap.size := by
      rcases Nat.lt_or_ge k w.heap.size with h1 | h1
      · exact h1
      · rw [Array.getElem?_eq_none h1] at hh
        cases hh
    exact ⟨hl, .inr ⟨k, cap, cur, hv, hb, by rw [ho.block k hk (fun e => by have := Option.some.inj e; omega)]; exact hh, r⟩⟩
theorem only_step {a w w' : World} {g : Nat} (h : a.grownBy w (some g)) (hb : Below w.heap.size w w') : a.grownBy w' (some g) := only_trans h (only_below hb g)
theorem only_grown {a w w' : World} {base g size n : Nat} {e : TypeId} {v : Value} {xs : List Value} (h : a.grownBy w (some g)) (hown : w.ownsRow base e size v n xs) (hb : a.heap.size ≤ base) (hg : w.grownBy w' v.ownBlock) : a.grownBy w' (some g) :=
  ⟨hg.os.trans h.os, hg.tape.trans h.tape, hg.output.trans h.output, Nat.le_trans h.size hg.size, fun i hi hn => by
    rw [hg.block i (Nat.lt_of_lt_of_le hi h.size) (fun e => by have := (hown.lt i e.symm).1; omega)]
    exact h.block i hi hn⟩

/-- What reading a file with what it includes gives: the tokens in a row of its own, or a fault; and how many were included. -/
def WeaveEnd (R : WeaveR) (g : Nat) (w : World) : Ending → World → Prop := fun r w' =>
  ((∃ (e : FaultV) (A : Option Addr) (c : Nat), R.1 = .error e ∧ e.1 ≠ 0 ∧ r = .returned (.tuple #[.slice A 0 c, .agg (faultCells e.1 e.2.1 (fl e.2.2.1) (fl e.2.2.2))])) ∨
   (∃ (l : List FTok) (A : Option Addr) (c : Nat), R.1 = .ok l ∧ r = .returned (.tuple #[.slice A l.length c, .agg (faultCells 0 0 0 0)]) ∧ l.length ≤ c ∧ w'.ownsRow w.heap.size 39 4 (.slice A l.length c) l.length (ftoksV l))) ∧
  Box w' g 53 #[.int .i64 R.2] ∧ w.grownBy w' (some g)

theorem only_new_set {w W : World} {g k i : Nat} {u : Value} (h : w.grownBy W (some g)) (hk : w.heap.size ≤ k) : w.grownBy (W.setCell ⟨k, i, none⟩ u) (some g) :=
  ⟨h.os, h.tape, h.output, Nat.le_trans h.size (by simp), fun j hj hn => by
    rw [Below.heap_setCell _ _ _ _ (show j ≠ (⟨k, i, none⟩ : Addr).block from by show j ≠ k; omega)]
    exact h.block j hj hn⟩

theorem fault_end {R : WeaveR} {g n : Nat} {w W : World} {e file : Int} {p : Nat × Nat} {a b c : Value} (hR : R = (.error (e, file, p), n)) (he : e ≠ 0) (hg : g < w.heap.size) (hG : Box W g 53 #[.int .i64 n]) (hO : w.grownBy W (some g)) :
    WeaveEnd R g w (.returned (.tuple #[.slice none 0 0, .agg (faultCells e file (fl p.1) (fl p.2))])) (((W.drew.setCell ⟨w.heap.size, 0, none⟩ a).setCell ⟨w.heap.size, 1, none⟩ b).setCell ⟨w.heap.size, 2, none⟩ c) := by
  have hne : g ≠ w.heap.size := by omega
  subst hR
  refine ⟨.inl ⟨(e, file, p), none, 0, rfl, he, rfl⟩, ((hG.drew.other hne).other hne).other hne, ?_⟩
  exact only_new_set (only_new_set (only_new_set (only_drew hO) (Nat.le_refl _)) (Nat.le_refl _)) (Nat.le_refl _)

/-- A file whose texts are so short. -/
def FileOk (f : FileV) : Prop := f.1.size ≤ 1048576 ∧ f.2.size ≤ 1048576

theorem split_num {s : List UInt8} {e : Int × Nat × Nat} (h : splitOf s = .error e) : e.1 = 3 ∨ e.1 = 9 := by
  unfold splitOf at h
  split at h
  · cases h; exact .inr rfl
  · cases hs : splitL s.length (1, 1) s with
    | error p => rw [hs] at h; cases h; exact .inl rfl
    | ok m => rw [hs] at h; cases h

theorem tok_cells (file : Int) : ∀ (l : List TokV) (k : Nat) (t : TokV), l[k]? = some t →
    (toksV file l)[k * 4]? = some (.int .i64 t.kind) ∧ (toksV file l)[k * 4 + 1]? = some (.string (strOf t.text)) ∧ (toksV file l)[k * 4 + 2]? = some (.int .i64 file) ∧ (toksV file l)[k * 4 + 3]? = some (.complex .f64 (fl t.place.1) (fl t.place.2))
  | [], k, t, h => by simp at h
  | x :: r, 0, t, h => by
    obtain rfl : x = t := by simpa using h
    exact ⟨rfl, rfl, rfl, rfl⟩
  | x :: r, k + 1, t, h => by
    have := tok_cells file r k t (by simpa using h)
    have e : ∀ j, (toksV file (x :: r))[(k + 1) * 4 + j]? = (toksV file r)[k * 4 + j]? := fun j => by
      rw [show (k + 1) * 4 + j = 4 + (k * 4 + j) from by omega]
      show (tokVals file x ++ toksV file r)[4 + (k * 4 + j)]? = _
      rw [List.getElem?_append_right (by simp [tokVals])]
      simp [tokVals]
    exact ⟨(e 0).trans this.1, (e 1).trans this.2.1, (e 2).trans this.2.2.1, (e 3).trans this.2.2.2⟩

/-- Where the loop over a file's tokens stands. -/
def WLoop (fs : List FileV) (rec : Nat → List Nat → Nat → WeaveR) (path : List UInt8) (file : Nat) (opened : List Nat) (T : List TokV) (R : WeaveR) (g : Nat) (w2 : World) (v i : Value) (wr : World) : Prop :=
  ∃ (k : Nat) (acc : List FTok) (n : Nat), k ≤ T.length ∧ i = .int .i64 k ∧ acc.length ≤ k + 20000 * n ∧ n ≤ 1000 ∧ wr.ownsRow w2.heap.size 39 4 v acc.length (ftoksV acc) ∧ Box wr g 53 #[.int .i64 n] ∧ w2.grownBy wr (some g) ∧
    Hid (weaveToks fs rec path file opened (T.drop k) acc n = R)

set_option maxRecDepth 100000 in
set_option maxHeartbeats 8000000 in
theorem weave_with (fs : List FileV) (rec : Nat → List Nat → Nat → WeaveR) (hrec : RecOk rec) (g : Nat) (A : Option Addr) (N c : Nat) (opened : List Nat) (O : Option Addr) (oc : Nat) (file n : Nat) (w : World)
    (hl : Lies w w.heap.size 2 A N (filesV fs)) (hA : Clear g A) (hN : N ≤ 4294967296) (ho : Lies w w.heap.size 1 O opened.length (natsV opened)) (hO : Clear g O) (hol : opened.length ≤ 8) (hb : Box w g 53 #[.int .i64 n]) (hn : n ≤ 1000) (hf : file < fs.length) (hfs : ∀ f ∈ fs, FileOk f)
    (HREC : opened.length < 8 → ∀ (f' n' : Nat) (P : Option Addr) (pc : Nat) (W : World), Lies W W.heap.size 2 A N (filesV fs) → Lies W W.heap.size 1 P (opened.length + 1) (natsV (opened ++ [f'])) → Clear g P → Box W g 53 #[.int .i64 n'] → n' ≤ 1000 → f' < fs.length →
      Calls Tryz.prog 17 #[.pointer (some ⟨g, 0, none⟩), .slice A N c, .int .i64 f', .slice P (opened.length + 1) pc] W (WeaveEnd (rec f' (opened ++ [f']) n') g W)) :
    Calls Tryz.prog 17 #[.pointer (some ⟨g, 0, none⟩), .slice A N c, .int .i64 file, .slice O opened.length oc] w (WeaveEnd (weaveFile fs rec file opened n) g w) := by
  obtain ⟨i0, hi, hz0, hz1, hz2⟩ := info_parts Tryz.infoTok
  obtain ⟨ii, hii, hiz0, hiz1, hiz2⟩ := info_parts Tryz.infoIntW
  have hst := store_cx
  have hgl := hb.lt
  have hln : fs.length = N := by have := hl.1; rw [filesV_len] at this; omega
  obtain ⟨f, hfe⟩ : ∃ f, fs[file]? = some f := ⟨_, List.getElem?_eq_getElem hf⟩
  have hfo := hfs f (List.mem_of_getElem? hfe)
  obtain ⟨b, o, rfl, hbl, hcl⟩ := hl.2 (by omega)
  have hat := filesV_at fs file f hfe
  have hc0 := hcl _ _ hat.1
  have hc1 := hcl _ _ hat.2
  rw [← Nat.add_assoc] at hc1
  obtain ⟨R, hR⟩ : ∃ R, R = weaveFile fs rec file opened n := ⟨_, rfl⟩
  have HR : Hid (R = match splitOf f.2.data.toList with
    | .error e => (.error (e.1, file, e.2), n)
    | .ok t => weaveToks fs rec f.1.data.toList file opened t [] n) := by rw [hR]; unfold weaveFile; rw [hfe]; rfl
  rw [← hR]
  have HSP := Lib.hid (fun W => splitNew_any f.2 file W)
  have HEN : Hid (∀ e p, splitOf f.2.data.toList = .error (e, p) → e ≠ 0) := fun e p h => by have := split_num h; dsimp only at this; omega
  have HTM : Hid (∀ T, splitOf f.2.data.toList = .ok T → T.length ≤ 20000) := fun T h => split_most h
  have HTX0 : Hid (∀ T, splitOf f.2.data.toList = .ok T → ∀ u ∈ T, u.text.length ≤ 1048576) := fun T h u hu => by have h1 := split_text h u hu; have h2 : f.2.data.toList.length = f.2.size := by simp
                                                                                                                  have := hfo.2; omega
  generalize hS : splitOf f.2.data.toList = S at HR HSP HEN HTM HTX0
  have HB := Lib.hid hb
  have HL := Lib.hid hl
  have HO := Lib.hid ho
  have HFZ := Lib.hid (Box.new w 30 (faultCells 0 0 0 0))
  have HN0 : Hid (Below w.heap.size w (w.alloc (.cells (faultCells 0 0 0 0) 30))) := below_alloc (Below.refl _ _) (Nat.le_refl _) _
  unfold faultCells at HFZ HN0
  clear hR hb hl ho hat
  go_enter Tryz.func17, Tryz.ntmps17
  go_wp2_with fail
  refine (HSP.out _).mono ?_
  rintro r w1 ⟨hres, hb1⟩
  have HFZ1 := Lib.hid (HFZ.out.step hb1)
  have HN1 := Lib.hid (HN0.out.trans (hb1.mono HN0.out.size))
  rcases hres with ⟨e, p, A1, c1, rfl, rfl⟩ | ⟨T, A1, c1, rfl, rfl, hTc, hown⟩
  · have HE : Hid (R = (.error (e, file, p), n)) := HR.out
    have hen : e ≠ 0 := HEN.out e p rfl
    dsimp only [faultCells]
    have HOW1 : Hid (w.grownBy w1 (some g)) := only_below HN1.out g
    have HG1 := Lib.hid (HB.out.below HN1.out hgl)
    clear HR hb1 hc0 hc1
    have HF := Lib.hid (Box.new w1 30 #[.int .i64 e, .int .i64 file, .complex .f64 (fl (p.1 : Int)) (fl (p.2 : Int))])
    have HZ := Lib.hid (HFZ1.out.alloc (.cells #[.int .i64 e, .int .i64 file, .complex .f64 (fl (p.1 : Int)) (fl (p.2 : Int))] 30))
    have HG := Lib.hid (HG1.out.alloc (.cells #[.int .i64 e, .int .i64 file, .complex .f64 (fl (p.1 : Int)) (fl (p.2 : Int))] 30))
    have HOW : Hid (w.grownBy (w1.alloc (.cells #[.int .i64 e, .int .i64 file, .complex .f64 (fl (p.1 : Int)) (fl (p.2 : Int))] 30)) (some g)) := only_step HOW1.out (below_alloc (Below.refl _ _) (Nat.le_refl _) _)
    go_upto_region 2 with (fail)
    obtain ⟨gf, hgf⟩ : ∃ gf, gf = w1.heap.size := ⟨_, rfl⟩
    rw [← hgf] at HF ⊢
    generalize w1.alloc (.cells #[.int .i64 e, .int .i64 file, .complex .f64 (fl (p.1 : Int)) (fl (p.2 : Int))] 30) = wf at *
    clear hgf
    have c0 := HZ.out.cell 0
    have c1 := HZ.out.cell 1
    have c2 := HZ.out.cell 2
    have d0 := HF.out.cell 0
    have d1 := HF.out.cell 1
    have d2 := HF.out.cell 2
    simp only [List.getElem?_toArray, List.getElem?_cons_zero, List.getElem?_cons_succ] at c0 c1 c2 d0 d1 d2
    have z0 := HZ.out.free 0
    have z1 := HZ.out.free 1
    have z2 := HZ.out.free 2
    have gg := HZ.out.lt
    have gf2 := HF.out.lt
    go_wp2_with fail
    refine wp_region_still_tail 2 (by kernel_rfl) (by kernel_rfl) ?_
    simp only [List.take_succ_cons, List.take_zero, List.drop_succ_cons, List.drop_zero]
    change wpStill _ _ (World.drew _) _ _ _
    repeat still_step
    refine wpStill_nil ?_
    change wpList _ _ _ _ _ (World.drew _)
    go_wp2_with fail
    try simp only [Exit.inBlock, Exit.then]
    have hbx := box_trio (a := .int .i64 e) (b := .int .i64 file) (c := .complex .f64 (fl (p.1 : Int)) (fl (p.2 : Int))) HZ.out.drew
    refine bodyPost_ret (results_tmp_box rfl _ _ w.heap.size 30 _ ?fa1 hbx _ Tryz.underlying30 ?fa2 ?fa3) ?fa4 ?fa5
    case fa2 => rfl
    case fa3 => exact faultSize
    case fa1 => rfl
    case fa4 => rfl
    case fa5 => exact fault_end HE.out hen hgl HG.out HOW.out
  · have HE : Hid (R = weaveToks fs rec f.1.data.toList file opened T [] n) := HR.out
    dsimp only [faultCells]
    have hm : T.length ≤ 20000 := HTM.out T rfl
    have HTXT := Lib.hid (HTX0.out T rfl)
    have hT2 := own_base (hown.alloc (.cells #[.int .i64 0, .int .i64 0, .complex .f64 0 0] 30)) HN0.out.size
    have HOW2 : Hid (w.grownBy (w1.alloc (.cells #[.int .i64 0, .int .i64 0, .complex .f64 0 0] 30)) (some g)) := only_step (only_below HN1.out g) (below_alloc (Below.refl _ _) (Nat.le_refl _) _)
    have HG2 := Lib.hid ((HB.out.below HN1.out hgl).alloc (.cells #[.int .i64 0, .int .i64 0, .complex .f64 0 0] 30))
    have HZ2 := Lib.hid (HFZ1.out.alloc (.cells #[.int .i64 0, .int .i64 0, .complex .f64 0 0] 30))
    have hA1 : Clear g A1 := by
      intro a ha
      subst ha
      have := (hT2.lt a.block rfl).1
      omega
    have HT2 := Lib.hid (Lies.of_own hT2)
    clear HR hb1 hown hT2
    go_wp2_with fail
    generalize w1.alloc (.cells #[.int .i64 0, .int .i64 0, .complex .f64 0 0] 30) = w2 at *
    have hy2 := HOW2.out.size
    clear HFZ1 HN1 HFZ HN0 hc0 hc1
    go_loopw [12, 13] (fun v i wr => WLoop fs rec f.1.data.toList file opened T R g w2 v i wr) (fun _ i _ => T.length - (intOf i).toNat)
    case atStart => exact ⟨0, [], n, by omega, rfl, by simp, hn, World.ownsRow_nil _ _ _ _, HG2.out, World.grownBy.refl _ _, HE.out.symm⟩
    case round =>
      obtain ⟨k, acc, m, hk, rfl, hacc, hm1, hown, hbg, how, HRUN⟩ := hrel
      have HG := Lib.hid hbg
      have HOW := Lib.hid how
      have HOWN := Lib.hid hown
      have hy3 := how.size
      have HWR := Lib.hid (only_trans HOW2.out how)
      have HZ := Lib.hid (box_only HZ2.out (by omega) how)
      clear hbg how hown
      by_cases hlt : k < T.length
      · obtain ⟨t, ht⟩ : ∃ t, T[k]? = some t := ⟨_, List.getElem?_eq_getElem hlt⟩
        have hd : T.drop k = t :: T.drop (k + 1) := by
          obtain ⟨h1, h2⟩ := List.getElem?_eq_some_iff.1 ht
          rw [List.drop_eq_getElem_cons h1, h2]
        obtain ⟨b2, o2, rfl, hb2, hc2⟩ := (lies_clear HT2.out hA1 (Nat.le_refl _) HOW.out).2 (by omega)
        obtain ⟨q0, q1, q2, q3⟩ := tok_cells file T k t ht
        have t0 := hc2 _ _ q0
        have t1 := hc2 _ _ q1
        have t2 := hc2 _ _ q2
        have t3 := hc2 _ _ q3
        rw [← Nat.add_assoc] at t1 t2 t3
        have HRUN2 : Hid (weaveToks fs rec f.1.data.toList file opened (t :: T.drop (k + 1)) acc m = R) := by rw [← hd]; exact HRUN
        have hb2' : b2 < wr.heap.size := by omega
        clear q0 q1 q2 q3 HRUN ht
        have hq : ((strOf t.text).toList == [35, 105, 110, 99, 108, 117, 100, 101]) = (t.text == includeT) := by rw [strOf_toList]; rfl
        cases hinc : isInc t
        · have HR3 : Hid (weaveToks fs rec f.1.data.toList file opened (T.drop (k + 1)) (acc ++ [((file : Int), t)]) m = R) := by
            have := HRUN2.out
            rw [toks_plain _ _ _ _ _ _ _ _ _ hinc] at this
            exact this
          have hkd : (t.text == includeT) = false ∨ ((t.text == includeT) = true ∧ (t.kind == 5) = false) := by
            unfold isInc at hinc
            cases h1 : (t.text == includeT)
            · exact .inl rfl
            · rw [h1] at hinc
              exact .inr ⟨rfl, by simpa using hinc⟩
          clear HRUN2 hd hinc hc2
          rcases hkd with hkd | ⟨hkd, hk5⟩
          all_goals
            rw [hkd] at hq
            have hown1 := HOWN.out
            clear hkd
            go_wp2_with (at_builtin; go_loud (refine wpList_append_lit _ rfl (.tmp 56) (.tmp 61) _ rfl w2.heap.size 39 i0 _ 4 48 Tryz.underlying26 hi hz0 hz1 hz2 rfl (by omega) _ _ _ rfl hown1 _ _ 1 1 rfl rfl (by simp [Value.oneCell']) (by unfold maxLen; omega) (by omega) (by omega) ?_))
            intro v4 w4 ho4 hg4
            have hoa := hown1.alloc (.cells #[.int .i64 t.kind, .string (strOf t.text), .int .i64 file, .complex .f64 (fl t.place.1) (fl t.place.2)] 39)
            have how4 := only_grown (only_step HOW.out (below_alloc (Below.refl _ _) (Nat.le_refl _) (.cells #[.int .i64 t.kind, .string (strOf t.text), .int .i64 file, .complex .f64 (fl t.place.1) (fl t.place.2)] 39))) hoa (Nat.le_refl _) hg4
            have hbg4 : Box w4 g 53 #[.int .i64 m] := (hg4.block g (by have := HG.out.lt; simp; omega) (fun e => by have := (hoa.lt g e.symm).1; omega)).trans (HG.out.alloc _)
            have HO4 := Lib.hid ho4
            have HOW4 := Lib.hid how4
            have HG4 := Lib.hid hbg4
            clear ho4 hg4 hoa how4 hbg4 hown1
            go_wp2
            go_roundw
            case rel => exact ⟨k + 1, acc ++ [((file : Int), t)], m, by omega, by go_num, by simp; omega, hm1, by rw [ftoksV_append, ftoksV_one, List.length_append]; exact HO4.out, HG4.out, HOW4.out, HR3⟩
            case measure => simp [intOf]; omega
        · have HTX : Hid ((t.text == includeT) = true ∧ (t.kind == 5) = true) := by
            unfold isInc at hinc
            exact Bool.and_eq_true_iff.1 hinc
          rw [HTX.out.1] at hq
          have hk5 := HTX.out.2
          go_upto_region 11 with (fail)
          have HF := Lib.hid (Box.new wr 30 #[.int .i64 3, .int .i64 file, .complex .f64 (fl (t.place.1 : Int)) (fl (t.place.2 : Int))])
          have hbn : Below wr.heap.size wr (wr.alloc (.cells #[.int .i64 3, .int .i64 file, .complex .f64 (fl (t.place.1 : Int)) (fl (t.place.2 : Int))] 30)) := below_alloc (Below.refl _ _) (Nat.le_refl _) _
          have HZ3 := Lib.hid (HZ.out.step hbn)
          have HG3 := Lib.hid (HG.out.step hbn)
          have HWR3 := Lib.hid (only_step HWR.out hbn)
          have HOW3 := Lib.hid (only_step HOW.out hbn)
          have HOWN3 := Lib.hid (own_below HOWN.out hbn)
          have hyn := hbn.size
          have hgfw : wr.heap.size ≠ w.heap.size := by have := HZ.out.lt; omega
          have hgfg : wr.heap.size ≠ g := by omega
          clear hbn HZ HG HWR HOW HOWN t0 t1 t2 t3
          obtain ⟨gf, hgf⟩ : ∃ gf, gf = wr.heap.size := ⟨_, rfl⟩
          have hgf3 : wr.heap.size < (wr.alloc (.cells #[.int .i64 3, .int .i64 file, .complex .f64 (fl (t.place.1 : Int)) (fl (t.place.2 : Int))] 30)).heap.size := by simp
          generalize wr.alloc (.cells #[.int .i64 3, .int .i64 file, .complex .f64 (fl (t.place.1 : Int)) (fl (t.place.2 : Int))] 30) = wf at *
          rw [← hgf] at HF hgfw hgfg hgf3 ⊢
          have hb2f : b2 < wf.heap.size := by omega
          have hy4 : w2.heap.size ≤ gf := by omega
          clear hgf hyn hy3 hb2'
          by_cases hend : k + 1 = T.length
          · have he1 : ((k : Int) + 1 == (T.length : Int)) = true := by rw [beq_iff_eq]; omega
            have HRE : Hid (R = (.error (3, (file : Int), t.place), m)) := by
              have := HRUN2.out
              rw [List.drop_eq_nil_of_le (by omega), toks_end _ _ _ _ _ _ _ _ hinc] at this
              exact this.symm
            clear HRUN2 hd hc2
            have c0 := HZ3.out.cell 0
            have c1 := HZ3.out.cell 1
            have c2 := HZ3.out.cell 2
            have d0 := HF.out.cell 0
            have d1 := HF.out.cell 1
            have d2 := HF.out.cell 2
            simp only [List.getElem?_toArray, List.getElem?_cons_zero, List.getElem?_cons_succ] at c0 c1 c2 d0 d1 d2
            have z0 := HZ3.out.free 0
            have z1 := HZ3.out.free 1
            have z2 := HZ3.out.free 2
            have y0 := HF.out.free 0
            have gg := HZ3.out.lt
            have gf2 := HF.out.lt
            go_wp2_with fail
            refine wp_region_still_tail 2 (by kernel_rfl) (by kernel_rfl) ?_
            simp only [List.take_succ_cons, List.take_zero, List.drop_succ_cons, List.drop_zero]
            change wpStill _ _ (World.drew _) _ _ _
            repeat still_step
            refine wpStill_nil ?_
            change wpList _ _ _ _ _ (World.drew _)
            go_wp2_with fail
            try simp only [Exit.inBlock, Exit.then]
            have hbx := box_trio (a := .int .i64 3) (b := .int .i64 file) (c := .complex .f64 (fl (t.place.1 : Int)) (fl (t.place.2 : Int))) HZ3.out.drew
            refine bodyPost_ret (results_tmp_box rfl _ _ w.heap.size 30 _ ?fb1 hbx _ Tryz.underlying30 ?fb2 ?fb3) ?fb4 ?fb5
            case fb2 => rfl
            case fb3 => exact faultSize
            case fb1 => rfl
            case fb4 => rfl
            case fb5 => exact fault_end HRE.out (by decide) hgl HG3.out HWR3.out
          · obtain ⟨u, hu⟩ : ∃ u, T[k + 1]? = some u := ⟨_, List.getElem?_eq_getElem (by omega)⟩
            have he1 : ((k : Int) + 1 == (T.length : Int)) = false := by rw [beq_eq_false_iff_ne]; omega
            obtain ⟨q0, q1, q2, q3⟩ := tok_cells file T (k + 1) u hu
            have hcf := (lies_clear (A := some ⟨b2, o2, none⟩) HT2.out hA1 (Nat.le_refl _) HOW3.out).2 (by omega)
            obtain ⟨b3, o3, he3, hb3, hc3⟩ := hcf
            obtain ⟨rfl, rfl⟩ : b2 = b3 ∧ o2 = o3 := by cases he3; exact ⟨rfl, rfl⟩
            have u0 := hc3 _ _ q0
            have u1 := hc3 _ _ q1
            rw [← Nat.add_assoc] at u1
            have hd2 : T.drop (k + 1) = u :: T.drop (k + 2) := by
              obtain ⟨h1, h2⟩ := List.getElem?_eq_some_iff.1 hu
              rw [List.drop_eq_getElem_cons h1, h2]
            have HRUN3 : Hid (afterInc (fun x n' => weaveToks fs rec f.1.data.toList file opened (T.drop (k + 2)) (acc ++ x) n') (incStep fs rec f.1.data.toList file opened t u m) = R) := by
              have := HRUN2.out
              rw [hd2, toks_inc _ _ _ _ _ _ _ _ _ _ hinc] at this
              exact this
            have HU := Lib.hid hu
            clear HRUN2 hd hc2 hc3 q0 q1 q2 q3 he3 hd2 hu
            by_cases hk4 : u.kind = 4
            · have hk4b : (u.kind == 4) = true := by rw [beq_iff_eq]; exact hk4
              have hul : u.text.length ≤ 1048576 := HTXT.out u (List.mem_of_getElem? HU.out)
              obtain ⟨J, hJ⟩ : ∃ J, J = joinPath f.1.data.toList u.text := ⟨_, rfl⟩
              obtain ⟨Q, hQ⟩ : ∃ Q, Q = fileOf fs J.1 := ⟨_, rfl⟩
              have HINC : Hid (incStep fs rec f.1.data.toList file opened t u m = if J.2 = false ∨ Q.2 = false then (.error (4, (file : Int), t.place), m) else if opened.contains Q.1.toNat then (.error (5, (file : Int), t.place), m) else if 8 ≤ opened.length then (.error (6, (file : Int), t.place), m) else if 1000 ≤ m then (.error (9, (file : Int), t.place), m) else rec Q.1.toNat (opened ++ [Q.1.toNat]) (m + 1)) := by
                unfold Hid incStep
                rw [if_neg (fun h => h hk4), ← hJ, ← hQ]
              have HJ : Hid (∀ W : World, Calls Tryz.prog 28 #[.string f.1, .string (strOf u.text)] W (StrBool J W)) := fun W => by
                have := refJoin_any f.1 (strOf u.text) W (by have := hfo.1; omega) (by rw [strOf_size]; omega)
                rw [strOf_data, ← hJ] at this
                exact this
              have HQ : Hid (∀ W : World, Lies W W.heap.size 2 (some ⟨b, o, none⟩) N (filesV fs) → Calls Tryz.prog 16 #[.slice (some ⟨b, o, none⟩) N c, .string (strOf J.1)] W (NumBool Q W)) := fun W hW => by
                have hjl := joinPath_len f.1 (strOf u.text)
                rw [strOf_data, ← hJ, strOf_size] at hjl
                have := refFile_any (some ⟨b, o, none⟩) N c fs (strOf J.1) W hW (by omega) (by rw [strOf_size]; have := hfo.1; omega) (fun f hf => by have := (hfs f hf).1; omega)
                rw [strOf_data, ← hQ] at this
                exact this
              have HQL : Hid (Q.2 = true → 0 ≤ Q.1 ∧ Q.1.toNat < fs.length) := fun h => by rw [hQ] at h ⊢; exact fileOf_lt h
              have p0 : wf.cell? ⟨b, o + file * 2, none⟩ = some (.string f.1) := by
                obtain ⟨b9, o9, he9, _, hc9⟩ := (lies_clear HL.out hA (Nat.le_refl _) HWR3.out).2 (by omega)
                obtain ⟨rfl, rfl⟩ : b = b9 ∧ o = o9 := by cases he9; exact ⟨rfl, rfl⟩
                exact hc9 _ _ (filesV_at fs file f hfe).1
              clear hJ hQ hk4
              go_upto_region 14 with (fail)
              have i0a : (0 : Int) ≤ (file : Int) := by omega
              have i1a : (file : Int) < (N : Int) := by omega
              have i2a : (0 : Int) ≤ (k : Int) + 1 := by omega
              have i3a : (k : Int) + 1 < (T.length : Int) := by omega
              have i4a : ((k : Int) + 1).toNat = k + 1 := by omega
              have hd0 : Below wf.heap.size wf wf.drew := (Below.refl _ _).drew
              have p0d : wf.drew.cell? ⟨b, o + file * 2, none⟩ = some (.string f.1) := p0
              have u1d : wf.drew.cell? ⟨b2, o2 + (k + 1) * 4 + 1, none⟩ = some (.string (strOf u.text)) := u1
              have hbf : b < wf.heap.size := World.block_lt_of_cell? wf _ p0
              go_region_held3 (fun W => W.cell? ⟨b, o + file * 2, none⟩ = some (.string f.1) ∧ W.cell? ⟨b2, o2 + (k + 1) * 4 + 1, none⟩ = some (.string (strOf u.text)) ∧ Below wf.heap.size wf W) (first | exact ⟨p0d, u1d, hd0⟩ | exact ⟨p0a, u1a, hb5⟩) (first
                | (go_at_call 28; refine (HJ.out _).mono ?_; rintro r w5 ⟨rfl, hb5'⟩; have hb5 := hd0.trans hb5'; have p0a := (hb5.cell (p := ⟨b, o + file * 2, none⟩) hbf).trans p0; have u1a := (hb5.cell (p := ⟨b2, o2 + (k + 1) * 4 + 1, none⟩) hb2f).trans u1))
              clear p0 p0d u1 u1d p0a u1a hb5' i0a i1a i2a i3a
              go_wp2_with fail
              refine (HQ.out _ ((lies_clear HL.out hA (Nat.le_refl _) (only_step HWR3.out hb5)).wider (by have := HWR3.out.size; have := hb5.size; omega))).mono ?_
              rintro r w6 ⟨rfl, hb6'⟩
              have hb6 := below_step hb5 (Nat.le_refl _) hb6'
              have HF6 := Lib.hid (HF.out.step hb6)
              have HZ6 := Lib.hid (HZ3.out.step hb6)
              have HG6 := Lib.hid (HG3.out.step hb6)
              have HWR6 := Lib.hid (only_step HWR3.out hb6)
              have HOW6 := Lib.hid (only_step HOW3.out hb6)
              have HOWN6 := Lib.hid (own_below HOWN3.out hb6)
              have hy6 := hb6.size
              clear hb5 hb6 hb6' hd0 HF HZ3 HG3 HWR3 HOW3 HOWN3 HJ HQ
              by_cases hbad : J.2 = false ∨ Q.2 = false
              · have HRE : Hid (R = (.error (4, (file : Int), t.place), m)) := by
                  have h1 := HINC.out
                  rw [if_pos hbad] at h1
                  have h2 := HRUN3.out
                  rw [h1] at h2
                  exact h2.symm
                have hbad2 : J.2 = false ∨ (J.2 = true ∧ Q.2 = false) := by
                  cases h : J.2
                  · exact .inl rfl
                  · rw [h] at hbad
                    exact .inr ⟨rfl, by simpa using hbad⟩
                clear HRUN3 HINC HQL hbad
                generalize J.2 = jb at hbad2 ⊢
                generalize Q.2 = qb at hbad2 ⊢
                rcases hbad2 with rfl | ⟨rfl, rfl⟩
                all_goals
                  have d0 := HF6.out.cell 0
                  simp only [List.getElem?_toArray, List.getElem?_cons_zero] at d0
                  have y0 := HF6.out.free 0
                  have gf3 := HF6.out.lt
                  go_upto_region 18 with (fail)
                  have HF7 : Hid (Box (w6.setCell ⟨gf, 0, none⟩ (.int .i64 4)) gf 30 #[.int .i64 4, .int .i64 file, .complex .f64 (fl (t.place.1 : Int)) (fl (t.place.2 : Int))]) := HF6.out.set 0 (.int .i64 4)
                  have HZ7 : Hid (Box (w6.setCell ⟨gf, 0, none⟩ (.int .i64 4)) w.heap.size 30 #[.int .i64 0, .int .i64 0, .complex .f64 0 0]) := HZ6.out.other (fun e => hgfw e.symm)
                  have HG7 : Hid (Box (w6.setCell ⟨gf, 0, none⟩ (.int .i64 4)) g 53 #[.int .i64 m]) := HG6.out.other (fun e => hgfg e.symm)
                  have HWR7 : Hid (w.grownBy (w6.setCell ⟨gf, 0, none⟩ (.int .i64 4)) (some g)) := only_new_set HWR6.out (by omega)
                  clear d0 y0 gf3
                  generalize w6.setCell ⟨gf, 0, none⟩ (.int .i64 4) = w7 at *
                  have c0 := HZ7.out.cell 0
                  have c1 := HZ7.out.cell 1
                  have c2 := HZ7.out.cell 2
                  have d0 := HF7.out.cell 0
                  have d1 := HF7.out.cell 1
                  have d2 := HF7.out.cell 2
                  simp only [List.getElem?_toArray, List.getElem?_cons_zero, List.getElem?_cons_succ] at c0 c1 c2 d0 d1 d2
                  have z0 := HZ7.out.free 0
                  have z1 := HZ7.out.free 1
                  have z2 := HZ7.out.free 2
                  have y0 := HF7.out.free 0
                  have gg := HZ7.out.lt
                  have gf2 := HF7.out.lt
                  go_wp2_with fail
                  refine wp_region_still_tail 2 (by kernel_rfl) (by kernel_rfl) ?_
                  simp only [List.take_succ_cons, List.take_zero, List.drop_succ_cons, List.drop_zero]
                  change wpStill _ _ (World.drew _) _ _ _
                  repeat still_step
                  refine wpStill_nil ?_
                  change wpList _ _ _ _ _ (World.drew _)
                  go_wp2_with fail
                  try simp only [Exit.inBlock, Exit.then]
                  have hbx := box_trio (a := .int .i64 4) (b := .int .i64 file) (c := .complex .f64 (fl (t.place.1 : Int)) (fl (t.place.2 : Int))) HZ7.out.drew
                  refine bodyPost_ret (results_tmp_box rfl _ _ w.heap.size 30 _ ?fd1 hbx _ Tryz.underlying30 ?fd2 ?fd3) ?fd4 ?fd5
                  case fd2 => rfl
                  case fd3 => exact faultSize
                  case fd1 => rfl
                  case fd4 => rfl
                  case fd5 => exact fault_end HRE.out (by decide) hgl HG7.out HWR7.out
              · obtain ⟨hj2, hq2⟩ : J.2 = true ∧ Q.2 = true := by
                  cases h1 : J.2 <;> cases h2 : Q.2 <;> simp [h1, h2] at hbad ⊢
                obtain ⟨hq0, hqn⟩ := HQL.out hq2
                have HINC2 : Hid (incStep fs rec f.1.data.toList file opened t u m = if opened.contains Q.1.toNat then (.error (5, (file : Int), t.place), m) else if 8 ≤ opened.length then (.error (6, (file : Int), t.place), m) else if 1000 ≤ m then (.error (9, (file : Int), t.place), m) else rec Q.1.toNat (opened ++ [Q.1.toNat]) (m + 1)) := by
                  have h1 := HINC.out
                  rw [if_neg hbad] at h1
                  exact h1
                obtain ⟨f', hf'⟩ : ∃ f' : Nat, Q.1 = (f' : Int) := ⟨Q.1.toNat, by omega⟩
                rw [hf', Int.toNat_natCast] at HINC2
                rw [hf', Int.toNat_natCast] at hqn
                rw [hj2, hq2, hf']
                clear hbad hj2 hq2 hf' hq0 HQL HINC
                have hcO := (lies_clear HO.out hO (Nat.le_refl _) HWR6.out)
                have HCO := Lib.hid hcO
                clear hcO
                go_wp2_with fail
                go_loopw [19] (fun i wx => ∃ j : Nat, j ≤ opened.length ∧ i = .int .i64 j ∧ w6 = wx ∧ (opened.take j).contains f' = false) (fun i _ => opened.length - (intOf i).toNat)
                case atStart => exact ⟨0, by omega, rfl, rfl, by simp⟩
                case round =>
                  obtain ⟨j, hj, rfl, rfl, hno⟩ := hrel
                  by_cases hjl : j < opened.length
                  · obtain ⟨y, hy⟩ : ∃ y, opened[j]? = some y := ⟨_, List.getElem?_eq_getElem hjl⟩
                    obtain ⟨b4, o4, rfl, hb4, hc4⟩ := HCO.out.2 (by omega)
                    have x0 := hc4 j (.int .i64 (y : Int)) (by simp [natsV, hy])
                    have HY := Lib.hid hy
                    have HNO := Lib.hid hno
                    clear hc4 hy hno
                    by_cases hyf : y = f'
                    · have hyb : ((y : Int) == (f' : Int)) = true := by rw [hyf]; simp
                      have HRE : Hid (R = (.error (5, (file : Int), t.place), m)) := by
                        have h1 := HINC2.out
                        rw [if_pos (by rw [List.contains_iff_mem, ← hyf]; exact List.mem_of_getElem? HY.out)] at h1
                        have h2 := HRUN3.out
                        rw [h1] at h2
                        exact h2.symm
                      clear hyf HRUN3 HINC2 HREC
                      have d0 := HF6.out.cell 0
                      simp only [List.getElem?_toArray, List.getElem?_cons_zero] at d0
                      have y0 := HF6.out.free 0
                      have gf3 := HF6.out.lt
                      go_upto_region 24 with (fail)
                      have HF7 : Hid (Box (w6.setCell ⟨gf, 0, none⟩ (.int .i64 5)) gf 30 #[.int .i64 5, .int .i64 file, .complex .f64 (fl (t.place.1 : Int)) (fl (t.place.2 : Int))]) := HF6.out.set 0 (.int .i64 5)
                      have HZ7 : Hid (Box (w6.setCell ⟨gf, 0, none⟩ (.int .i64 5)) w.heap.size 30 #[.int .i64 0, .int .i64 0, .complex .f64 0 0]) := HZ6.out.other (fun e => hgfw e.symm)
                      have HG7 : Hid (Box (w6.setCell ⟨gf, 0, none⟩ (.int .i64 5)) g 53 #[.int .i64 m]) := HG6.out.other (fun e => hgfg e.symm)
                      have HWR7 : Hid (w.grownBy (w6.setCell ⟨gf, 0, none⟩ (.int .i64 5)) (some g)) := only_new_set HWR6.out (by omega)
                      clear d0 y0 gf3
                      generalize w6.setCell ⟨gf, 0, none⟩ (.int .i64 5) = w7 at *
                      have c0 := HZ7.out.cell 0
                      have c1 := HZ7.out.cell 1
                      have c2 := HZ7.out.cell 2
                      have d0 := HF7.out.cell 0
                      have d1 := HF7.out.cell 1
                      have d2 := HF7.out.cell 2
                      simp only [List.getElem?_toArray, List.getElem?_cons_zero, List.getElem?_cons_succ] at c0 c1 c2 d0 d1 d2
                      have z0 := HZ7.out.free 0
                      have z1 := HZ7.out.free 1
                      have z2 := HZ7.out.free 2
                      have y0 := HF7.out.free 0
                      have gg := HZ7.out.lt
                      have gf2 := HF7.out.lt
                      go_wp2_with fail
                      refine wp_region_still_tail 2 (by kernel_rfl) (by kernel_rfl) ?_
                      simp only [List.take_succ_cons, List.take_zero, List.drop_succ_cons, List.drop_zero]
                      change wpStill _ _ (World.drew _) _ _ _
                      repeat still_step
                      refine wpStill_nil ?_
                      change wpList _ _ _ _ _ (World.drew _)
                      go_wp2_with fail
                      try simp only [Exit.inBlock, Exit.then]
                      have hbx := box_trio (a := .int .i64 5) (b := .int .i64 file) (c := .complex .f64 (fl (t.place.1 : Int)) (fl (t.place.2 : Int))) HZ7.out.drew
                      refine bodyPost_ret (results_tmp_box rfl _ _ w.heap.size 30 _ ?fe1 hbx _ Tryz.underlying30 ?fe2 ?fe3) ?fe4 ?fe5
                      case fe2 => rfl
                      case fe3 => exact faultSize
                      case fe1 => rfl
                      case fe4 => rfl
                      case fe5 => exact fault_end HRE.out (by decide) hgl HG7.out HWR7.out
                    · have hyb : ((y : Int) == (f' : Int)) = false := by rw [beq_eq_false_iff_ne]; omega
                      have HNO2 : Hid ((opened.take (j + 1)).contains f' = false) := by
                        unfold Hid
                        rw [take_one HY.out]
                        have := HNO.out
                        simp at this ⊢
                        exact ⟨this, fun e => hyf e.symm⟩
                      clear hyf
                      go_wp2
                      go_roundw
                      case rel => exact ⟨j + 1, by omega, by go_num, by first | rfl | trivial, HNO2.out⟩
                      case measure => simp [intOf]; omega
                  · obtain rfl : j = opened.length := by omega
                    have HNC : Hid (opened.contains f' = false) := by
                      rw [List.take_of_length_le (Nat.le_refl _)] at hno
                      exact hno
                    clear hno hjl hj
                    have HINC3 : Hid (incStep fs rec f.1.data.toList file opened t u m = if 8 ≤ opened.length then (.error (6, (file : Int), t.place), m) else if 1000 ≤ m then (.error (9, (file : Int), t.place), m) else rec f' (opened ++ [f']) (m + 1)) := by
                      have h1 := HINC2.out
                      rw [if_neg (by rw [HNC.out]; simp)] at h1
                      exact h1
                    clear HINC2 HNC
                    by_cases h8 : 8 ≤ opened.length
                    · have HRE : Hid (R = (.error (6, (file : Int), t.place), m)) := by
                        have h1 := HINC3.out
                        rw [if_pos h8] at h1
                        have h2 := HRUN3.out
                        rw [h1] at h2
                        exact h2.symm
                      have h8b : (8 : Int) ≤ (opened.length : Int) := by omega
                      clear HRUN3 HINC3 HREC
                      have d0 := HF6.out.cell 0
                      simp only [List.getElem?_toArray, List.getElem?_cons_zero] at d0
                      have y0 := HF6.out.free 0
                      have gf3 := HF6.out.lt
                      go_upto_region 27 with (fail)
                      have HF7 : Hid (Box (w6.setCell ⟨gf, 0, none⟩ (.int .i64 6)) gf 30 #[.int .i64 6, .int .i64 file, .complex .f64 (fl (t.place.1 : Int)) (fl (t.place.2 : Int))]) := HF6.out.set 0 (.int .i64 6)
                      have HZ7 : Hid (Box (w6.setCell ⟨gf, 0, none⟩ (.int .i64 6)) w.heap.size 30 #[.int .i64 0, .int .i64 0, .complex .f64 0 0]) := HZ6.out.other (fun e => hgfw e.symm)
                      have HG7 : Hid (Box (w6.setCell ⟨gf, 0, none⟩ (.int .i64 6)) g 53 #[.int .i64 m]) := HG6.out.other (fun e => hgfg e.symm)
                      have HWR7 : Hid (w.grownBy (w6.setCell ⟨gf, 0, none⟩ (.int .i64 6)) (some g)) := only_new_set HWR6.out (by omega)
                      clear d0 y0 gf3
                      generalize w6.setCell ⟨gf, 0, none⟩ (.int .i64 6) = w7 at *
                      have c0 := HZ7.out.cell 0
                      have c1 := HZ7.out.cell 1
                      have c2 := HZ7.out.cell 2
                      have d0 := HF7.out.cell 0
                      have d1 := HF7.out.cell 1
                      have d2 := HF7.out.cell 2
                      simp only [List.getElem?_toArray, List.getElem?_cons_zero, List.getElem?_cons_succ] at c0 c1 c2 d0 d1 d2
                      have z0 := HZ7.out.free 0
                      have z1 := HZ7.out.free 1
                      have z2 := HZ7.out.free 2
                      have y0 := HF7.out.free 0
                      have gg := HZ7.out.lt
                      have gf2 := HF7.out.lt
                      go_wp2_with fail
                      refine wp_region_still_tail 2 (by kernel_rfl) (by kernel_rfl) ?_
                      simp only [List.take_succ_cons, List.take_zero, List.drop_succ_cons, List.drop_zero]
                      change wpStill _ _ (World.drew _) _ _ _
                      repeat still_step
                      refine wpStill_nil ?_
                      change wpList _ _ _ _ _ (World.drew _)
                      go_wp2_with fail
                      try simp only [Exit.inBlock, Exit.then]
                      have hbx := box_trio (a := .int .i64 6) (b := .int .i64 file) (c := .complex .f64 (fl (t.place.1 : Int)) (fl (t.place.2 : Int))) HZ7.out.drew
                      refine bodyPost_ret (results_tmp_box rfl _ _ w.heap.size 30 _ ?ff1 hbx _ Tryz.underlying30 ?ff2 ?ff3) ?ff4 ?ff5
                      case ff2 => rfl
                      case ff3 => exact faultSize
                      case ff1 => rfl
                      case ff4 => rfl
                      case ff5 => exact fault_end HRE.out (by decide) hgl HG7.out HWR7.out
                    · have h8b : ¬ (8 : Int) ≤ (opened.length : Int) := by omega
                      have g0 := HG6.out.cell 0
                      simp only [List.getElem?_toArray, List.getElem?_cons_zero] at g0
                      have gfr := HG6.out.free 0
                      have gl6 := HG6.out.lt
                      by_cases hm9 : 1000 ≤ m
                      · have HRE : Hid (R = (.error (9, (file : Int), t.place), m)) := by
                          have h1 := HINC3.out
                          rw [if_neg h8, if_pos hm9] at h1
                          have h2 := HRUN3.out
                          rw [h1] at h2
                          exact h2.symm
                        have hm9b : (1000 : Int) ≤ (m : Int) := by omega
                        clear HRUN3 HINC3 HREC gfr gl6
                        have d0 := HF6.out.cell 0
                        simp only [List.getElem?_toArray, List.getElem?_cons_zero] at d0
                        have y0 := HF6.out.free 0
                        have gf3 := HF6.out.lt
                        go_upto_region 30 with (fail)
                        have HF7 : Hid (Box (w6.setCell ⟨gf, 0, none⟩ (.int .i64 9)) gf 30 #[.int .i64 9, .int .i64 file, .complex .f64 (fl (t.place.1 : Int)) (fl (t.place.2 : Int))]) := HF6.out.set 0 (.int .i64 9)
                        have HZ7 : Hid (Box (w6.setCell ⟨gf, 0, none⟩ (.int .i64 9)) w.heap.size 30 #[.int .i64 0, .int .i64 0, .complex .f64 0 0]) := HZ6.out.other (fun e => hgfw e.symm)
                        have HG7 : Hid (Box (w6.setCell ⟨gf, 0, none⟩ (.int .i64 9)) g 53 #[.int .i64 m]) := HG6.out.other (fun e => hgfg e.symm)
                        have HWR7 : Hid (w.grownBy (w6.setCell ⟨gf, 0, none⟩ (.int .i64 9)) (some g)) := only_new_set HWR6.out (by omega)
                        clear d0 y0 gf3
                        generalize w6.setCell ⟨gf, 0, none⟩ (.int .i64 9) = w7 at *
                        have c0 := HZ7.out.cell 0
                        have c1 := HZ7.out.cell 1
                        have c2 := HZ7.out.cell 2
                        have d0 := HF7.out.cell 0
                        have d1 := HF7.out.cell 1
                        have d2 := HF7.out.cell 2
                        simp only [List.getElem?_toArray, List.getElem?_cons_zero, List.getElem?_cons_succ] at c0 c1 c2 d0 d1 d2
                        have z0 := HZ7.out.free 0
                        have z1 := HZ7.out.free 1
                        have z2 := HZ7.out.free 2
                        have y0 := HF7.out.free 0
                        have gg := HZ7.out.lt
                        have gf2 := HF7.out.lt
                        go_wp2_with fail
                        refine wp_region_still_tail 2 (by kernel_rfl) (by kernel_rfl) ?_
                        simp only [List.take_succ_cons, List.take_zero, List.drop_succ_cons, List.drop_zero]
                        change wpStill _ _ (World.drew _) _ _ _
                        repeat still_step
                        refine wpStill_nil ?_
                        change wpList _ _ _ _ _ (World.drew _)
                        go_wp2_with fail
                        try simp only [Exit.inBlock, Exit.then]
                        have hbx := box_trio (a := .int .i64 9) (b := .int .i64 file) (c := .complex .f64 (fl (t.place.1 : Int)) (fl (t.place.2 : Int))) HZ7.out.drew
                        refine bodyPost_ret (results_tmp_box rfl _ _ w.heap.size 30 _ ?fg1 hbx _ Tryz.underlying30 ?fg2 ?fg3) ?fg4 ?fg5
                        case fg2 => rfl
                        case fg3 => exact faultSize
                        case fg1 => rfl
                        case fg4 => rfl
                        case fg5 => exact fault_end HRE.out (by decide) hgl HG7.out HWR7.out
                      · have hm9b : ¬ (1000 : Int) ≤ (m : Int) := by omega
                        have hwrap : IntKind.i64.wrap ((m : Int) + 1) = (m : Int) + 1 := by rw [IntKind.wrap_i64]; omega
                        have HINC4 : Hid (incStep fs rec f.1.data.toList file opened t u m = rec f' (opened ++ [f']) (m + 1)) := by
                          have h1 := HINC3.out
                          rw [if_neg h8, if_neg hm9] at h1
                          exact h1
                        clear HINC3
                        go_upto_region 32 with (fail)
                        obtain ⟨E, hE⟩ : ∃ E, E = rec f' (opened ++ [f']) (m + 1) := ⟨_, rfl⟩
                        have HEB := Lib.hid (hrec f' (opened ++ [f']) (m + 1))
                        have HCALL := Lib.hid (HREC (by omega) f' (m + 1))
                        rw [← hE] at HINC4 HEB HCALL
                        have HRUN4 : Hid (afterInc (fun x n' => weaveToks fs rec f.1.data.toList file opened (T.drop (k + 2)) (acc ++ x) n') E = R) := by
                          have := HRUN3.out
                          rw [HINC4.out] at this
                          exact this
                        have HG7 : Hid (Box (w6.setCell ⟨g, 0, none⟩ (.int .i64 ((m : Int) + 1))) g 53 #[.int .i64 ((m + 1 : Nat) : Int)]) := HG6.out.set 0 (.int .i64 ((m : Int) + 1))
                        have hne0 : w.heap.size ≠ g := by omega
                        have HZ7 : Hid (Box (w6.setCell ⟨g, 0, none⟩ (.int .i64 ((m : Int) + 1))) w.heap.size 30 #[.int .i64 0, .int .i64 0, .complex .f64 0 0]) := HZ6.out.other hne0
                        have HWR7 : Hid (w.grownBy (w6.setCell ⟨g, 0, none⟩ (.int .i64 ((m : Int) + 1))) (some g)) := only_trans HWR6.out (only_set _ _ _ _)
                        have HOW7 : Hid (w2.grownBy (w6.setCell ⟨g, 0, none⟩ (.int .i64 ((m : Int) + 1))) (some g)) := only_trans HOW6.out (only_set _ _ _ _)
                        have hg2 : g < w2.heap.size := by omega
                        have HOWN7 := Lib.hid (ownsRow_setCell_below HOWN6.out (a := ⟨g, 0, none⟩) hg2 (.int .i64 ((m : Int) + 1)))
                        clear hE HINC4 HRUN3 g0 gfr gl6 HF6 HZ6 HG6 HWR6 HOW6 HOWN6 HCO HREC
                        generalize w6.setCell ⟨g, 0, none⟩ (.int .i64 ((m : Int) + 1)) = w7 at *
                        have hco7 := lies_clear HO.out hO (Nat.le_refl _) HWR7.out
                        have hy7 := HWR7.out.size
                        have hy72 := HOW7.out.size
                        have hco8 := hco7.wider hy7
                        go_wp2_with (at_builtin; go_loud (refine wpList_append_lies _ rfl (.const (.slice none 0 0)) (.tmp 152) _ rfl w7.heap.size 3 ii _ 1 8 Tryz.underlying45 hii hiz0 hiz1 hiz2 rfl (by omega) (.slice none 0 0) 0 [] rfl (World.ownsRow_nil _ _ _ _) _ O opened.length oc (natsV opened) rfl hco8 (natsV_one _) (by unfold maxLen; omega) (by omega) (Nat.le_refl _) ?_))
                        intro v8 w8 hown8 hg8
                        have hb8 : Below w7.heap.size w7 w8 := below_grown (Below.refl _ _) (World.ownsRow_nil w7 w7.heap.size 3 1) (Nat.le_refl _) (Nat.le_refl _) hg8
                        have hy8 := hb8.size
                        clear hg8 hco7 hco8
                        go_wp2_with (at_builtin; go_loud (refine wpList_append_lit _ rfl (.tmp 153) (.tmp 155) _ rfl w7.heap.size 3 ii _ 1 8 Tryz.underlying45 hii hiz0 hiz1 hiz2 rfl (by omega) _ _ _ rfl hown8 _ _ 1 1 rfl rfl (by simp [Value.oneCell']) (by unfold maxLen; omega) (by omega) (by omega) ?_))
                        intro v9 w9 hown9 hg9
                        have hb9 : Below w7.heap.size w7 w9 := below_grown (hb8.alloc hy8 _) (hown8.alloc _) (Nat.le_refl _) (by simp; omega) hg9
                        have hown9' : w9.ownsRow w7.heap.size 3 1 v9 (opened.length + 1) (natsV (opened ++ [f'])) := by
                          have e : natsV (opened ++ [f']) = natsV opened ++ [.int .i64 (f' : Int)] := by simp [natsV]
                          rw [e]
                          simpa using hown9
                        obtain ⟨P, pc, rfl, hpc, hl9⟩ := own_form hown9'
                        have hPg : Clear g P := by
                          intro a ha
                          subst ha
                          have := (hown9'.lt a.block rfl).1
                          omega
                        have HG9 := Lib.hid (HG7.out.below hb9 (by omega))
                        have HZ9 := Lib.hid (HZ7.out.below hb9 (by have := HZ7.out.lt; omega))
                        have HWR9 := Lib.hid (only_step HWR7.out hb9)
                        have HOW9 := Lib.hid (only_step HOW7.out hb9)
                        have HOWN9 := Lib.hid (own_below HOWN7.out hb9)
                        have hy9 := hb9.size
                        have hl99 := (lies_clear HL.out hA (Nat.le_refl _) HWR9.out).wider (by omega : w.heap.size ≤ w9.heap.size)
                        have HP := Lib.hid (HCALL.out P pc w9 hl99 hl9 hPg HG9.out (by omega) hqn)
                        clear hown8 hg9 hb8 hown9 hown9' hb9 hl9 hl99 HG7 HZ7 HWR7 HOW7 HOWN7 HCALL
                        go_wp2_with fail
                        refine (HP.out).mono ?_
                        rintro r w10 ⟨hres, hbg10, how10⟩
                        have HG10 := Lib.hid hbg10
                        have HZ10 := Lib.hid (box_only HZ9.out hne0 how10)
                        have HWR10 := Lib.hid (only_trans HWR9.out how10)
                        have HOW10 := Lib.hid (only_trans HOW9.out how10)
                        have HOWN10 := Lib.hid (own_only HOWN9.out hg2 how10)
                        have hy10 := how10.size
                        clear hbg10 how10 HP HG9 HZ9 HWR9 HOW9 HOWN9
                        rcases hres with ⟨⟨e1, e2, ep⟩, A5, c5, he, hen, rfl⟩ | ⟨x, A5, c5, hx, rfl, hxc, hownx⟩
                        · have HRE : Hid (R = (.error (e1, e2, ep), E.2)) := by
                            have := HRUN4.out
                            obtain ⟨a, n'⟩ := E
                            dsimp only at he
                            rw [he] at this
                            exact this.symm
                          dsimp only [faultCells]
                          have hen1 : e1 ≠ 0 := hen
                          have hbn : Below w10.heap.size w10 (w10.alloc (.cells #[.int .i64 e1, .int .i64 e2, .complex .f64 (fl (ep.1 : Int)) (fl (ep.2 : Int))] 30)) := below_alloc (Below.refl _ _) (Nat.le_refl _) _
                          have HF11 := Lib.hid (Box.new w10 30 #[.int .i64 e1, .int .i64 e2, .complex .f64 (fl (ep.1 : Int)) (fl (ep.2 : Int))])
                          have HZ11 := Lib.hid (HZ10.out.step hbn)
                          have HG11 := Lib.hid (HG10.out.step hbn)
                          have HWR11 := Lib.hid (only_step HWR10.out hbn)
                          clear HRUN4 he hen hbn HEB HOWN10 HOW10 HZ10 HG10 HWR10
                          go_upto_region 33 with (fail)
                          obtain ⟨g11, hg11⟩ : ∃ g11, g11 = w10.heap.size := ⟨_, rfl⟩
                          rw [← hg11] at HF11 ⊢
                          generalize w10.alloc (.cells #[.int .i64 e1, .int .i64 e2, .complex .f64 (fl (ep.1 : Int)) (fl (ep.2 : Int))] 30) = w11 at *
                          clear hg11
                          have c0 := HZ11.out.cell 0
                          have c1 := HZ11.out.cell 1
                          have c2 := HZ11.out.cell 2
                          have d0 := HF11.out.cell 0
                          have d1 := HF11.out.cell 1
                          have d2 := HF11.out.cell 2
                          simp only [List.getElem?_toArray, List.getElem?_cons_zero, List.getElem?_cons_succ] at c0 c1 c2 d0 d1 d2
                          have z0 := HZ11.out.free 0
                          have z1 := HZ11.out.free 1
                          have z2 := HZ11.out.free 2
                          have y0 := HF11.out.free 0
                          have gg := HZ11.out.lt
                          have gf2 := HF11.out.lt
                          go_wp2_with fail
                          refine wp_region_still_tail 2 (by kernel_rfl) (by kernel_rfl) ?_
                          simp only [List.take_succ_cons, List.take_zero, List.drop_succ_cons, List.drop_zero]
                          change wpStill _ _ (World.drew _) _ _ _
                          repeat still_step
                          refine wpStill_nil ?_
                          change wpList _ _ _ _ _ (World.drew _)
                          go_wp2_with fail
                          try simp only [Exit.inBlock, Exit.then]
                          have hbx := box_trio (a := .int .i64 e1) (b := .int .i64 e2) (c := .complex .f64 (fl (ep.1 : Int)) (fl (ep.2 : Int))) HZ11.out.drew
                          refine bodyPost_ret (results_tmp_box rfl _ _ w.heap.size 30 _ ?fh1 hbx _ Tryz.underlying30 ?fh2 ?fh3) ?fh4 ?fh5
                          case fh2 => rfl
                          case fh3 => exact faultSize
                          case fh1 => rfl
                          case fh4 => rfl
                          case fh5 => exact fault_end HRE.out hen1 hgl HG11.out HWR11.out
                        · have HRX : Hid (weaveToks fs rec f.1.data.toList file opened (T.drop (k + 2)) (acc ++ x) E.2 = R) := by
                            have := HRUN4.out
                            obtain ⟨a, n'⟩ := E
                            dsimp only at hx
                            rw [hx] at this
                            exact this
                          dsimp only [faultCells]
                          obtain ⟨hE1, hE2, hE3⟩ := HEB.out
                          have hxl := hE2 x hx
                          have hE4 : E.2 ≤ 1000 := by omega
                          have hlx := Lies.of_own hownx
                          have hbn : Below w10.heap.size w10 (w10.alloc (.cells #[.int .i64 0, .int .i64 0, .complex .f64 0 0] 30)) := below_alloc (Below.refl _ _) (Nat.le_refl _) _
                          have hlx2 := (hlx.below hbn).wider hbn.size
                          have hown11 := own_below HOWN10.out hbn
                          have hyb := hbn.size
                          have HG11 := Lib.hid (HG10.out.step hbn)
                          have HOW11 := Lib.hid (only_step HOW10.out hbn)
                          clear HRUN4 hx hE2 hE3 hlx hownx hbn HEB HZ10 HG10 HWR10 HOW10 HOWN10
                          go_wp2_with (at_builtin; go_loud (refine wpList_append_lies _ rfl (.tmp 164) (.tmp 165) _ rfl w2.heap.size 39 i0 _ 4 48 Tryz.underlying26 hi hz0 hz1 hz2 rfl (by omega) _ _ _ rfl hown11 _ A5 x.length c5 (ftoksV x) rfl hlx2 (ftoksV_cells _) (by unfold maxLen; omega) (by omega) (by omega) ?_))
                          intro v12 w12 hown12 hg12
                          have HOW12 := Lib.hid (only_grown HOW11.out hown11 (Nat.le_refl _) hg12)
                          have HG12 : Hid (Box w12 g 53 #[.int .i64 E.2]) := (hg12.block g HG11.out.lt (fun e => by have := (hown11.lt g e.symm).1; omega)).trans HG11.out
                          have HO12 := Lib.hid hown12
                          clear hown12 hg12 hown11 hlx2
                          go_wp2
                          go_roundw
                          case rel => exact ⟨k + 2, acc ++ x, E.2, by omega, by go_num, by rw [List.length_append]; omega, hE4, by rw [ftoksV_append, List.length_append]; exact HO12.out, HG12.out, HOW12.out, HRX⟩
                          case measure => simp [intOf]; omega
            · have hk4b : (u.kind == 4) = false := by rw [beq_eq_false_iff_ne]; exact hk4
              have HRE : Hid (R = (.error (3, (file : Int), t.place), m)) := by
                have := HRUN3.out
                unfold incStep at this
                rw [if_pos hk4] at this
                exact this.symm
              clear HRUN3 hk4
              have c0 := HZ3.out.cell 0
              have c1 := HZ3.out.cell 1
              have c2 := HZ3.out.cell 2
              have d0 := HF.out.cell 0
              have d1 := HF.out.cell 1
              have d2 := HF.out.cell 2
              simp only [List.getElem?_toArray, List.getElem?_cons_zero, List.getElem?_cons_succ] at c0 c1 c2 d0 d1 d2
              have z0 := HZ3.out.free 0
              have z1 := HZ3.out.free 1
              have z2 := HZ3.out.free 2
              have y0 := HF.out.free 0
              have gg := HZ3.out.lt
              have gf2 := HF.out.lt
              go_wp2_with fail
              refine wp_region_still_tail 2 (by kernel_rfl) (by kernel_rfl) ?_
              simp only [List.take_succ_cons, List.take_zero, List.drop_succ_cons, List.drop_zero]
              change wpStill _ _ (World.drew _) _ _ _
              repeat still_step
              refine wpStill_nil ?_
              change wpList _ _ _ _ _ (World.drew _)
              go_wp2_with fail
              try simp only [Exit.inBlock, Exit.then]
              have hbx := box_trio (a := .int .i64 3) (b := .int .i64 file) (c := .complex .f64 (fl (t.place.1 : Int)) (fl (t.place.2 : Int))) HZ3.out.drew
              refine bodyPost_ret (results_tmp_box rfl _ _ w.heap.size 30 _ ?fc1 hbx _ Tryz.underlying30 ?fc2 ?fc3) ?fc4 ?fc5
              case fc2 => rfl
              case fc3 => exact faultSize
              case fc1 => rfl
              case fc4 => rfl
              case fc5 => exact fault_end HRE.out (by decide) hgl HG3.out HWR3.out
      · obtain rfl : k = T.length := by omega
        have HRE : Hid (R = (.ok acc, m)) := by
          rw [List.drop_eq_nil_of_le (Nat.le_refl _)] at HRUN
          have := HRUN
          unfold Hid at this
          rw [weaveToks] at this
          exact this.symm
        have c0 := HZ.out.cell 0
        have c1' := HZ.out.cell 1
        have c2 := HZ.out.cell 2
        simp only [List.getElem?_toArray, List.getElem?_cons_zero, List.getElem?_cons_succ] at c0 c1' c2
        have z0 := HZ.out.free 0
        have z1 := HZ.out.free 1
        have z2 := HZ.out.free 2
        have gg := HZ.out.lt
        have hg0 : w.heap.size < w2.heap.size := HZ2.out.lt
        obtain ⟨A9, c9, rfl, hc9, hl9⟩ := own_form HOWN.out
        have hown9 := ownsRow_setCell_below (ownsRow_setCell_below (ownsRow_setCell_below HOWN.out (a := ⟨w.heap.size, 0, none⟩) hg0 (.int .i64 0)) (a := ⟨w.heap.size, 1, none⟩) hg0 (.int .i64 0)) (a := ⟨w.heap.size, 2, none⟩) hg0 (.complex .f64 0 0)
        have HOWN9 := Lib.hid (own_base hown9 hy2)
        clear HRUN hl9 hown9
        go_wp2_with fail
        try simp only [Exit.inBlock, Exit.then]
        have hbx := box_trio (a := .int .i64 0) (b := .int .i64 0) (c := .complex .f64 0 0) HZ.out
        refine bodyPost_ret (results_tmp_box rfl _ _ w.heap.size 30 _ ?fz1 hbx _ Tryz.underlying30 ?fz2 ?fz3) ?fz4 ?fz5
        case fz2 => rfl
        case fz3 => exact faultSize
        case fz1 => rfl
        case fz4 => rfl
        case fz5 =>
          have hne : g ≠ w.heap.size := by omega
          rw [HRE.out]
          refine ⟨.inr ⟨acc, A9, c9, rfl, rfl, hc9, HOWN9.out⟩, ((HG.out.other hne).other hne).other hne, ?_⟩
          exact only_new_set (only_new_set (only_new_set HWR.out (Nat.le_refl _)) (Nat.le_refl _)) (Nat.le_refl _)

theorem weaveRef_any (fs : List FileV) (g : Nat) (A : Option Addr) (N c : Nat) (hA : Clear g A) (hN : N ≤ 4294967296) (hfs : ∀ f ∈ fs, FileOk f) : ∀ (d : Nat) (opened : List Nat), opened.length + d = 8 → ∀ (O : Option Addr) (oc file n : Nat) (w : World),
    Lies w w.heap.size 2 A N (filesV fs) → Lies w w.heap.size 1 O opened.length (natsV opened) → Clear g O → Box w g 53 #[.int .i64 n] → n ≤ 1000 → file < fs.length →
    Calls Tryz.prog 17 #[.pointer (some ⟨g, 0, none⟩), .slice A N c, .int .i64 file, .slice O opened.length oc] w (WeaveEnd (weaveL fs d file opened n) g w)
  | 0, opened, hd, O, oc, file, n, w, hl, ho, hO, hb, hn, hf =>
    weave_with fs _ (fun _ _ n => ⟨Nat.le_refl _, fun x hx => by rw [← Except.ok.inj hx]; simp, .inr rfl⟩) g A N c opened O oc file n w hl hA hN ho hO (by omega) hb hn hf hfs (fun h => by omega)
  | d + 1, opened, hd, O, oc, file, n, w, hl, ho, hO, hb, hn, hf =>
    weave_with fs _ (weave_ok fs d) g A N c opened O oc file n w hl hA hN ho hO (by omega) hb hn hf hfs
      (fun _ f' n' P pc W hlW hpW hP hbW hn' hf' => by
        have := weaveRef_any fs g A N c hA hN hfs d (opened ++ [f']) (by rw [List.length_append]; simp; omega) P pc f' n' W hlW (by rw [List.length_append]; exact hpW) hP hbW hn' hf'
        rw [List.length_append] at this
        exact this)

/-- What the tokens of files together are, or what is wrong. -/
def WeaveRes (R : Except FaultV (List FTok)) (w : World) : Ending → World → Prop := fun r w' =>
  ((∃ (e : FaultV) (A : Option Addr) (c : Nat), R = .error e ∧ r = .returned (.tuple #[.slice A 0 c, .agg (faultCells e.1 e.2.1 (fl e.2.2.1) (fl e.2.2.2))])) ∨
   (∃ (l : List FTok) (A : Option Addr) (c : Nat), R = .ok l ∧ r = .returned (.tuple #[.slice A l.length c, .agg (faultCells 0 0 0 0)]) ∧ l.length ≤ c ∧ Lies w' w'.heap.size 4 A l.length (ftoksV l))) ∧ Below w.heap.size w w'

end Go.Proofs.YtdjhpgpekomjeaaGreatDoor
