/- What the document's own Split gives. -/
import Derived.Test.YtfklajkmikanbaaGreatDoorPart6
import Derived.StillTailTactics
import Derived.Deep.DeepCutAuto
import Derived.OneCell
namespace Go.Proofs.YtfklajkmikanbaaGreatDoor
open Go.RowKit

theorem faultSize : (Tryz.prog.info? 33).map (·.size) = some 3 := by kernel_rfl
theorem Tryz.infoTok : (Tryz.prog.info? 62).map (fun i => (i.zero, i.size, i.bytes)) = some (some (.agg (tokCells 0 ⟨#[]⟩ 0 0 0)), 4, 48) := by kernel_rfl
theorem cut_at (s : ByteArray) (k : Nat) (h : k ≤ s.size) : posAt s.data.toList (k : Int) = posFrom (1, 1) (s.data.toList.take k) := by
  unfold posAt cutTo
  rw [if_neg (by omega), if_neg (by rw [Array.length_toList]; have : s.data.size = s.size := rfl; omega)]
  rfl

/-- With the error's number. -/
def told : Except (Nat × Nat) (List TokV) → Except (Int × Nat × Nat) (List TokV)
  | .error p => .error (3, p)
  | .ok l => .ok l

/-- Where the loop stands. -/
def Splitting (s : ByteArray) (file : Int) (S : Except (Nat × Nat) (List TokV)) (w0 : World) (v i : Value) (wr : World) : Prop :=
  ∃ (k f : Nat) (acc : List TokV), k ≤ s.size ∧ s.size - k ≤ f ∧ i = .int .i64 k ∧ acc.length ≤ k ∧ wr.ownsRow w0.heap.size 62 4 v acc.length (toksV file acc) ∧ Below w0.heap.size w0 wr ∧
    Hid (S = (splitL f (posFrom (1, 1) (s.data.toList.take k)) (s.data.toList.drop k)).map (acc ++ ·))

set_option maxRecDepth 100000 in
set_option maxHeartbeats 8000000 in
theorem split_in (s : ByteArray) (file : Int) (w : World) (hs : s.size ≤ 20000) :
    Calls Tryz.prog 9 #[.string s, .int .i64 file] w (SplitNew file (told (splitL s.size (1, 1) s.data.toList)) w) := by
  obtain ⟨i0, hi, hz0, hz1, hz2⟩ := info_parts Tryz.infoTok
  have HAT : Hid (∀ (k : Nat) (W : World), k ≤ s.size → Calls Tryz.prog 14 #[.string s, .int .i64 k] W fun e w' => e = .returned (.tuple #[.int .i64 ((posFrom (1, 1) (s.data.toList.take k)).1 : Int), .int .i64 ((posFrom (1, 1) (s.data.toList.take k)).2 : Int)]) ∧ W = w') := fun k W hk => by
    have := refAt_any s k W (by omega)
    rw [cut_at s k hk] at this
    exact this.mono fun _ _ ⟨h1, h2⟩ => ⟨h1, h2.symm ▸ rfl⟩
  have HSK : Hid (∀ (k : Nat) (W : World), k < s.size → Calls Tryz.prog 15 #[.string s, .int .i64 k] W (PlaceBool (skipL (s.data.toList.drop k)) k W)) := fun k W hk => skip_any s k W hk (by omega)
  have HON : Hid (∀ (k : Nat) (W : World), k < s.size → Calls Tryz.prog 16 #[.string s, .int .i64 k] W (TokAt (oneL (s.data.toList.drop k)) k W)) := fun k W hk => one_any s k W hk (by omega)
  have hst := store_cx
  obtain ⟨S, hS⟩ : ∃ S, S = splitL s.size (1, 1) s.data.toList := ⟨_, rfl⟩
  obtain ⟨V, hV⟩ : ∃ V, V = told S := ⟨_, rfl⟩
  rw [← hS, ← hV]
  have HV := Lib.hid hV
  have HS0 : Hid (S = (splitL s.size (posFrom (1, 1) (s.data.toList.take 0)) (s.data.toList.drop 0)).map ([] ++ ·)) := by
    unfold Hid
    rw [hS, List.take_zero, List.drop_zero]
    show splitL s.size (1, 1) s.data.toList = (splitL s.size (1, 1) s.data.toList).map (fun x => [] ++ x)
    cases splitL s.size (1, 1) s.data.toList <;> rfl
  clear hS hV
  have HBX := Lib.hid (Box.new w 33 (faultCells 0 0 0 0))
  have HN0 : Hid (Below w.heap.size w (w.alloc (.cells (faultCells 0 0 0 0) 33))) := below_alloc (Below.refl _ _) (Nat.le_refl _) _
  unfold faultCells at HBX HN0
  have hsI : (s.size : Int) ≤ 20000 := by omega
  go_enter Tryz.func9, Tryz.ntmps9
  go_wp2_with fail
  generalize hw0 : w.alloc (.cells #[.int .i64 0, .int .i64 0, .complex .f64 0 0] 33) = w0 at *
  clear hw0
  go_loopw [6, 7] (fun v i wr => Splitting s file S w0 v i wr) (fun _ i _ => s.size - (intOf i).toNat)
  case atStart => exact ⟨0, s.size, [], by omega, by omega, rfl, Nat.le_refl _, World.ownsRow_nil _ _ _ _, Below.refl _ _, HS0⟩
  case round =>
    obtain ⟨k, f, acc, hk, hf, rfl, hacc, hown, hnx, HS⟩ := hrel
    have hsz := hnx.size
    have hbg := HBX.out.below hnx HBX.out.lt
    have HBG := Lib.hid hbg
    have hgl := hbg.lt
    clear hbg
    by_cases hlt : k < s.size
    · have hltI : (k : Int) < (s.size : Int) := by omega
      obtain ⟨f', rfl⟩ : ∃ f', f = f' + 1 := ⟨f - 1, by omega⟩
      have hd := drop_at s k hlt
      have hne : s.data.toList.drop k ≠ [] := by rw [hd]; simp
      have hrl : (s.data.toList.drop k).length = s.size - k := by
        rw [List.length_drop, Array.length_toList]
        rfl
      have HNE := Lib.hid hne
      have HRL := Lib.hid hrl
      have HA : Hid (∀ W : World, Calls Tryz.prog 14 #[.string s, .int .i64 k] W fun e w' => e = .returned (.tuple #[.int .i64 ((posFrom (1, 1) (s.data.toList.take k)).1 : Int), .int .i64 ((posFrom (1, 1) (s.data.toList.take k)).2 : Int)]) ∧ W = w') := fun W => HAT.out k W hk
      have HK : Hid (∀ W : World, Calls Tryz.prog 15 #[.string s, .int .i64 k] W (PlaceBool (skipL (s.data.toList.drop k)) k W)) := fun W => HSK.out k W hlt
      have HO : Hid (∀ W : World, Calls Tryz.prog 16 #[.string s, .int .i64 k] W (TokAt (oneL (s.data.toList.drop k)) k W)) := fun W => HON.out k W hlt
      have HPA : Hid (∀ n, posFrom (1, 1) (s.data.toList.take (k + n)) = posFrom (posFrom (1, 1) (s.data.toList.take k)) ((s.data.toList.drop k).take n) ∧ s.data.toList.drop (k + n) = (s.data.toList.drop k).drop n) := fun n => ⟨pos_add _ _ _, by rw [List.drop_drop]⟩
      obtain ⟨P, hP⟩ : ∃ P, P = posFrom (1, 1) (s.data.toList.take k) := ⟨_, rfl⟩
      rw [← hP] at HA HS HPA
      clear hd hne hrl hP
      go_wp2_with fail
      refine (HA.out _).mono ?_
      rintro r w1 ⟨rfl, rfl⟩
      go_wp2_with fail
      refine (spot_any _ _ _).mono ?_
      rintro r w1 ⟨rfl, rfl⟩
      have hbf := Box.new wr 33 #[.int .i64 3, .int .i64 file, .complex .f64 (fl (P.1 : Int)) (fl (P.2 : Int))]
      have HBF := Lib.hid hbf
      have HBG1 := Lib.hid (HBG.out.alloc (.cells #[.int .i64 3, .int .i64 file, .complex .f64 (fl (P.1 : Int)) (fl (P.2 : Int))] 33))
      have HNX1 := Lib.hid (hnx.alloc hsz (.cells #[.int .i64 3, .int .i64 file, .complex .f64 (fl (P.1 : Int)) (fl (P.2 : Int))] 33))
      have hown1 := hown.alloc (.cells #[.int .i64 3, .int .i64 file, .complex .f64 (fl (P.1 : Int)) (fl (P.2 : Int))] 33)
      clear hbf hnx hown
      go_wp2_with fail
      obtain ⟨gf, hgf⟩ : ∃ gf, gf = wr.heap.size := ⟨_, rfl⟩
      generalize hwf : wr.alloc (.cells #[.int .i64 3, .int .i64 file, .complex .f64 (fl (P.1 : Int)) (fl (P.2 : Int))] 33) = wf at *
      rw [← hgf] at HBF ⊢
      clear hgf hwf
      cases hsk : skipL (s.data.toList.drop k) with
      | none =>
        rw [hsk] at HK
        have HE : Hid (V = .error (3, P)) := by
          unfold Hid
          rw [HV.out, HS.out, split_far HNE.out hsk]
          rfl
        clear hsk
        refine (HK.out _).mono ?_
        rintro r w2 ⟨rfl, rfl⟩
        have c0 := HBG1.out.cell 0
        have c1 := HBG1.out.cell 1
        have c2 := HBG1.out.cell 2
        have d0 := HBF.out.cell 0
        have d1 := HBF.out.cell 1
        have d2 := HBF.out.cell 2
        simp only [List.getElem?_toArray, List.getElem?_cons_zero, List.getElem?_cons_succ] at c0 c1 c2 d0 d1 d2
        have z0 := HBG1.out.free 0
        have z1 := HBG1.out.free 1
        have z2 := HBG1.out.free 2
        have gg := HBG1.out.lt
        have gf2 := HBF.out.lt
        clear hown1
        go_wp2_with fail
        refine wp_region_still_tail 2 (by kernel_rfl) (by kernel_rfl) ?_
        simp only [List.take_succ_cons, List.take_zero, List.drop_succ_cons, List.drop_zero]
        change wpStill _ _ (World.drew _) _ _ _
        repeat still_step
        refine wpStill_nil ?_
        change wpList _ _ _ _ _ (World.drew _)
        go_wp2_with fail
        try simp only [Exit.inBlock, Exit.then]
        have hbx := box_trio (a := .int .i64 3) (b := .int .i64 file) (c := .complex .f64 (fl (P.1 : Int)) (fl (P.2 : Int))) HBG1.out.drew
        refine bodyPost_ret (results_tmp_box rfl _ _ w.heap.size 33 _ ?fa1 hbx _ Tryz.underlying33 ?fa2 ?fa3) ?fa4 ?fa5
        case fa2 => rfl
        case fa3 => exact faultSize
        case fa1 => rfl
        case fa4 => rfl
        case fa5 =>
          rw [HE.out]
          refine ⟨.inl ⟨3, P, none, 0, rfl, rfl⟩, ?_⟩
          refine Below.drew ?_
          iterate 3 (with_reducible refine below_set (Nat.le_refl _) ?_)
          exact HN0.out.trans (HNX1.out.mono HN0.out.size)
      | some n =>
        rw [hsk] at HK
        have hnl := skip_len hsk
        rw [HRL.out] at hnl
        by_cases hn0 : 0 < n
        · have HN : Hid (S = (splitL f' (posFrom (1, 1) (s.data.toList.take (k + n))) (s.data.toList.drop (k + n))).map (acc ++ ·)) := by
            unfold Hid
            rw [HS.out, split_skip HNE.out hsk hn0, (HPA.out n).1, (HPA.out n).2]
          have hq : decide ((k : Int) < ((k + n : Nat) : Int)) = true := decide_eq_true (by omega)
          have hq2 : (k : Int) < (k : Int) + (n : Int) := by omega
          clear hsk
          refine (HK.out _).mono ?_
          rintro r w2 ⟨rfl, rfl⟩
          go_wp2
          go_roundw
          case rel => exact ⟨k + n, f', acc, by omega, by omega, by go_num, by omega, hown1, HNX1.out, HN⟩
          case measure => simp [intOf]; omega
        · obtain rfl : n = 0 := by omega
          have HK0 : Hid (∀ W : World, Calls Tryz.prog 15 #[.string s, .int .i64 k] W fun r w' => r = .returned (.tuple #[.int .i64 k, .bool true]) ∧ W = w') := HK
          refine (HK0.out _).mono ?_
          rintro r w2 ⟨rfl, rfl⟩
          go_wp2_with fail
          cases ho : oneL (s.data.toList.drop k) with
          | none =>
            rw [ho] at HO
            have HE : Hid (V = .error (3, P)) := by
              unfold Hid
              rw [HV.out, HS.out, split_bad HNE.out hsk ho]
              rfl
            clear hsk ho
            refine (HO.out _).mono ?_
            rintro r w3 ⟨rfl, hb3⟩
            dsimp only [tokCells]
            have HBG3 := Lib.hid (HBG1.out.step hb3)
            have HBF3 := Lib.hid (HBF.out.step hb3)
            have HNX3 := Lib.hid (HNX1.out.trans (hb3.mono HNX1.out.size))
            clear hb3 hown1
            have c0 := HBG3.out.cell 0
            have c1 := HBG3.out.cell 1
            have c2 := HBG3.out.cell 2
            have d0 := HBF3.out.cell 0
            have d1 := HBF3.out.cell 1
            have d2 := HBF3.out.cell 2
            simp only [List.getElem?_toArray, List.getElem?_cons_zero, List.getElem?_cons_succ] at c0 c1 c2 d0 d1 d2
            have z0 := HBG3.out.free 0
            have z1 := HBG3.out.free 1
            have z2 := HBG3.out.free 2
            have gg := HBG3.out.lt
            have gf2 := HBF3.out.lt
            go_wp2_with fail
            refine wp_region_still_tail 2 (by kernel_rfl) (by kernel_rfl) ?_
            simp only [List.take_succ_cons, List.take_zero, List.drop_succ_cons, List.drop_zero]
            change wpStill _ _ (World.drew _) _ _ _
            repeat still_step
            refine wpStill_nil ?_
            change wpList _ _ _ _ _ (World.drew _)
            go_wp2_with fail
            try simp only [Exit.inBlock, Exit.then]
            have hbx := Box.drew (Box.alloc (box_trio (a := .int .i64 3) (b := .int .i64 file) (c := .complex .f64 (fl (P.1 : Int)) (fl (P.2 : Int))) HBG3.out) (.cells #[.int .i64 0, .string ⟨#[]⟩, .int .i64 0, .complex .f64 0 0] 62))
            refine bodyPost_ret (results_tmp_box rfl _ _ w.heap.size 33 _ ?fb1 hbx _ Tryz.underlying33 ?fb2 ?fb3) ?fb4 ?fb5
            case fb2 => rfl
            case fb3 => exact faultSize
            case fb1 => rfl
            case fb4 => rfl
            case fb5 =>
              rw [HE.out]
              refine ⟨.inl ⟨3, P, none, 0, rfl, rfl⟩, ?_⟩
              refine Below.drew ?_
              refine below_alloc ?_ (Nat.le_refl _) _
              iterate 3 (with_reducible refine below_set (Nat.le_refl _) ?_)
              exact HN0.out.trans (HNX3.out.mono HN0.out.size)
          | some v =>
            rw [ho] at HO
            have hvl := one_len ho
            rw [HRL.out] at hvl
            obtain ⟨tk, tx, m⟩ := v
            have HN : Hid (S = (splitL f' (posFrom (1, 1) (s.data.toList.take (k + m))) (s.data.toList.drop (k + m))).map ((acc ++ [(⟨tk, tx, P⟩ : TokV)]) ++ ·)) := by
              unfold Hid
              rw [HS.out, split_tok HNE.out hsk ho, (HPA.out m).1, (HPA.out m).2]
              exact map_map_ok (l := acc) (m := [(⟨tk, tx, P⟩ : TokV)]) _
            dsimp only at hvl
            obtain ⟨m1, m2⟩ := hvl
            clear hsk ho
            refine (HO.out _).mono ?_
            rintro r w3 ⟨rfl, hb3⟩
            dsimp only [tokCells]
            have HBG3 := Lib.hid (HBG1.out.step hb3)
            have HBF3 := Lib.hid (HBF.out.step hb3)
            have HNX3 := Lib.hid (HNX1.out.trans (hb3.mono HNX1.out.size))
            have hown3 := own_below hown1 hb3
            have d2 := HBF3.out.cell 2
            simp only [List.getElem?_toArray, List.getElem?_cons_zero, List.getElem?_cons_succ] at d2
            have gf2 := HBF3.out.lt
            have hbt := Box.new w3 62 #[.int .i64 tk, .string (strOf tx), .int .i64 file, .complex .f64 (fl (P.1 : Int)) (fl (P.2 : Int))]
            have hW : Below w3.heap.size w3 (w3.alloc (.cells #[.int .i64 tk, .string (strOf tx), .int .i64 file, .complex .f64 (fl (P.1 : Int)) (fl (P.2 : Int))] 62)) := below_alloc (Below.refl _ _) (Nat.le_refl _) _
            have HBT := Lib.hid hbt
            have HW := Lib.hid hW
            clear hbt hW hb3 hown1
            go_upto_region 18 with (fail)
            obtain ⟨gt, hgt⟩ : ∃ gt, gt = w3.heap.size := ⟨_, rfl⟩
            have hown5 := own_below hown3 HW.out
            have HBG5 := Lib.hid (HBG3.out.step HW.out)
            have HNX5 := Lib.hid (HNX3.out.trans (HW.out.mono HNX3.out.size))
            have hbt := HBT.out
            clear HBT HW d2 gf2 HBF3 HBG3
            generalize w3.alloc (.cells #[.int .i64 tk, .string (strOf tx), .int .i64 file, .complex .f64 (fl (P.1 : Int)) (fl (P.2 : Int))] 62) = w5 at *
            rw [← hgt] at hbt ⊢
            clear hgt hown3 HNX3
            have t0 := hbt.cell 0
            have t1 := hbt.cell 1
            have t2 := hbt.cell 2
            have t3 := hbt.cell 3
            simp only [List.getElem?_toArray, List.getElem?_cons_zero, List.getElem?_cons_succ] at t0 t1 t2 t3
            have gtl := hbt.lt
            have hsz5 := HNX5.out.size
            clear hbt
            go_wp2_with (at_builtin; go_loud (refine wpList_append_lit _ rfl (.tmp 64) (.tmp 66) _ rfl w0.heap.size 62 i0 _ 4 48 Tryz.underlying40 hi hz0 hz1 hz2 rfl (by omega) _ _ _ rfl hown5 _ _ 1 1 rfl rfl ?c1 ?c2 ?c3 ?c4 ?_))
            case c1 => exact ⟨rfl, rfl, rfl, rfl⟩
            case c2 => unfold maxLen; omega
            case c3 => omega
            case c4 => exact hsz5
            intro v' w' hown6 hg6
            have hnx6 : Below w0.heap.size w0 w' := below_grown (HNX5.out.alloc hsz5 _) (hown5.alloc _) (Nat.le_refl _) (by simp; omega) hg6
            have hown7 : w'.ownsRow w0.heap.size 62 4 v' (acc ++ [(⟨tk, tx, P⟩ : TokV)]).length (toksV file (acc ++ [(⟨tk, tx, P⟩ : TokV)])) := by
              rw [toksV_snoc, List.length_append]
              exact hown6
            clear hg6 hown6 hown5
            go_wp2
            go_roundw
            case rel => exact ⟨k + m, f', acc ++ [(⟨tk, tx, P⟩ : TokV)], by omega, by omega, by go_num, by simp; omega, hown7, hnx6, HN⟩
            case measure => simp [intOf]; omega
    · obtain rfl : k = s.size := by omega
      have HE : Hid (V = .ok acc) := by
        unfold Hid
        rw [HV.out, HS.out, drop_end s s.size (Nat.le_refl _), split_nil]
        show Except.ok (acc ++ []) = Except.ok acc
        rw [List.append_nil]
      have c0 := HBG.out.cell 0
      have c1 := HBG.out.cell 1
      have c2 := HBG.out.cell 2
      simp only [List.getElem?_toArray, List.getElem?_cons_zero, List.getElem?_cons_succ] at c0 c1 c2
      have z0 := HBG.out.free 0
      have z1 := HBG.out.free 1
      have z2 := HBG.out.free 2
      have hg0 := HBX.out.lt
      have hown3 := ownsRow_setCell_below (ownsRow_setCell_below (ownsRow_setCell_below hown (a := ⟨w.heap.size, 0, none⟩) hg0 (.int .i64 0)) (a := ⟨w.heap.size, 1, none⟩) hg0 (.int .i64 0)) (a := ⟨w.heap.size, 2, none⟩) hg0 (.complex .f64 0 0)
      obtain ⟨A2, c4, rfl, hc4, hl4⟩ := own_form hown3
      have HL4 := Lib.hid (own_base hown3 HN0.out.size)
      clear hl4 hown hown3
      go_wp2_with fail
      try simp only [Exit.inBlock, Exit.then]
      have hbx := box_trio (a := .int .i64 0) (b := .int .i64 0) (c := .complex .f64 0 0) HBG.out
      refine bodyPost_ret (results_tmp_box rfl _ _ w.heap.size 33 _ ?fc1 hbx _ Tryz.underlying33 ?fc2 ?fc3) ?fc4 ?fc5
      case fc2 => rfl
      case fc3 => exact faultSize
      case fc1 => rfl
      case fc4 => rfl
      case fc5 =>
        rw [HE.out]
        refine ⟨.inr ⟨acc, A2, c4, rfl, rfl, hc4, HL4.out⟩, ?_⟩
        iterate 3 (with_reducible refine below_set (Nat.le_refl _) ?_)
        exact HN0.out.trans (hnx.mono HN0.out.size)

theorem fl_one : fl 1 = 4607182418800017408 := by decide +kernel

set_option maxRecDepth 100000 in
theorem splitNew_any (s : ByteArray) (file : Int) (w : World) : Calls Tryz.prog 9 #[.string s, .int .i64 file] w (SplitNew file (splitOf s.data.toList) w) := by
  have hln : s.data.toList.length = s.size := by rw [Array.length_toList]; rfl
  by_cases h : s.size ≤ 20000
  · have hv : splitOf s.data.toList = told (splitL s.size (1, 1) s.data.toList) := by
      unfold splitOf told
      rw [hln, if_neg (by omega)]
      rfl
    rw [hv]
    exact split_in s file w h
  · have hv : splitOf s.data.toList = .error (9, 1, 1) := by
      unfold splitOf
      rw [hln, if_pos (by omega)]
    rw [hv]
    have hsI : (20000 : Int) < (s.size : Int) := by omega
    have hst := store_cx
    have hbx0 := Box.new w 33 (faultCells 0 0 0 0)
    unfold faultCells at hbx0
    have hbx := box_trio (a := .int .i64 9) (b := .int .i64 file) (c := .complex .f64 4607182418800017408 4607182418800017408) hbx0
    have HBX := Lib.hid hbx
    have HN0 : Hid (Below w.heap.size w (w.alloc (.cells #[.int .i64 9, .int .i64 file, .complex .f64 4607182418800017408 4607182418800017408] 33))) := below_alloc (Below.refl _ _) (Nat.le_refl _) _
    have HB2 := Lib.hid (Box.new w 33 #[.int .i64 9, .int .i64 file, .complex .f64 4607182418800017408 4607182418800017408])
    clear h hv hln hbx0 hbx
    go_enter Tryz.func9, Tryz.ntmps9
    go_wp2_with fail
    try simp only [Exit.inBlock, Exit.then]
    refine bodyPost_ret (results_tmp_box rfl _ _ w.heap.size 33 _ ?g1 HB2.out _ Tryz.underlying33 ?g2 ?g3) ?g4 ?g5
    case g2 => rfl
    case g3 => exact faultSize
    case g1 => rfl
    case g4 => rfl
    case g5 =>
      refine ⟨.inl ⟨9, (1, 1), none, 0, rfl, ?_⟩, HN0.out⟩
      show _ = Ending.returned (.tuple #[.slice none 0 0, .agg (faultCells 9 file (fl 1) (fl 1))])
      rw [fl_one]
      rfl

theorem split_any (s : ByteArray) (file : Int) (w : World) : Calls Tryz.prog 9 #[.string s, .int .i64 file] w (SplitRes file (splitOf s.data.toList) w) :=
  (splitNew_any s file w).mono fun _ _ h => h.res

end Go.Proofs.YtfklajkmikanbaaGreatDoor
