/- What the landed token's Split gives. No condition. -/
import Derived.Test.YtdjhpgpekomjeaaDoorTokFirst
import Derived.Test.YtdjhpgpekomjeaaDoorPart5
import Derived.Test.YtdjhpgpekomjeaaDoorPart12
import Derived.Test.YtdjhpgpekomjeaaDoorPart3
namespace Go.Proofs.YtdjhpgpekomjeaaDoor
open Go.RowKit

def strLen : Value → Nat
  | .string s => s.size
  | _ => 0

/-- What is left, its place and the tokens so far. -/
def LandAt (s : ByteArray) (file : Int) (S : Except (Nat × Nat) (List TokV)) (w0 : World) (r p v : Value) (wr : World) : Prop :=
  ∃ (k f : Nat) (R : ByteArray) (acc : List TokV), k + R.size = s.size ∧ R.size ≤ f ∧ r = .string R ∧ p = .complex .f64 (fl ((posFrom (1, 1) (s.data.toList.take k)).1 : Int)) (fl ((posFrom (1, 1) (s.data.toList.take k)).2 : Int)) ∧ acc.length ≤ k ∧ wr.ownsRow w0.heap.size 35 4 v acc.length (toksV file acc) ∧ Below w0.heap.size w0 wr ∧
    Hid (R.data.toList = s.data.toList.drop k) ∧ Hid (S = (splitL f (posFrom (1, 1) (s.data.toList.take k)) R.data.toList).map (acc ++ ·))

theorem pos_least : ∀ (l : List UInt8) (p : Nat × Nat), 1 ≤ p.1 → 1 ≤ p.2 → 1 ≤ (posFrom p l).1 ∧ 1 ≤ (posFrom p l).2
  | [], p, h1, h2 => ⟨h1, h2⟩
  | b :: l, p, h1, h2 => by
    show 1 ≤ (posFrom (stepPos p b) l).1 ∧ 1 ≤ (posFrom (stepPos p b) l).2
    refine pos_least l _ ?_ ?_ <;> unfold stepPos <;> split <;> simp only <;> omega

theorem tokVals_one (file : Int) (t : TokV) : ∀ u ∈ tokVals file t, u.oneCell' = true := by
  intro u hu
  simp only [tokVals, List.mem_cons, List.not_mem_nil, or_false] at hu
  rcases hu with rfl | rfl | rfl | rfl <;> rfl

theorem one_text {r : List UInt8} {v : Int × List UInt8 × Nat} (h : oneL r = some v) : v.2.1.length ≤ r.length := by
  cases r with
  | nil => cases h
  | cons c t =>
    unfold oneL at h
    dsimp only at h
    have ht : ∀ n, (t.take n).length ≤ (c :: t).length := fun n => by
      rw [List.length_take, List.length_cons]
      omega
    have hc : ∀ n, ((c :: t).take n).length ≤ (c :: t).length := fun n => by
      rw [List.length_take]
      omega
    repeat' split at h
    all_goals first
      | (cases h; done)
      | (obtain rfl := Option.some.inj h; exact hc _)
      | (obtain rfl := Option.some.inj h; exact ht _)
      | (rename_i hb; simp only [Bool.and_eq_true] at hb; obtain rfl := Option.some.inj h; exact begins_len hb.1)
      | (cases hn : numL (c :: t) with
        | none => rw [hn] at h; cases h
        | some u => rw [hn] at h; obtain rfl := Option.some.inj h; exact hc _)
theorem piece_text {l : List UInt8} {v : Int × List UInt8 × Nat} (h : pieceL l = some v) : v.2.1.length ≤ l.length := by
  cases l with
  | nil => cases h
  | cons c t =>
    unfold pieceL at h
    dsimp only at h
    split at h
    · obtain rfl := Option.some.inj h
      exact Nat.zero_le _
    · split at h
      · cases h
      · split at h
        · obtain rfl := Option.some.inj h
          exact Nat.zero_le _
        · exact one_text h

/-- A block that is not the one that grew. -/
theorem box_grown {w w' : World} {g : Nat} {T : TypeId} {cs : Array Value} {b : Option Nat} (h : Box w g T cs) (ho : w.grownBy w' b) (hb : ¬ some g = b) : Box w' g T cs :=
  (ho.block g h.lt hb).trans h

set_option maxRecDepth 100000 in
set_option maxHeartbeats 16000000 in
theorem split_land (s : ByteArray) (file : Int) (w : World) (hs : s.size ≤ 20000) (hL : Laid w) :
    Calls Tryd.prog 16 #[.string s, .int .i64 file] w (SplitNew file (told (splitL s.size (1, 1) s.data.toList)) w) := by
  obtain ⟨i0, hi, hz0, hz1, hz2⟩ := info_parts Tryd.infoTok
  have HAT : Hid (∀ W : World, Calls Tryd.prog 22 #[.string s, .int .i64 0] W fun e w' => e = .returned (fcx (1, 1)) ∧ W = w') := fun W => by
    have := at_any s 0 W (by omega) (by decide) (by decide)
    have e : posAt s.data.toList 0 = (1, 1) := by
      have := cut_at s 0 (Nat.zero_le _)
      rw [List.take_zero] at this
      exact this
    rwa [e] at this
  have HFI : Hid (∀ (R : ByteArray) (W : World), ¬ R.size = 0 → R.size ≤ 20000 → Below w.heap.size w W → Calls Tryd.prog 23 #[.string R] W (PieceRes (pieceL R.data.toList) W)) := fun R W h0 h1 hW => first_any R h0 (by omega) W (hL.below hW)
  have HBH : Hid (∀ (p : Nat × Nat) (R : ByteArray) (W : World), R.size ≤ 20000 → 1 ≤ p.1 → p.1 ≤ 1099511627776 → 1 ≤ p.2 → p.2 ≤ 1099511627776 → Calls Tryd.prog 25 #[fcx p, .string R] W fun e w' => e = .returned (fcx (posFrom p R.data.toList)) ∧ W = w') := fun p R W h0 => behind_any p R W (by omega)
  have HCL : Hid (∀ (R : ByteArray) (W : World), R.size ≤ 20000 → Calls Tryd.prog 24 #[.string R] W fun e w' => e = .returned (.string R) ∧ Below W.heap.size W w') := fun R W h => clone_any R W (by omega)
  have hst := store_cx
  obtain ⟨S, hS⟩ : ∃ S, S = splitL s.size (1, 1) s.data.toList := ⟨_, rfl⟩
  obtain ⟨V, hV⟩ : ∃ V, V = told S := ⟨_, rfl⟩
  rw [← hS, ← hV]
  have HV := Lib.hid hV
  have HS0 : Hid (S = (splitL s.size (posFrom (1, 1) (s.data.toList.take 0)) s.data.toList).map ([] ++ ·)) := by
    unfold Hid
    rw [hS, List.take_zero]
    show splitL s.size (1, 1) s.data.toList = (splitL s.size (1, 1) s.data.toList).map (fun x => [] ++ x)
    cases splitL s.size (1, 1) s.data.toList <;> rfl
  clear hS hV
  have HBF := Lib.hid (Box.new w 30 (faultCells 0 0 0 0))
  have HN0 : Hid (Below w.heap.size w (w.alloc (.cells (faultCells 0 0 0 0) 30))) := below_alloc (Below.refl _ _) (Nat.le_refl _) _
  unfold faultCells at HBF HN0
  have hsI : (s.size : Int) ≤ 20000 := by omega
  clear hL
  go_enter Tryd.func16, Tryd.ntmps16
  go_wp2_with fail
  generalize hw0 : w.alloc (.cells #[.int .i64 0, .int .i64 0, .complex .f64 0 0] 30) = w0 at *
  clear hw0
  refine (HAT.out _).mono ?_
  rintro r w1 ⟨rfl, rfl⟩
  go_wp2_with fail
  go_loopw [0, 6, 7] (fun r p v wr => LandAt s file S w0 r p v wr) (fun r _ _ _ => strLen r)
  case atStart => exact ⟨0, s.size, s, [], by omega, by omega, rfl, rfl, Nat.le_refl _, World.ownsRow_nil _ _ _ _, Below.refl _ _, rfl, HS0⟩
  case round =>
    obtain ⟨k, f, R, acc, hk, hf, rfl, rfl, hacc, hown, hnx, HRD, HS⟩ := hrel
    have HBF1 := Lib.hid (HBF.out.below hnx HBF.out.lt)
    have HNX := Lib.hid hnx
    have HNW := Lib.hid (HN0.out.trans (hnx.mono HN0.out.size))
    have hpl := pos_le (s.data.toList.take k) (1, 1)
    have hp1 := pos_least (s.data.toList.take k) (1, 1) (Nat.le_refl _) (Nat.le_refl _)
    rw [List.length_take, ← Lib.size_eq] at hpl
    have HPA : Hid (∀ n, posFrom (1, 1) (s.data.toList.take (k + n)) = posFrom (posFrom (1, 1) (s.data.toList.take k)) ((s.data.toList.drop k).take n)) := fun n => pos_add _ _ _
    obtain ⟨P, hP⟩ : ∃ P, P = posFrom (1, 1) (s.data.toList.take k) := ⟨_, rfl⟩
    rw [← hP] at HS HPA hpl hp1 ⊢
    clear hP hnx
    by_cases hR : R.size = 0
    · have hRe := str_no R hR
      have hnil : R.data.toList = [] := List.length_eq_zero_iff.1 (by rw [← Lib.size_eq]; exact hR)
      have HE : Hid (V = .ok acc) := by
        unfold Hid
        rw [HV.out, HS.out, hnil, split_nil]
        show Except.ok (acc ++ []) = Except.ok acc
        rw [List.append_nil]
      obtain ⟨hr1, hr2, hr3⟩ := hRe
      obtain ⟨c0, c1, c2, z0, z1, z2, g0⟩ := box_cells HBF1.out
      have hg0 : w.heap.size < w0.heap.size := HBF.out.lt
      have hown3 := ownsRow_setCell_below (ownsRow_setCell_below (ownsRow_setCell_below hown (a := ⟨w.heap.size, 0, none⟩) hg0 (.int .i64 0)) (a := ⟨w.heap.size, 1, none⟩) hg0 (.int .i64 0)) (a := ⟨w.heap.size, 2, none⟩) hg0 (.complex .f64 0 0)
      obtain ⟨A2, c4, rfl, hc4, hl4⟩ := own_form hown3
      have HL4 := Lib.hid (own_base hown3 (Nat.le_of_lt hg0))
      clear hl4 hown hown3 hnil
      go_wp2_with fail
      try simp only [Exit.inBlock, Exit.then]
      refine bodyPost_ret (results_tmp_box rfl _ _ w.heap.size 30 _ rfl (box_trio HBF1.out) _ Tryd.underlying30 rfl faultSize) rfl ?_
      rw [HE.out]
      exact ⟨.inr ⟨acc, A2, c4, rfl, rfl, hc4, HL4.out⟩, set3_below (Nat.le_refl _) HNW.out _ _ _⟩
    · have hne := str_ne R hR
      obtain ⟨hr1, hr2⟩ := hne
      have hRl : R.data.toList ≠ [] := fun e => hR (by rw [Lib.size_eq, e]; rfl)
      have hfl : R.data.toList.length ≤ f := by rw [← Lib.size_eq]; exact hf
      have HFR := Lib.hid fun W hW => HFI.out R W hR (by omega) hW
      have HNB : Hid (∀ G, wr.heap.size ≤ G → ¬ some G = u7.ownBlock) := fun G hG e => by
        have := (hown.lt G e.symm).2
        omega
      have hRz : R.data.toList.length = R.size := (Lib.size_eq R).symm
      have HXR : Hid (∀ n, n ≤ R.size → (R.extract n R.size).data.toList = s.data.toList.drop (k + n) ∧ (R.extract n R.size).size = R.size - n) := fun n hn => ⟨by rw [ext_drop, HRD.out, List.drop_drop], by simp⟩
      have HXB : Hid (∀ (n : Nat) (W : World), n ≤ R.size → Calls Tryd.prog 25 #[.complex .f64 (fl (P.1 : Int)) (fl (P.2 : Int)), .string (R.extract 0 n)] W fun e w' => e = .returned (.complex .f64 (fl ((posFrom (1, 1) (s.data.toList.take (k + n))).1 : Int)) (fl ((posFrom (1, 1) (s.data.toList.take (k + n))).2 : Int))) ∧ W = w') := fun n W hn => by
        have := HBH.out P (R.extract 0 n) W (by simp; omega) hp1.1 (by omega) hp1.2 (by omega)
        rw [ext_take, HRD.out, ← HPA.out n] at this
        exact this
      rcases split_piece hRl hfl P with ⟨hp, hsp⟩ | ⟨x, n, f', hp, hn1, hn2, hf', hsp⟩ | ⟨kk, xl, n, f', hp, hk0, hk1, hk5, hn1, hn2, hf', hsp⟩
      · have HE : Hid (V = .error (3, P)) := by
          unfold Hid
          rw [HV.out, HS.out, hsp]
          rfl
        rw [hp] at HFR
        clear hp hsp hfl hRl hRz
        go_wp2_with fail
        refine (HFR.out _ HNW.out).mono ?_
        rintro r w2 ⟨rfl, hb2⟩
        dsimp only
        unfold pcCells
        have HBF2 := Lib.hid (HBF1.out.step hb2)
        have HNX2 := Lib.hid (below_step HNX.out (Nat.le_refl _) hb2)
        have HNW2 := Lib.hid (below_step HNW.out (Nat.le_refl _) hb2)
        clear hb2 hown
        go_upto_region 7 with (fail)
        have HBF3 := Lib.hid (HBF2.out.alloc (.cells #[.int .i64 0, .string ⟨#[]⟩, .int .i64 0] 67))
        have HNW3 := Lib.hid (below_alloc HNW2.out (Nat.le_refl _) (.cells #[.int .i64 0, .string ⟨#[]⟩, .int .i64 0] 67))
        generalize w2.alloc (.cells #[.int .i64 0, .string ⟨#[]⟩, .int .i64 0] 67) = w3 at *
        obtain ⟨c0, c1, c2, z0, z1, z2, g0⟩ := box_cells HBF3.out
        go_wp2_with fail
        refine bodyPost_ret (results_tmp_box rfl _ _ w.heap.size 30 _ rfl (box_trio HBF3.out) _ Tryd.underlying30 rfl faultSize) rfl ?_
        rw [HE.out]
        exact ⟨.inl ⟨3, P, none, 0, rfl, rfl⟩, set3_below (Nat.le_refl _) HNW3.out _ _ _⟩
      · rw [hp] at HFR
        have hnR : n ≤ R.size := by rw [Lib.size_eq]; exact hn2
        have hnI : (n : Int) ≤ (R.size : Int) := by omega
        have HXN := Lib.hid (HXR.out n hnR)
        have hfz : (R.extract n R.size).size ≤ f' := by
          rw [List.length_drop, ← Lib.size_eq] at hf'
          rw [HXN.out.2]
          exact hf'
        have HXP := Lib.hid fun W => HXB.out n W hnR
        have hpl2 : posFrom P (R.data.toList.take n) = posFrom (1, 1) (s.data.toList.take (k + n)) := by rw [HPA.out n, HRD.out]
        have hdr2 : R.data.toList.drop n = (R.extract n R.size).data.toList := (ext_drop R n).symm
        have HN : Hid (S = (splitL f' (posFrom (1, 1) (s.data.toList.take (k + n))) (R.extract n R.size).data.toList).map (acc ++ ·)) := by
          unfold Hid
          rw [HS.out, hsp, hpl2, hdr2]
        clear hp hsp hfl hRl hRz hpl2 hdr2 hf'
        go_wp2_with fail
        refine (HFR.out _ HNW.out).mono ?_
        rintro r w2 ⟨rfl, hb2⟩
        dsimp only
        unfold pcCells
        have HNX2 := Lib.hid (below_step HNX.out (Nat.le_refl _) hb2)
        have hown2 := own_below hown hb2
        have hw2 := hb2.size
        clear hb2 hown
        go_upto_region 7 with (fail)
        obtain ⟨G, hG⟩ : ∃ G, G = w2.heap.size := ⟨_, rfl⟩
        have hpb := Box.new w2 67 #[.int .i64 0, .string (strOf x), .int .i64 (n : Int)]
        rw [← hG] at hpb
        have HPB := Lib.hid hpb
        have HNX3 := Lib.hid (below_alloc HNX2.out (Nat.le_refl _) (.cells #[.int .i64 0, .string (strOf x), .int .i64 (n : Int)] 67))
        have hown3 := hown2.alloc (.cells #[.int .i64 0, .string (strOf x), .int .i64 (n : Int)] 67)
        have HNG := Lib.hid (HNB.out G (by omega))
        clear hpb hown2 hw2
        rw [← hG]
        generalize w2.alloc (.cells #[.int .i64 0, .string (strOf x), .int .i64 (n : Int)] 67) = w3 at *
        clear hG
        obtain ⟨c0, c1, c2, z0, z1, z2, g0⟩ := box_cells HPB.out
        go_wp2_with fail
        refine (HXP.out _).mono ?_
        rintro r w4 ⟨rfl, rfl⟩
        go_wp2_with fail
        go_roundw
        case rel => exact ⟨k + n, f', R.extract n R.size, acc, by rw [HXN.out.2]; omega, hfz, rfl, rfl, by omega, hown3, HNX3.out, HXN.out.1, HN⟩
        case measure => simp [strLen]; omega
      · rw [hp] at HFR
        have hnR : n ≤ R.size := by rw [Lib.size_eq]; exact hn2
        have hnI : (n : Int) ≤ (R.size : Int) := by omega
        have HXN := Lib.hid (HXR.out n hnR)
        have hfz : (R.extract n R.size).size ≤ f' := by
          rw [List.length_drop, ← Lib.size_eq] at hf'
          rw [HXN.out.2]
          exact hf'
        have HXP := Lib.hid fun W => HXB.out n W hnR
        have hpl2 : posFrom P (R.data.toList.take n) = posFrom (1, 1) (s.data.toList.take (k + n)) := by rw [HPA.out n, HRD.out]
        have hdr2 : R.data.toList.drop n = (R.extract n R.size).data.toList := (ext_drop R n).symm
        have HN : Hid (S = (splitL f' (posFrom (1, 1) (s.data.toList.take (k + n))) (R.extract n R.size).data.toList).map ((acc ++ [(⟨kk, xl, P⟩ : TokV)]) ++ ·)) := by
          unfold Hid
          rw [HS.out, hsp, hpl2, hdr2]
          exact map_map_ok (l := acc) (m := [(⟨kk, xl, P⟩ : TokV)]) (splitL f' (posFrom (1, 1) (s.data.toList.take (k + n))) (R.extract n R.size).data.toList)
        have hxl : (strOf xl).size ≤ 20000 := by
          have := piece_text hp
          rw [strOf_size]
          have h2 : xl.length ≤ R.data.toList.length := this
          omega
        have HCX := Lib.hid fun W => HCL.out (strOf xl) W hxl
        have hkb : (kk == 0) = false := by simpa using hk0
        have hacc2 : acc.length ≤ 20000 := by omega
        clear hp hsp hfl hRl hRz hpl2 hdr2 hf' hxl
        go_wp2_with fail
        refine (HFR.out _ HNW.out).mono ?_
        rintro r w2 ⟨rfl, hb2⟩
        dsimp only
        unfold pcCells
        have HNX2 := Lib.hid (below_step HNX.out (Nat.le_refl _) hb2)
        have hown2 := own_below hown hb2
        have hw2 := hb2.size
        clear hb2 hown
        go_upto_region 7 with (fail)
        obtain ⟨G, hG⟩ : ∃ G, G = w2.heap.size := ⟨_, rfl⟩
        have hpb := Box.new w2 67 #[.int .i64 kk, .string (strOf xl), .int .i64 (n : Int)]
        rw [← hG] at hpb
        have HPB := Lib.hid hpb
        have HNX3 := Lib.hid (below_alloc HNX2.out (Nat.le_refl _) (.cells #[.int .i64 kk, .string (strOf xl), .int .i64 (n : Int)] 67))
        have hown3 := hown2.alloc (.cells #[.int .i64 kk, .string (strOf xl), .int .i64 (n : Int)] 67)
        have HNG := Lib.hid (HNB.out G (by omega))
        clear hpb hown2 hw2
        rw [← hG]
        generalize w2.alloc (.cells #[.int .i64 kk, .string (strOf xl), .int .i64 (n : Int)] 67) = w3 at *
        clear hG
        obtain ⟨c0, c1, c2, z0, z1, z2, g0⟩ := box_cells HPB.out
        go_wp2_with fail
        refine wp_region_noPanic ?_
        refine wp_region_held_drew (S := fun W => W.cell? ⟨G, 0, none⟩ = some (.int .i64 kk) ∧ W.cell? ⟨G, 1, none⟩ = some (.string (strOf xl)) ∧ Below w0.heap.size w0 W) (by kernel_rfl) (⟨c0, c1, HNX3.out.drew⟩) (fun hHeld => ?_)
        refine wpAnyH_take (i := 0) (oi := ⟨some 33, _, _, _, _, _⟩) (v := ?qsv0x1) rfl (by kernel_rfl) (by kernel_rfl) (by kernel_rfl) (fun _ _ _ h => h) (Or.inl ⟨by rfl, ?qsy0x1⟩) (by assumption) ?qsr0x1
        case qsy0x1 => intro w hSw; go_simp; try (with_reducible rfl)
        try simp only [Act.put, List.setIfInBounds_toArray, List.set_cons_zero, List.set_cons_succ]
        refine wpAnyH_take (i := 1) (oi := ⟨some 34, _, _, _, _, _⟩) (v := ?qsv1x2) rfl (by kernel_rfl) (by kernel_rfl) (by kernel_rfl) (fun _ _ _ h => h) (Or.inl ⟨by rfl, ?qsy1x2⟩) (by assumption) ?qsr1x2
        case qsy1x2 => intro w hSw; go_simp; try (with_reducible rfl)
        try simp only [Act.put, List.setIfInBounds_toArray, List.set_cons_zero, List.set_cons_succ]
        refine wpAnyH_take (i := 2) (oi := ⟨some 35, _, _, _, _, _⟩) (v := ?qsv2x3) rfl (by kernel_rfl) (by kernel_rfl) (by kernel_rfl) (fun _ _ _ h => h) (Or.inl ⟨by rfl, ?qsy2x3⟩) (by assumption) ?qsr2x3
        case qsy2x3 => intro w hSw; go_simp; try (with_reducible rfl)
        try simp only [Act.put, List.setIfInBounds_toArray, List.set_cons_zero, List.set_cons_succ]
        refine wpAnyH_take (i := 3) (oi := ⟨some 36, _, _, _, _, _⟩) (v := ?qsv3x4) rfl (by kernel_rfl) (by kernel_rfl) (by kernel_rfl) (fun _ _ _ h => h) (Or.inl ⟨by rfl, ?qsy3x4⟩) (by assumption) ?qsr3x4
        case qsy3x4 => intro w hSw; go_simp; try (with_reducible rfl)
        try simp only [Act.put, List.setIfInBounds_toArray, List.set_cons_zero, List.set_cons_succ]
        refine wpAnyH_take (i := 4) (oi := ⟨some 37, _, _, _, _, _⟩) (v := ?qsv4x5) rfl (by kernel_rfl) (by kernel_rfl) (by kernel_rfl) (fun _ _ _ h => h) (Or.inl ⟨by rfl, ?qsy4x5⟩) (by assumption) ?qsr4x5
        case qsy4x5 => intro w hSw; go_simp; try (with_reducible rfl)
        try simp only [Act.put, List.setIfInBounds_toArray, List.set_cons_zero, List.set_cons_succ]
        refine wpAnyH_take (i := 6) (oi := ⟨some 39, _, _, _, _, _⟩) (v := ?qsv6x6) rfl (by kernel_rfl) (by kernel_rfl) (by kernel_rfl) (fun _ _ _ h => h) (Or.inl ⟨by rfl, ?qsy6x6⟩) (by assumption) ?qsr6x6
        case qsy6x6 => intro w hSw; go_simp; try (with_reducible rfl)
        try simp only [Act.put, List.setIfInBounds_toArray, List.set_cons_zero, List.set_cons_succ]
        refine wpAnyH_take (i := 7) (oi := ⟨some 40, _, _, _, _, _⟩) (v := ?qsv7x7) rfl (by kernel_rfl) (by kernel_rfl) (by kernel_rfl) (fun _ _ _ h => h) (Or.inl ⟨by rfl, ?qsy7x7⟩) (by assumption) ?qsr7x7
        case qsy7x7 => intro w hSw; go_simp; try (with_reducible rfl)
        try simp only [Act.put, List.setIfInBounds_toArray, List.set_cons_zero, List.set_cons_succ]
        refine wpAnyH_ready (rs := [5]) (by kernel_rfl) (by simp) ?_
        refine AllReadyH.cons (o := ⟨some 38, _, _, _, _, _⟩) rfl (fun K hK => ?_) AllReadyH.nil
        go_simp
        refine (HCX.out _).mono ?_
        rintro e w5 ⟨rfl, hb5⟩
        have HPB5 := Lib.hid (HPB.out.drew.step hb5)
        have HNX5 := Lib.hid (below_step HNX3.out.drew (Nat.le_refl _) hb5)
        have hown5 := own_below hown3.drew hb5
        have s0 := HPB5.out.cell 0
        have s1 := HPB5.out.cell 1
        simp only [List.getElem?_toArray, List.getElem?_cons_zero, List.getElem?_cons_succ] at s0 s1
        refine hK.out _ _ ?_ (fun hHeld => ?_)
        · exact ⟨s0, s1, HNX5.out⟩
        clear hK K
        try simp only [Act.put, List.setIfInBounds_toArray, List.set_cons_zero, List.set_cons_succ]
        clear hb5 hown3
        refine wpAnyH_take (i := 8) (oi := ⟨some 41, _, _, _, _, _⟩) (v := ?qsv8x8) rfl (by kernel_rfl) (by kernel_rfl) (by kernel_rfl) (fun _ _ _ h => h) (Or.inl ⟨by rfl, ?qsy8x8⟩) (by assumption) ?qsr8x8
        case qsy8x8 => intro w hSw; go_simp; try (with_reducible rfl)
        try simp only [Act.put, List.setIfInBounds_toArray, List.set_cons_zero, List.set_cons_succ]
        refine wpAnyH_ready (rs := [9]) (by kernel_rfl) (by simp) ?_
        refine AllReadyH.cons (o := ⟨some 42, _, _, _, _, _⟩) rfl (fun K hK => ?_) AllReadyH.nil
        go_simp
        refine hK.out _ _ ?_ (fun hHeld => ?_)
        · exact ⟨(HPB5.out.alloc _).cell 0, (HPB5.out.alloc _).cell 1, below_alloc HNX5.out (Nat.le_refl _) _⟩
        clear hK K
        try simp only [Act.put, List.setIfInBounds_toArray, List.set_cons_zero, List.set_cons_succ]
        refine wpAnyH_ready (rs := [10]) (by kernel_rfl) (by simp) ?_
        refine AllReadyH.cons (o := ⟨some 43, _, _, _, _, _⟩) rfl (fun K hK => ?_) AllReadyH.nil
        refine step_append _ rfl (.tmp 33) (.tmp 42) 26 rfl w0.heap.size 35 i0 _ 4 48 Tryd.underlying26 hi hz0 hz1 hz2 rfl (by omega) _ _ _ rfl (hown5.alloc _) _ (some ⟨w5.heap.size, 0, none⟩) 1 1 (tokVals file ⟨kk, xl, P⟩) rfl (lies_new w5.heap.size 1 4 rfl rfl rfl) (tokVals_one _ _) (by unfold maxLen; omega) (by omega) (by have := HNX5.out.size; simp; omega) ?_
        intro v' w6 hown6 hg6
        have HPB6 := Lib.hid (box_grown (HPB5.out.alloc _) hg6 HNG.out)
        have HNX6 : Hid (Below w0.heap.size w0 w6) := below_grown (below_alloc HNX5.out (Nat.le_refl _) _) (hown5.alloc _) (Nat.le_refl _) (by have := HNX5.out.size; simp; omega) hg6
        obtain ⟨d0, d1, d2, e0, e1, e2, gg⟩ := box_cells HPB6.out
        refine hK.out _ _ ?_ (fun hHeld => ?_)
        · exact ⟨d0, d1, HNX6.out⟩
        clear hK K
        try simp only [Act.put, List.setIfInBounds_toArray, List.set_cons_zero, List.set_cons_succ]
        refine wpAnyH_take (i := 11) (oi := ⟨some 7, _, _, _, _, _⟩) (v := ?qsv11x9) rfl (by kernel_rfl) (by kernel_rfl) (by kernel_rfl) (fun _ _ _ h => h) (Or.inl ⟨by rfl, ?qsy11x9⟩) (by assumption) ?qsr11x9
        case qsy11x9 => intro w hSw; go_simp; try (with_reducible rfl)
        try simp only [Act.put, List.setIfInBounds_toArray, List.set_cons_zero, List.set_cons_succ]
        refine wpAnyH_done (by kernel_rfl) ?_ _
        refine NoPanic.normal ?_
        have hown7 : w6.ownsRow w0.heap.size 35 4 v' (acc ++ [(⟨kk, xl, P⟩ : TokV)]).length (toksV file (acc ++ [(⟨kk, xl, P⟩ : TokV)])) := by
          rw [toksV_snoc, List.length_append]
          exact hown6
        clear hg6 hown6 hown5
        go_wp2_with fail
        refine (HXP.out _).mono ?_
        rintro r w7 ⟨rfl, rfl⟩
        go_wp2_with fail
        go_roundw
        case rel => exact ⟨k + n, f', R.extract n R.size, acc ++ [(⟨kk, xl, P⟩ : TokV)], by rw [HXN.out.2]; omega, hfz, rfl, rfl, by simp; omega, hown7, HNX6.out, HXN.out.1, HN⟩
        case measure => simp [strLen]; omega

end Go.Proofs.YtdjhpgpekomjeaaDoor
