/- What the document's own clean gives. -/
import Derived.Test.YtdjhpgpekomjeaaGreatDoorPart2
namespace Go.Proofs.YtdjhpgpekomjeaaGreatDoor
open Go.RowKit

def tot (l : List (List UInt8)) : Nat := (l.map fun x => x.length + 1).sum
theorem tot_nil : tot [] = 0 := rfl
theorem tot_cons (x : List UInt8) (l : List (List UInt8)) : tot (x :: l) = x.length + 1 + tot l := by simp [tot]
theorem tot_snoc (l : List (List UInt8)) (x : List UInt8) : tot (l ++ [x]) = tot l + (x.length + 1) := by simp [tot]
theorem tot_append (l m : List (List UInt8)) : tot (l ++ m) = tot l + tot m := by simp [tot]
theorem tot_drop {ps : List (List UInt8)} {k : Nat} {p : List UInt8} (h : ps[k]? = some p) : tot (ps.drop k) = p.length + 1 + tot (ps.drop (k + 1)) := by
  obtain ⟨hk, e⟩ := List.getElem?_eq_some_iff.1 h
  rw [List.drop_eq_getElem_cons hk, e, tot_cons]
theorem tot_last : ∀ l : List (List UInt8), tot l.dropLast ≤ tot l
  | [] => Nat.le_refl _
  | [x] => by simp [tot]
  | x :: y :: l => by
    have := tot_last (y :: l)
    rw [List.dropLast_cons_cons, tot_cons, tot_cons]
    omega
theorem tot_take (l : List (List UInt8)) (k : Nat) : tot (l.take k) ≤ tot l := by
  have : tot l = tot (l.take k) + tot (l.drop k) := by rw [← tot_append, List.take_append_drop]
  omega
theorem tot_len (l : List (List UInt8)) : l.length ≤ tot l := by
  induction l with
  | nil => exact Nat.le_refl _
  | cons x l ih => rw [tot_cons, List.length_cons]; omega
theorem join_len : ∀ l : List (List UInt8), (joinOf l).length ≤ tot l
  | [] => Nat.le_refl _
  | x :: l => by
    have h : ∀ r : List (List UInt8), (r.flatMap fun y => (47 : UInt8) :: y).length = tot r := by
      intro r
      induction r with
      | nil => rfl
      | cons y r ih => rw [List.flatMap_cons, List.length_append, ih, tot_cons, List.length_cons]
    rw [joinOf, List.length_append, h, tot_cons]
    omega
theorem join_step (l : List (List UInt8)) (k : Nat) (x : List UInt8) (h : l[k]? = some x) (hk : 1 ≤ k) : joinOf (l.take (k + 1)) = joinOf (l.take k) ++ 47 :: x := by
  cases l with
  | nil => simp at h
  | cons y l =>
    obtain ⟨j, rfl⟩ : ∃ j, k = j + 1 := ⟨k - 1, by omega⟩
    have h' : l[j]? = some x := by simpa using h
    rw [List.take_succ_cons, List.take_succ_cons, joinOf, joinOf, take_one h', List.flatMap_append]
    simp

/-- What a function that hands back a text and a bool gives. -/
def StrBool (t : List UInt8 × Bool) (w : World) : Ending → World → Prop := fun r w' => r = .returned (.tuple #[.string (strOf t.1), .bool t.2]) ∧ Below w.heap.size w w'

/-- Where the first loop stands. -/
def Cleaning (ps : List (List UInt8)) (n T : Nat) (w : World) (v i : Value) (wr : World) : Prop :=
  ∃ (k : Nat) (L : List (List UInt8)) (Al : Option Addr) (cl : Nat), k ≤ n ∧ i = .int .i64 k ∧ v = .slice Al L.length cl ∧ L.length ≤ cl ∧ Lies wr wr.heap.size 1 Al L.length (strsV L) ∧ L.length ≤ k ∧
    tot L + tot (ps.drop k) ≤ T ∧ Hid (cleanFrom [] ps = cleanFrom L (ps.drop k)) ∧ Below w.heap.size w wr

theorem infoStrC : (Tryz.prog.info? 9).map (fun i => (i.zero, i.size, i.bytes)) = some (some (.string ⟨#[]⟩), 1, 16) := by kernel_rfl

set_option maxRecDepth 100000 in
set_option maxHeartbeats 8000000 in
theorem clean_any (A : Option Addr) (n c : Nat) (ps : List (List UInt8)) (w : World) (hl : Lies w w.heap.size 1 A n (strsV ps)) (hT : tot ps ≤ 4398046511104) :
    Calls Tryz.prog 41 #[.slice A n c] w (StrBool (cleanOf ps) w) := by
  obtain ⟨i0, hi, hz0, hz1, hz2⟩ := info_parts infoStrC
  have hln : ps.length = n := by have := hl.1; rw [strsV_len] at this; omega
  have HLN := Lib.hid hln
  have HL := Lib.hid hl
  have hn : n ≤ 4398046511104 := by have := tot_len ps; omega
  obtain ⟨R, hR⟩ : ∃ R, R = cleanOf ps := ⟨_, rfl⟩
  have HR : Hid (R = cleanEnd (cleanFrom [] ps)) := hR
  rw [← hR]
  clear hln hl hR
  go_enter Tryz.func41, Tryz.ntmps41
  go_wp2
  go_loopw [4, 5] (fun v i wr => Cleaning ps n 4398046511104 w v i wr) (fun _ i _ => n - (intOf i).toNat)
  case atStart => exact ⟨0, [], none, 0, by omega, rfl, rfl, Nat.le_refl _, Lies.empty _ _ _ _, Nat.le_refl _, by simpa [tot_nil] using hT, rfl, Below.refl _ _⟩
  case round =>
    obtain ⟨k, L, Al, cl, hk, rfl, rfl, hcl, hl, hLk, htt, HCF, hnx⟩ := hrel
    have hsz := hnx.size
    by_cases hlt : k < n
    · obtain ⟨p, hp⟩ : ∃ p, ps[k]? = some p := ⟨_, List.getElem?_eq_getElem (by have := HLN.out; omega)⟩
      obtain ⟨b, o, rfl, hb, hc⟩ := HL.out.2 (by omega)
      have hbw : b < wr.heap.size := by omega
      have HF : ∀ W : World, Below w.heap.size w W → W.cell? ⟨b, o + k, none⟩ = some (.string (strOf p)) := fun W hW => (hW.cell (p := ⟨b, o + k, none⟩) hb).trans (hc k _ (by simp only [strsV, List.getElem?_map, hp]; rfl))
      have e0 := HF wr hnx
      have hdr := clean_drop (l := L) hp
      have htd := tot_drop hp
      have HDR := Lib.hid hdr
      have hst : (strOf p).toList = p := strOf_toList p
      have HST := Lib.hid hst
      clear hc hdr hst hp
      by_cases q0 : p = []
      · have HN : Hid (cleanFrom [] ps = cleanFrom L (ps.drop (k + 1))) := by
          unfold Hid
          rw [HCF.out, HDR.out, cleanStep, if_pos (.inl q0)]
        have s1 : (strOf p).toList.isEmpty = true := by rw [HST.out, q0]; rfl
        have s2 : ((strOf p).toList == []) = true := by rw [HST.out, q0]; rfl
        clear q0 HCF
        go_wp2
        go_roundw
        case rel => exact ⟨k + 1, L, Al, cl, by omega, by go_num, rfl, hcl, hl, by omega, by omega, HN, hnx⟩
        case measure => simp [intOf]; omega
      have s1 : (strOf p).toList.isEmpty = false := by
        rw [HST.out]
        cases p with
        | nil => exact absurd rfl q0
        | cons a l => rfl
      have s2 : ((strOf p).toList == []) = false := by
        rw [HST.out]
        cases p with
        | nil => exact absurd rfl q0
        | cons a l => rfl
      by_cases q1 : p = [46]
      · have HN : Hid (cleanFrom [] ps = cleanFrom L (ps.drop (k + 1))) := by
          unfold Hid
          rw [HCF.out, HDR.out, cleanStep, if_pos (.inr q1)]
        have s3 : ((strOf p).toList == [46]) = true := by rw [HST.out, q1]; rfl
        clear q0 q1 HCF
        go_wp2
        go_roundw
        case rel => exact ⟨k + 1, L, Al, cl, by omega, by go_num, rfl, hcl, hl, by omega, by omega, HN, hnx⟩
        case measure => simp [intOf]; omega
      have s3 : ((strOf p).toList == [46]) = false := by rw [HST.out]; simpa using q1
      by_cases q2 : p = [46, 46]
      · have s4 : ((strOf p).toList == [46, 46]) = true := by rw [HST.out, q2]; rfl
        by_cases q3 : L = []
        · have HN : Hid (R = ([], false)) := by
            unfold Hid
            rw [HR.out, HCF.out, HDR.out, cleanStep, if_neg (by rintro (h | h); exact q0 h; exact q1 h), if_pos q2, if_pos q3]
            rfl
          have hL0 : L.length = 0 := by rw [q3]; rfl
          have hL1 : ((L.length : Int) == 0) = true := by rw [hL0]; rfl
          clear q0 q1 q2 q3 HCF hL0
          go_wp2
          go_ret2
          exact ⟨by rw [HN.out]; rfl, hnx⟩
        · have HN : Hid (cleanFrom [] ps = cleanFrom L.dropLast (ps.drop (k + 1))) := by
            unfold Hid
            rw [HCF.out, HDR.out, cleanStep, if_neg (by rintro (h | h); exact q0 h; exact q1 h), if_pos q2, if_neg q3]
          have hL0 : 1 ≤ L.length := by
            cases L with
            | nil => exact absurd rfl q3
            | cons a l => simp
          have hL1 : ((L.length : Int) == 0) = false := by rw [beq_eq_false_iff_ne]; omega
          have n1 : IntKind.i64.wrap ((L.length : Int) - 1) = (L.length : Int) - 1 := IntWalk.i64_in _ (by omega)
          have n2 : ((L.length : Int) - 1).toNat = L.length - 1 := by omega
          have n3 : (0 : Int) ≤ (L.length : Int) - 1 := by omega
          have n4 : (L.length : Int) - 1 ≤ (cl : Int) := by omega
          have n5 : (1 : Int) ≤ (L.length : Int) := by omega
          have htl := tot_last L
          have hdl : L.dropLast.length = L.length - 1 := List.length_dropLast
          have hfr : Lies wr wr.heap.size 1 Al (L.length - 1) (strsV L.dropLast) := by
            rw [List.dropLast_eq_take]
            exact strs_front hl _ (by omega)
          obtain ⟨b2, o2, rfl, _, _⟩ := hl.2 (by omega)
          clear q0 q1 q2 q3 HCF
          go_wp2
          go_roundw
          case rel => exact ⟨k + 1, L.dropLast, _, cl, by omega, by go_num, by rw [hdl], by omega, by rw [hdl]; exact hfr, by omega, by omega, HN, hnx⟩
          case measure => simp [intOf]; omega
      · have s4 : ((strOf p).toList == [46, 46]) = false := by rw [HST.out]; simpa using q2
        have HCN : Hid (cleanFrom [] ps = cleanFrom (L ++ [p]) (ps.drop (k + 1))) := by
          unfold Hid
          rw [HCF.out, HDR.out, cleanStep, if_neg (by rintro (h | h); exact q0 h; exact q1 h), if_neg q2]
        have HTT : Hid (tot (L ++ [p]) + tot (ps.drop (k + 1)) ≤ 4398046511104) := by
          unfold Hid
          rw [tot_snoc]
          omega
        clear q0 q1 q2 HCF e0
        go_wp2_with fail
        refine wp_region_noPanic ?_
        refine wp_region_held_drew (S := fun W => Below w.heap.size w W) (by kernel_rfl) (hnx.drew) (fun hHeld => ?_)
        refine wpAnyH_take (i := 0) (oi := ⟨some 18, _, _, _, _, _⟩) (v := ?zv0x1) rfl (by kernel_rfl) (by kernel_rfl) (by kernel_rfl) (fun _ _ _ h => h) (Or.inl ⟨by rfl, ?zy0x1⟩) (by assumption) ?zr0x1
        case zy0x1 => intro w hSw; go_simp; try (with_reducible rfl)
        try simp only [Act.put, List.setIfInBounds_toArray, List.set_cons_zero, List.set_cons_succ]
        refine wpAnyH_take (i := 2) (oi := ⟨some 20, _, _, _, _, _⟩) (v := ?zv2x2) rfl (by kernel_rfl) (by kernel_rfl) (by kernel_rfl) (fun _ _ _ h => h) (Or.inl ⟨by rfl, ?zy2x2⟩) (by assumption) ?zr2x2
        case zy2x2 => intro w hSw; go_simp; try (with_reducible rfl)
        try simp only [Act.put, List.setIfInBounds_toArray, List.set_cons_zero, List.set_cons_succ]
        refine wpAnyH_take (i := 3) (oi := ⟨some 21, _, _, _, _, _⟩) (v := ?zv3x3) rfl (by kernel_rfl) (by kernel_rfl) (by kernel_rfl) (fun _ _ _ h => h) (Or.inl ⟨by rfl, ?zy3x3⟩) (by assumption) ?zr3x3
        case zy3x3 => intro w hSw; go_simp; try (with_reducible rfl)
        try simp only [Act.put, List.setIfInBounds_toArray, List.set_cons_zero, List.set_cons_succ]
        refine wpAnyH_take (i := 4) (oi := ⟨some 22, _, _, _, _, _⟩) (v := ?zv4x4) rfl (by kernel_rfl) (by kernel_rfl) (by kernel_rfl) (fun _ _ _ h => h) (Or.inl ⟨by rfl, ?zy4x4⟩) (by assumption) ?zr4x4
        case zy4x4 => intro w hSw; go_simp; try (with_reducible rfl)
        try simp only [Act.put, List.setIfInBounds_toArray, List.set_cons_zero, List.set_cons_succ]
        refine wpAnyH_take (i := 5) (oi := ⟨some 23, _, _, _, _, _⟩) (v := ?zv5x5) rfl (by kernel_rfl) (by kernel_rfl) (by kernel_rfl) (fun _ _ _ h => h) (Or.inl ⟨by rfl, ?zy5x5⟩) (by assumption) ?zr5x5
        case zy5x5 => intro w hSw; go_simp; try (with_reducible rfl)
        try simp only [Act.put, List.setIfInBounds_toArray, List.set_cons_zero, List.set_cons_succ]
        refine wpAnyH_ready (rs := [1, 6]) (by kernel_rfl) (by simp) ?_
        refine (AllReadyH.cons (o := ⟨some 19, _, _, _, _, _⟩) rfl (fun K hK => ?_) (AllReadyH.cons (o := ⟨some 24, _, _, _, _, _⟩) rfl (fun K hK => ?_) AllReadyH.nil))
        · refine step_append _ rfl (.const (.slice none 0 0)) (.tmp 18) 77 rfl _ 9 i0 _ 1 16 Tryz.underlying77 hi hz0 hz1 hz2 rfl (by omega) (.slice none 0 0) 0 [] rfl (World.ownsRow_nil _ _ _ _) _ Al L.length cl (strsV L) rfl (by first | exact hl.below (Below.refl _ _).drew | exact hl.below ((Below.refl _ _).alloc (Nat.le_refl _) _).drew) (strsV_one L) (by unfold maxLen; omega) (by omega) (Nat.le_refl _) ?_
          intro v5 w5 hown5 hg5
          have hb5 := below_grown (Below.refl _ _) (World.ownsRow_nil _ _ 9 1) (Nat.le_refl _) (Nat.le_refl _) hg5
          have hn5 : Below w.heap.size w w5 := Below.trans hHeld (hb5.mono (Below.size hHeld))
          refine hK.out _ _ ?_ (fun hHeld => ?_)
          · exact hn5
          clear hK K
          try simp only [Act.put, List.setIfInBounds_toArray, List.set_cons_zero, List.set_cons_succ]
          refine wpAnyH_ready (rs := [6]) (by kernel_rfl) (by simp) ?_
          refine AllReadyH.cons (o := ⟨some 24, _, _, _, _, _⟩) rfl (fun K hK => ?_) AllReadyH.nil
          go_simp
          refine hK.out _ _ ?_ (fun hHeld => ?_)
          · exact Below.alloc hHeld (Below.size hHeld) _
          clear hK K
          try simp only [Act.put, List.setIfInBounds_toArray, List.set_cons_zero, List.set_cons_succ]
          refine wpAnyH_ready (rs := [7]) (by kernel_rfl) (by simp) ?_
          refine AllReadyH.cons (o := ⟨some 25, _, _, _, _, _⟩) rfl (fun K hK => ?_) AllReadyH.nil
          refine step_append _ rfl (.tmp 19) (.tmp 24) 77 rfl _ 9 i0 _ 1 16 Tryz.underlying77 hi hz0 hz1 hz2 rfl (by omega) v5 _ _ rfl (by first | exact hown5.alloc _ | exact hown5) _ (some ⟨_, 0, none⟩) 1 1 [.string (strOf p)] rfl (by first | exact lies_new _ 1 1 rfl rfl rfl | exact ((lies_new (w := wr) wr.heap.size 1 1 rfl rfl rfl).below (Below.refl _ _).drew).below hb5) (strsV_one [p]) (by unfold maxLen; omega) (by omega) (by first | exact hb5.size | exact Nat.le_trans hb5.size (by simp)) ?_
          intro v6 w6 hown6 hg6
          have hn6 : Below w.heap.size w w6 := by
            first
            | exact below_grown hHeld (hown5.alloc _) (by first | exact hnx.size | (simp; omega)) (Below.size hHeld) hg6
            | exact below_grown hHeld hown5 (by first | exact hnx.size | (simp; omega)) (Below.size hHeld) hg6
          obtain ⟨A6, c6, rfl, hc6, hl6⟩ := own_form hown6
          have hl7 : Lies w6 w6.heap.size 1 A6 (L ++ [p]).length (strsV (L ++ [p])) := by
            rw [strsV_snoc, List.length_append]
            simpa using hl6
          have hc7 : (L ++ [p]).length ≤ c6 := by simpa using hc6
          clear hown6 hg6 hl6 hc6
          refine hK.out _ _ ?_ (fun hHeld => ?_)
          · exact hn6
          clear hK K
          try simp only [Act.put, List.setIfInBounds_toArray, List.set_cons_zero, List.set_cons_succ]
          refine wpAnyH_take (i := 8) (oi := ⟨some 4, _, _, _, _, _⟩) (v := ?zv8x6) rfl (by kernel_rfl) (by kernel_rfl) (by kernel_rfl) (fun _ _ _ h => h) (Or.inl ⟨by rfl, ?zy8x6⟩) (by assumption) ?zr8x6
          case zy8x6 => intro w hSw; go_simp; try (with_reducible rfl)
          try simp only [Act.put, List.setIfInBounds_toArray, List.set_cons_zero, List.set_cons_succ]
          refine wpAnyH_done (by kernel_rfl) ?_ _
          refine NoPanic.normal ?_
          go_wp2
          go_roundw
          case rel => exact ⟨k + 1, L ++ [p], A6, c6, by omega, by go_num, by simp, hc7, hl7, by simp; omega, HTT.out, HCN, hn6⟩
          case measure => simp [intOf]; omega
        · go_simp
          refine hK.out _ _ ?_ (fun hHeld => ?_)
          · exact Below.alloc hHeld (Below.size hHeld) _
          clear hK K
          try simp only [Act.put, List.setIfInBounds_toArray, List.set_cons_zero, List.set_cons_succ]
          refine wpAnyH_ready (rs := [1]) (by kernel_rfl) (by simp) ?_
          refine AllReadyH.cons (o := ⟨some 19, _, _, _, _, _⟩) rfl (fun K hK => ?_) AllReadyH.nil
          refine step_append _ rfl (.const (.slice none 0 0)) (.tmp 18) 77 rfl _ 9 i0 _ 1 16 Tryz.underlying77 hi hz0 hz1 hz2 rfl (by omega) (.slice none 0 0) 0 [] rfl (World.ownsRow_nil _ _ _ _) _ Al L.length cl (strsV L) rfl (by first | exact hl.below (Below.refl _ _).drew | exact hl.below ((Below.refl _ _).alloc (Nat.le_refl _) _).drew) (strsV_one L) (by unfold maxLen; omega) (by omega) (Nat.le_refl _) ?_
          intro v5 w5 hown5 hg5
          have hb5 := below_grown (Below.refl _ _) (World.ownsRow_nil _ _ 9 1) (Nat.le_refl _) (Nat.le_refl _) hg5
          have hn5 : Below w.heap.size w w5 := Below.trans hHeld (hb5.mono (Below.size hHeld))
          refine hK.out _ _ ?_ (fun hHeld => ?_)
          · exact hn5
          clear hK K
          try simp only [Act.put, List.setIfInBounds_toArray, List.set_cons_zero, List.set_cons_succ]
          refine wpAnyH_ready (rs := [7]) (by kernel_rfl) (by simp) ?_
          refine AllReadyH.cons (o := ⟨some 25, _, _, _, _, _⟩) rfl (fun K hK => ?_) AllReadyH.nil
          refine step_append _ rfl (.tmp 19) (.tmp 24) 77 rfl _ 9 i0 _ 1 16 Tryz.underlying77 hi hz0 hz1 hz2 rfl (by omega) v5 _ _ rfl (by first | exact hown5.alloc _ | exact hown5) _ (some ⟨_, 0, none⟩) 1 1 [.string (strOf p)] rfl (by first | exact lies_new _ 1 1 rfl rfl rfl | exact ((lies_new (w := wr) wr.heap.size 1 1 rfl rfl rfl).below (Below.refl _ _).drew).below hb5) (strsV_one [p]) (by unfold maxLen; omega) (by omega) (by first | exact hb5.size | exact Nat.le_trans hb5.size (by simp)) ?_
          intro v6 w6 hown6 hg6
          have hn6 : Below w.heap.size w w6 := by
            first
            | exact below_grown hHeld (hown5.alloc _) (by first | exact hnx.size | (simp; omega)) (Below.size hHeld) hg6
            | exact below_grown hHeld hown5 (by first | exact hnx.size | (simp; omega)) (Below.size hHeld) hg6
          obtain ⟨A6, c6, rfl, hc6, hl6⟩ := own_form hown6
          have hl7 : Lies w6 w6.heap.size 1 A6 (L ++ [p]).length (strsV (L ++ [p])) := by
            rw [strsV_snoc, List.length_append]
            simpa using hl6
          have hc7 : (L ++ [p]).length ≤ c6 := by simpa using hc6
          clear hown6 hg6 hl6 hc6
          refine hK.out _ _ ?_ (fun hHeld => ?_)
          · exact hn6
          clear hK K
          try simp only [Act.put, List.setIfInBounds_toArray, List.set_cons_zero, List.set_cons_succ]
          refine wpAnyH_take (i := 8) (oi := ⟨some 4, _, _, _, _, _⟩) (v := ?zv8x7) rfl (by kernel_rfl) (by kernel_rfl) (by kernel_rfl) (fun _ _ _ h => h) (Or.inl ⟨by rfl, ?zy8x7⟩) (by assumption) ?zr8x7
          case zy8x7 => intro w hSw; go_simp; try (with_reducible rfl)
          try simp only [Act.put, List.setIfInBounds_toArray, List.set_cons_zero, List.set_cons_succ]
          refine wpAnyH_done (by kernel_rfl) ?_ _
          refine NoPanic.normal ?_
          go_wp2
          go_roundw
          case rel => exact ⟨k + 1, L ++ [p], A6, c6, by omega, by go_num, by simp, hc7, hl7, by simp; omega, HTT.out, HCN, hn6⟩
          case measure => simp [intOf]; omega
    · obtain rfl : k = n := by omega
      have hall : ps.drop k = [] := List.drop_eq_nil_of_le (by have := HLN.out; omega)
      have HC : Hid (R = cleanEnd (some L)) := by
        unfold Hid
        rw [HR.out, HCF.out, hall]
        rfl
      rw [hall, tot_nil] at htt
      clear HCF hall HL HLN HR
      by_cases q3 : L = []
      · have HN : Hid (R = ([], false)) := by
          unfold Hid
          rw [HC.out, q3]
          rfl
        have hL0 : L.length = 0 := by rw [q3]; rfl
        have hL1 : ((L.length : Int) == 0) = true := by rw [hL0]; rfl
        clear q3 HC hL0
        go_wp2
        go_ret2
        exact ⟨by rw [HN.out]; rfl, hnx⟩
      · have hL0 : 1 ≤ L.length := by
          cases L with
          | nil => exact absurd rfl q3
          | cons a l => simp
        have hL1 : ((L.length : Int) == 0) = false := by rw [beq_eq_false_iff_ne]; omega
        have hL2 : (0 : Int) < (L.length : Int) := by omega
        have HN : Hid (R = (joinOf L, true)) := by
          unfold Hid
          rw [HC.out]
          cases L with
          | nil => exact absurd rfl q3
          | cons a l => rfl
        obtain ⟨x0, hx0⟩ : ∃ x, L[0]? = some x := ⟨_, List.getElem?_eq_getElem (by omega)⟩
        have h1 : joinOf (L.take 1) = x0 := by
          cases L with
          | nil => exact absurd rfl q3
          | cons a l =>
            obtain rfl : a = x0 := by simpa using hx0
            simp [joinOf]
        obtain ⟨b, o, rfl, hb, hc⟩ := hl.2 (by omega)
        have e0 := hc 0 _ (show (strsV L)[0]? = some (.string (strOf x0)) by simp only [strsV, List.getElem?_map, hx0]; rfl)
        rw [Nat.add_zero] at e0
        have HCC : Hid (∀ (j : Nat) (x : List UInt8), L[j]? = some x → wr.cell? ⟨b, o + j, none⟩ = some (.string (strOf x))) := fun j x hx => hc j _ (by simp only [strsV, List.getElem?_map, hx]; rfl)
        have H1 := Lib.hid h1
        have hLk : L.length ≤ 4398046511104 := by have := tot_len L; omega
        clear q3 HC hc hx0 h1
        obtain ⟨M, hM⟩ : ∃ M, M = L.length := ⟨_, rfl⟩
        rw [← hM] at hL0 hL1 hL2 hLk hcl ⊢
        have HM : Hid (L.length = M) := hM.symm
        clear hM hl
        go_wp2_with fail
        go_loop [6, 7] (fun s i => ∃ m : Nat, 1 ≤ m ∧ m ≤ M ∧ i = .int .i64 m ∧ s = .string (strOf (joinOf (L.take m)))) (fun _ i => M - (intOf i).toNat)
        case atStart => exact ⟨1, Nat.le_refl _, hL0, rfl, by rw [H1.out]⟩
        case round =>
          obtain ⟨m, hm1, hm2, rfl, rfl⟩ := hrel
          by_cases hlm : m < M
          · obtain ⟨x, hx⟩ : ∃ x, L[m]? = some x := ⟨_, List.getElem?_eq_getElem (by have := HM.out; omega)⟩
            have e1 := HCC.out m x hx
            have hj := join_step L m x hx hm1
            have HJ : Hid (strOf (joinOf (L.take m)) ++ (⟨#[47]⟩ : ByteArray) ++ strOf x = strOf (joinOf (L.take (m + 1)))) := by
              unfold Hid
              rw [hj, show (⟨#[47]⟩ : ByteArray) = strOf [47] from rfl]
              unfold strOf
              simp only [strOf_append, List.append_assoc]
              rfl
            have z0 : (strOf (joinOf (L.take m))).size ≤ 4398046511104 := by
              rw [strOf_size]
              have h1 := join_len (L.take m)
              have h2 := tot_take L m
              omega
            have z1 : (strOf x).size ≤ 4398046511104 := by
              rw [strOf_size]
              have h1 := tot_drop hx
              have h2 : tot L = tot (L.take m) + tot (L.drop m) := by rw [← tot_append, List.take_append_drop]
              omega
            have z2 : (strOf (joinOf (L.take m)) ++ (⟨#[47]⟩ : ByteArray)).size ≤ 4398046511105 := by
              rw [ByteArray.size_append]
              have : (⟨#[47]⟩ : ByteArray).size = 1 := rfl
              omega
            clear hx hj
            obtain ⟨J, hJ⟩ : ∃ J, J = strOf (joinOf (L.take m)) := ⟨_, rfl⟩
            rw [← hJ] at HJ z0 z2 ⊢
            clear hJ
            go_wp2
            go_round
            case rel => exact ⟨m + 1, by omega, by omega, by go_num, by rw [HJ.out]⟩
            case measure => simp [intOf]; omega
          · obtain rfl : m = M := by omega
            have hta : L.take m = L := List.take_of_length_le (by have := HM.out; omega)
            rw [hta]
            go_wp2
            go_ret2
            exact ⟨by rw [HN.out]; rfl, hnx⟩

end Go.Proofs.YtdjhpgpekomjeaaGreatDoor
