/- The landed Clean against the document's. -/
import Derived.Test.YtdjhpgpekomjeaaDoorFileSt
import Derived.RangeFuncNested
import Derived.RangeFuncBound
import Derived.RangeFuncCalls
import Derived.Shelf.RegionOpen
namespace Go.Proofs.YtdjhpgpekomjeaaDoor
open Go.RowKit

attribute [local go_sem] Oper.semAt_some

theorem infoByteF : (Tryd.prog.info? 5).map (fun i => (i.zero, i.size, i.bytes)) = some (some (.int .u8 0), 1, 1) := by kernel_rfl

/-- Between two rounds. -/
def Between (w : World) (pre : List (List UInt8)) (W : World) : Prop := ∃ v L, Hid (cleanFrom [] pre = some L) ∧ Cl w v (flat L) W
/-- A round has left by a return: one part led too far up. -/
def Left (w : World) (c : Code) (pre : List (List UInt8)) (W : World) : Prop :=
  c = .ret ∧ cleanFrom [] pre = none ∧ Boxed W w.heap.size 9 (.string ⟨#[]⟩) ∧ Boxed W (w.heap.size + 1) 4 (.bool false) ∧ Below w.heap.size w W

theorem between_own (w : World) (B : Nat) (hB : w.heap.size ≤ B) : OwnFrom B (Between w) := fun _ _ _ _ hs hg hr => by
  obtain ⟨v, L, h, hc⟩ := hs
  exact ⟨v, L, h, hc.own hg fun r e => ⟨Nat.le_trans hB (hr r e).1, (hr r e).2⟩⟩
theorem left_own (w : World) (B : Nat) (hB : w.heap.size ≤ B) (c : Code) : OwnFrom B (Left w c) := fun _ _ _ _ hs hg hr => by
  obtain ⟨h1, h2, h3, h4, h5⟩ := hs
  exact ⟨h1, h2, boxed_own' h3 hg fun r e => (hr r e).2, boxed_own' h4 hg fun r e => (hr r e).2, h5.grown hg h5.size fun r e => Nat.le_trans hB (hr r e).1⟩

theorem from_one {pre L : List (List UInt8)} (x : List UInt8) (h : cleanFrom [] pre = some L) : cleanFrom [] (pre ++ [x]) = cleanStep L x := by
  rw [from_append, h]
  show cleanFrom L [x] = _
  rw [cleanFrom]
  cases cleanStep L x <;> rfl

theorem keeps_put {w : World} {B : Nat} (hB : B + 3 ≤ w.heap.size) (W : World) (l : Nat) (o o' : Obj) (hl : w.heap.size ≤ l) (_ : W.heap[l]? = some o) (_ : o.isCells = false) : KeepsBoxes B W (W.putObj l o') := fun k _ _ h2 hk => (World.putObj_heap_other (by omega)).trans hk

/-- The two results are laid; then the loop's own block is turned once more. -/
theorem Cl.ends {w W : World} {v : Value} {t : List UInt8} {D : Nat} (h : Cl w v t W) (hD : w.heap.size + 2 ≤ D) (hK : W.heap[D]? = some (.deferred (some []))) (T : ByteArray) (b : Bool) :
    ∃ W2, W2 = (W.setCell ⟨w.heap.size, 0, none⟩ (.string T)).setCell ⟨w.heap.size + 1, 0, none⟩ (.bool b) ∧ W2.heap[D]? = some (.deferred (some [])) ∧
      (W2.putObj D (.deferred none)).cell? ⟨w.heap.size, 0, none⟩ = some (.string T) ∧ (W2.putObj D (.deferred none)).cell? ⟨w.heap.size + 1, 0, none⟩ = some (.bool b) ∧ Below w.heap.size w (W2.putObj D (.deferred none)) := by
  have b0 := (h.text.set (.string T)).kept (grownBy_setCell' _ (w.heap.size + 1) (.bool b)) (by simp)
  have b1 := (h.ok.kept (grownBy_setCell' W w.heap.size (.string T)) (by simp)).set (.bool b)
  have hB := (h.below.setCell (p := ⟨w.heap.size, 0, none⟩) (Nat.le_refl _) (.string T)).setCell (p := ⟨w.heap.size + 1, 0, none⟩) (by simp) (.bool b)
  have hK2 : ((W.setCell ⟨w.heap.size, 0, none⟩ (.string T)).setCell ⟨w.heap.size + 1, 0, none⟩ (.bool b)).heap[D]? = some (.deferred (some [])) :=
    (Below.heap_setCell _ _ _ _ (by simp only; omega)).trans ((Below.heap_setCell _ _ _ _ (by simp only; omega)).trans hK)
  refine ⟨_, rfl, hK2, ?_, ?_, ?_⟩
  · exact (boxed_own' b0 (grownBy_putObj' _ D (.deferred none)) (fun r e => by cases e; exact ⟨_, hK2, rfl⟩)).cell
  · exact (boxed_own' b1 (grownBy_putObj' _ D (.deferred none)) (fun r e => by cases e; exact ⟨_, hK2, rfl⟩)).cell
  · exact hB.trans (belowK_b (w := w) (Nat.le_refl _) _ D _ _ (by omega) hK2 rfl rfl)

theorem KeepsBoxes.alloc (B : Nat) (W : World) (o : Obj) : KeepsBoxes B W (W.alloc o) := fun k _ _ _ hk => (Below.heap_alloc W o k (Array.getElem?_eq_some_iff.1 hk).1).trans hk

theorem grow_one {w : World} {B : Nat} {v : Value} {l : List UInt8} (h : w.ownsRow B 5 1 v (l.length + 1) (bytesV l ++ [.int .u8 47])) : w.ownsRow B 5 1 v (l ++ [47]).length (bytesV (l ++ [47])) := by
  rw [List.length_append, bytesV_append]
  exact h
theorem grow_str {w : World} {B : Nat} {v : Value} {l x : List UInt8} (h : w.ownsRow B 5 1 v (l.length + (strOf x).size) (bytesV l ++ Lib.strCells (strOf x))) : w.ownsRow B 5 1 v (l ++ x).length (bytesV (l ++ x)) := by
  rw [strOf_size, strCells_of] at h
  rw [List.length_append, bytesV_append]
  exact h

set_option maxRecDepth 100000 in
set_option maxHeartbeats 4000000 in
theorem clean_land (s : ByteArray) (w : World) (hs : s.size ≤ 4398046511104) : Calls Tryd.prog 9 #[.string s] w (StrBool (cleanPath s.data.toList) w) := by
  obtain ⟨i0, hi, hz0, hz1, hz2⟩ := info_parts infoByteF
  refine (callsIn_wide (n := 9)).1 ?_
  refine callsIn_of_wp_marks Tryd.func9 rfl trivial ?_ rfl
  simp only [Tryd.ntmps9, List.size_toArray, List.length_cons, List.length_nil, Nat.reduceAdd, Nat.reduceSub, Array.replicate_succ, Array.replicate_zero, List.push_toArray, List.append_toArray, List.nil_append, List.cons_append]
  gi_wp2_with (refine ⟨trivial, ?_⟩; gi_at_call 14; refine (callsIn_wide.2 (splitSeq_any s _)).mono ?_; rintro e w' ⟨rfl, rfl⟩)
  obtain ⟨P, hP⟩ : ∃ P, P = partsOf 47 s.data.toList := ⟨_, rfl⟩
  have hP47 : ∀ p ∈ P, (47 : UInt8) ∉ p := by rw [hP]; exact parts_clean 47 _
  have hPt : tot P ≤ s.size + 1 := by rw [hP]; exact parts_tot 47 s
  have hPs : 1 ≤ P.length := by rw [hP]; exact split_some _ _ _
  obtain ⟨W0, hW0⟩ : ∃ W0, W0 = boxes3 (((w.alloc (.cells #[.string ⟨#[]⟩] 9)).alloc (.cells #[.bool false] 4)).alloc (.cells #[.slice none 0 0] 53)) s := ⟨_, rfl⟩
  have hz : W0.heap.size = w.heap.size + 6 := by rw [hW0]; simp [boxes3]
  have q0 : Boxed W0 w.heap.size 9 (.string ⟨#[]⟩) := by
    rw [hW0]
    exact (((((Boxed.new w _ _).alloc _).alloc _).alloc _).alloc _).alloc _
  have q1 : Boxed W0 (w.heap.size + 1) 4 (.bool false) := by
    rw [hW0]
    have h := Boxed.new (w.alloc (.cells #[.string ⟨#[]⟩] 9)) 4 (.bool false)
    rw [World.size_alloc] at h
    exact (((h.alloc _).alloc _).alloc _).alloc _
  have q2 : Boxed W0 (w.heap.size + 2) 53 (.slice none 0 0) := by
    rw [hW0]
    have h := Boxed.new ((w.alloc (.cells #[.string ⟨#[]⟩] 9)).alloc (.cells #[.bool false] 4)) 53 (.slice none 0 0)
    simp only [World.size_alloc] at h
    exact ((h.alloc _).alloc _).alloc _
  have q3 : Boxed W0 (w.heap.size + 3) 9 (.string s) := by
    rw [hW0]
    have h := Boxed.new (((w.alloc (.cells #[.string ⟨#[]⟩] 9)).alloc (.cells #[.bool false] 4)).alloc (.cells #[.slice none 0 0] 53)) 9 (.string s)
    simp only [World.size_alloc] at h
    exact (h.alloc _).alloc _
  have q4 : Boxed W0 (w.heap.size + 4) 9 (.string ⟨#[47]⟩) := by
    rw [hW0]
    have h := Boxed.new ((((w.alloc (.cells #[.string ⟨#[]⟩] 9)).alloc (.cells #[.bool false] 4)).alloc (.cells #[.slice none 0 0] 53)).alloc (.cells #[.string s] 9)) 9 (.string ⟨#[47]⟩)
    simp only [World.size_alloc] at h
    exact h.alloc _
  have q5 : Boxed W0 (w.heap.size + 5) 3 (.int .i64 0) := by
    rw [hW0]
    have h := Boxed.new (((((w.alloc (.cells #[.string ⟨#[]⟩] 9)).alloc (.cells #[.bool false] 4)).alloc (.cells #[.slice none 0 0] 53)).alloc (.cells #[.string s] 9)).alloc (.cells #[.string ⟨#[47]⟩] 9)) 3 (.int .i64 0)
    simp only [World.size_alloc] at h
    exact h
  have hB0 : Below w.heap.size w W0 := by
    rw [hW0]
    refine (((((Below.refl _ w).alloc ?_ _).alloc ?_ _).alloc ?_ _).alloc ?_ _).alloc ?_ _ |>.alloc ?_ _ <;> first | exact Nat.le_refl _ | (simp only [World.size_alloc]; omega)
  have hC0 : Cl w (.slice none 0 0) (flat []) W0 := ⟨q2, World.ownsRow_nil _ _ _ _, q0, q1, ⟨_, q3⟩, ⟨_, q4⟩, ⟨_, q5⟩, hB0⟩
  have hG := split_gives (9 - 1) (by omega) (w.heap.size + 3) s hs W0 q3 q4 q5
  rw [← hP] at hG
  rw [← hW0]
  have HCP : Hid (cleanPath s.data.toList = cleanOf P) := by rw [hP]; rfl
  clear hW0 q0 q1 q2 q3 q4 q5 hP
  refine wpIn_seqOwn rfl (by omega) (gf := 28) (lb := #[.pointer (some ⟨w.heap.size + 3 + 1, 0, none⟩), .pointer (some ⟨w.heap.size + 3, 0, none⟩), .pointer (some ⟨w.heap.size + 3 + 2, 0, none⟩)]) rfl trivial (enters_of Tryd.func28 (by kernel_rfl) rfl)
    hG (by omega) (fun h k => h.trans k) (keeps_put (by omega)) (fun _ => rfl) (Between w) (Left w) (between_own w _ (by omega)) (left_own w _ (by omega))
    (fun pre W u u' hs hb => by obtain ⟨v, L, h, hc⟩ := hs; exact ⟨v, L, h, hc.turn hb⟩) ⟨_, [], rfl, hC0⟩
    (fun x => { tmps := #[.string s, undef, .pointer (some ⟨w.heap.size, 0, none⟩), .pointer (some ⟨w.heap.size + 1, 0, none⟩), .pointer (some ⟨w.heap.size + 1 + 1, 0, none⟩), .string (strOf x), .string s,
      .func (.func 28) #[] #[.pointer (some ⟨w.heap.size + 1 + 1 + 1 + 1, 0, none⟩), .pointer (some ⟨w.heap.size + 1 + 1 + 1, 0, none⟩), .pointer (some ⟨w.heap.size + 1 + 1 + 1 + 1 + 1, 0, none⟩)],
      .string (strOf x), undef, undef, undef, undef, undef, undef, undef, undef, undef, undef, undef, undef, undef, undef, undef, undef, undef, undef, undef, undef, undef, undef, undef, undef, undef], defers := [] }) ?assign ?body ?done ?stop
  case assign =>
    intro l x W K hK
    gi_wp2
    exact hK
  case body =>
    rintro l pre x W ⟨v, L, hL, hc⟩ ⟨r, hr⟩
    have hx47 : (47 : UInt8) ∉ x := hP47 x (by rw [hr]; simp)
    have hL47 : ∀ p ∈ L, (47 : UInt8) ∉ p := from_cut pre [] L (fun p hp => hP47 p (by rw [hr]; simp [hp])) (by simp) hL
    have hlt : tot L + (x.length + 1) ≤ s.size + 1 := by
      have h1 := from_len pre [] L hL
      have h2 : tot P = tot pre + (x.length + 1 + tot r) := by rw [hr, tot_append, tot_cons]
      rw [tot_nil] at h1
      omega
    have hstep := from_one x hL
    have HL47 := Lib.hid hL47
    have HL : Hid (cleanFrom [] pre = some L) := hL
    have HC := Lib.hid hc
    have HST : Hid ((strOf x).toList = x) := strOf_toList x
    clear hr r hL47 hL hPt hPs hP47 hG hC0 hB0
    by_cases e0 : x = []
    · have HN : Hid (cleanFrom [] (pre ++ [x]) = some L) := by
        unfold Hid
        rw [hstep, cleanStep, if_pos (.inl e0)]
      have s2 : ((strOf x).toList == []) = true := by rw [HST.out, e0]; rfl
      have s1 : (strOf x).toList.isEmpty = true := by rw [HST.out, e0]; rfl
      clear e0 hstep hc
      gi_wp2
      exact ⟨KeepsFrom.refl _ _, KeepsBoxes.refl _ _, _, L, HN, HC.out⟩
    have s1 : (strOf x).toList.isEmpty = false := by
      rw [HST.out]
      cases x with
      | nil => exact absurd rfl e0
      | cons a l => rfl
    have s2 : ((strOf x).toList == []) = false := by
      rw [HST.out]
      cases x with
      | nil => exact absurd rfl e0
      | cons a l => rfl
    by_cases e1 : x = [46]
    · have HN : Hid (cleanFrom [] (pre ++ [x]) = some L) := by
        unfold Hid
        rw [hstep, cleanStep, if_pos (.inr e1)]
      have s3 : ((strOf x).toList == [46]) = true := by rw [HST.out, e1]; rfl
      clear e0 e1 hstep hc
      gi_wp2
      exact ⟨KeepsFrom.refl _ _, KeepsBoxes.refl _ _, _, L, HN, HC.out⟩
    have s3 : ((strOf x).toList == [46]) = false := by rw [HST.out]; simpa using e1
    have e01 : ¬ (x = [] ∨ x = [46]) := by rintro (h | h); exact e0 h; exact e1 h
    by_cases e2 : x = [46, 46]
    · have s4 : ((strOf x).toList == [46, 46]) = true := by rw [HST.out, e2]; rfl
      by_cases e3 : L = []
      · have HN : Hid (cleanFrom [] (pre ++ [x]) = none) := by
          unfold Hid
          rw [hstep, cleanStep, if_neg e01, if_pos e2, if_pos e3]
        obtain ⟨A, c, rfl, hcap, hlies⟩ := own_form hc.row
        have l0 : ((flat L).length : Int) == 0 := by rw [e3]; rfl
        have l1 : (((flat L).length : Int) == 0) = true := l0
        have g2 : W.cell? ⟨w.heap.size + 1 + 1, 0, none⟩ = some (.slice A (flat L).length c) := hc.left.cell
        have g0 := hc.text.cell
        have g1 := hc.ok.cell
        have k0 := hc.text.frozen
        have k1 := hc.ok.frozen
        clear e0 e1 e01 e2 e3 hstep hc l0 hlies
        gi_wp2
        exact ⟨((KeepsOthers.setCell _ _ _).trans (KeepsOthers.setCell _ _ _)).from _, rfl, HN, (HC.out.text.set _).kept (grownBy_setCell' _ (w.heap.size + 1) _) (by simp), (HC.out.ok.kept (grownBy_setCell' W w.heap.size _) (by simp)).set _,
          (HC.out.below.setCell (p := ⟨w.heap.size, 0, none⟩) (Nat.le_refl _) _).setCell (p := ⟨w.heap.size + 1, 0, none⟩) (by simp) _⟩
      · have HN : Hid (cleanFrom [] (pre ++ [x]) = some L.dropLast) := by
          unfold Hid
          rw [hstep, cleanStep, if_neg e01, if_pos e2, if_neg e3]
        have hrow := hc.row
        obtain ⟨A, c, rfl, hcap, hlies⟩ := own_form hrow
        have hpos : 0 < (flat L).length := by
          rcases Nat.eq_zero_or_pos (flat L).length with h | h
          · exact absurd (flat_none h) e3
          · exact h
        obtain ⟨b, o, rfl, _, _⟩ := hlies.2 hpos
        have hfl : (flat L).length ≤ 4398046511105 := by rw [flat_len]; omega
        obtain ⟨k, hk⟩ : ∃ k, k = (flat L.dropLast).length := ⟨_, rfl⟩
        have hkl : k ≤ (flat L).length := by
          rw [hk, flat_len, flat_len]
          exact tot_last L
        have HB : Hid (∀ V : World, Lies V V.heap.size 1 (some ⟨b, o, none⟩) (flat L).length (bytesV (flat L)) → Calls Tryd.prog 15 #[.slice (some ⟨b, o, none⟩) (flat L).length c, .int .u8 47] V fun e w' => e = .returned (.int .i64 (k : Int)) ∧ V = w') := fun V hV => by
          refine (blast_any _ _ _ (flat L) V hV (by omega)).mono ?_
          rintro r w' ⟨i, rfl, hi, rfl⟩
          obtain ⟨j, rfl, _, _, hj⟩ := flat_cut e3 HL47.out hi
          exact ⟨by rw [hk, hj], rfl⟩
        have hcut : W.ownsRow w.heap.size 5 1 (.slice (some ⟨b, o, none⟩) k c) (flat L.dropLast).length (bytesV (flat L.dropLast)) := by
          have h := own_cut hrow hkl hpos
          have e : (bytesV (flat L)).take k = bytesV (flat L.dropLast) := by
            obtain ⟨M, p, rfl⟩ : ∃ M p, L = M ++ [p] := ⟨L.dropLast, L.getLast e3, (List.dropLast_concat_getLast e3).symm⟩
            rw [hk, List.dropLast_concat, flat_snoc, bytesV_append, List.take_append_of_le_length (by rw [bytesV_length]; exact Nat.le_refl _), List.take_of_length_le (by rw [bytesV_length]; exact Nat.le_refl _)]
          rw [e] at h
          rw [← hk]
          exact h
        have hT := HC.out.turned (W1 := W.drew) (v' := .slice (some ⟨b, o, none⟩) k c) (t' := flat L.dropLast) ⟨rfl, rfl, rfl, Nat.le_refl _, fun _ _ _ => rfl⟩ hcut
        have HT := Lib.hid hT
        have HBD := Lib.hid (HB.out W.drew hlies)
        have l1 : (((flat L).length : Int) == 0) = false := by rw [beq_eq_false_iff_ne]; omega
        have g2 : W.cell? ⟨w.heap.size + 1 + 1, 0, none⟩ = some (.slice (some ⟨b, o, none⟩) (flat L).length c) := hc.left.cell
        have gd : W.drew.cell? ⟨w.heap.size + 1 + 1, 0, none⟩ = some (.slice (some ⟨b, o, none⟩) (flat L).length c) := hc.left.cell
        have kd : W.drew.frozen? ⟨w.heap.size + 1 + 1, 0, none⟩ = false := hc.left.frozen
        have hkc : (k : Int) ≤ (c : Int) := by omega
        have hk0 : (0 : Int) ≤ (k : Int) := by omega
        have hmx : Tryd.prog.follows .mixedOrders = true := by kernel_rfl
        have hd : 1 ≤ 9 - 1 - 1 := by omega
        clear e0 e1 e01 e2 e3 hstep hc hlies hT hcut hrow hk hlt
        gi_wp2
        gi_region_with_o (refine ⟨trivial, ?_⟩; gi_at_call 15; refine (CallsIn.inRound l (callsIn_wide.2 HBD.out)).mono ?_; rintro e w' ⟨rfl, rfl⟩)
        all_goals gi_wp2
        all_goals exact ⟨HT.out.2.2.1.from _, HT.out.2.2.2, _, L.dropLast, HN, HT.out.2.1⟩
    · have s4 : ((strOf x).toList == [46, 46]) = false := by rw [HST.out]; simpa using e2
      have HN : Hid (cleanFrom [] (pre ++ [x]) = some (L ++ [x])) := by
        unfold Hid
        rw [hstep, cleanStep, if_neg e01, if_neg e2]
      have g2 : W.cell? ⟨w.heap.size + 1 + 1, 0, none⟩ = some v := hc.left.cell
      have hb : (flat L).length + 1 + (strOf x).size ≤ 4398046511105 := by rw [flat_len, strOf_size]; omega
      have hb1 : (flat L).length + 1 ≤ 4398046511105 := by omega
      have hsz := hc.below.size
      clear e0 e1 e01 e2 hstep hc hlt
      gi_wp2_with (first
        | (gi_at_builtin; refine wpListIn_append_own _ rfl _ _ 53 rfl w.heap.size 5 i0 (.int .u8 0) 1 1 Tryd.underlying53 hi hz0 hz1 hz2 rfl (by decide) v _ _ rfl (HC.out.row.alloc _) ⟨W.heap.size, 0, none⟩ 1 1 [.int .u8 47] rfl rfl (cell_one_new _ _ _) (by simp [Value.oneCell']) (by unfold maxLen; omega) (by omega) (by simp; omega) ?_; intro v1 w1 hown1 hgrow1 _; obtain ⟨g1, cap1, rfl⟩ := ownsRow_succ hown1; obtain ⟨b1, C1, k1, kb1⟩ := (HC.out.alloc _).turned hgrow1 (grow_one hown1); have c1 : w1.cell? ⟨w.heap.size + 1 + 1, 0, none⟩ = some v := b1.cell; have f1 : w1.frozen? ⟨w.heap.size + 1 + 1, 0, none⟩ = false := b1.frozen; have CC := Lib.hid C1; have K1 := Lib.hid (And.intro k1 kb1); have d1 : (w1.setCell ⟨w.heap.size + 1 + 1, 0, none⟩ (.slice (some ⟨g1, 0, none⟩) ((flat L).length + 1) cap1)).cell? ⟨w.heap.size + 1 + 1, 0, none⟩ = some (.slice (some ⟨g1, 0, none⟩) ((flat L).length + 1) cap1) := C1.left.cell; clear hown1 hgrow1 b1 C1 k1 kb1)
        | (gi_at_builtin; refine wpListIn_append_str _ rfl _ _ 53 9 rfl w.heap.size 5 i0 Tryd.underlying53 Tryd.underlying9 hi hz0 hz1 hz2 _ _ _ rfl CC.out.row (strOf x) rfl (by simp; unfold maxLen; omega) (by simp; omega) CC.out.below.size ?_; intro v2 w2 hown2 hgrow2; obtain ⟨A2, cap2, rfl, _, _⟩ := own_form hown2; obtain ⟨b2, C2, k2, kb2⟩ := CC.out.turned hgrow2 (grow_str hown2); have CD := Lib.hid C2; have K2 := Lib.hid (And.intro k2 kb2); have c2 : w2.cell? ⟨w.heap.size + 1 + 1, 0, none⟩ = some (.slice (some ⟨g1, 0, none⟩) ((flat L).length + 1) cap1) := b2.cell; have f2 : w2.frozen? ⟨w.heap.size + 1 + 1, 0, none⟩ = false := b2.frozen; clear hown2 hgrow2 b2 C2 k2 kb2))
      have e2 : (flat L ++ [47]).length = (flat L).length + 1 := by simp
      rw [e2] at K2 CD
      refine ⟨((KeepsOthers.alloc W _).trans (K1.out.1.trans K2.out.1)).from _, (KeepsBoxes.alloc _ W _).trans (K1.out.2.trans K2.out.2), .slice A2 ((flat L).length + 1 + (strOf x).size) cap2, L ++ [x], HN, ?_⟩
      have e : flat (L ++ [x]) = flat L ++ [47] ++ x := by rw [flat_snoc]; simp
      rw [e]
      exact CD.out
  case done =>
    rintro D W hD ⟨v, L, hL, hc⟩ hK
    obtain ⟨A, c, rfl, hcap, hlies⟩ := own_form hc.row
    have hfl : (flat L).length ≤ 4398046511105 := by
      have h1 := from_len P [] L hL
      rw [tot_nil] at h1
      rw [flat_len]
      omega
    have HC := Lib.hid hc
    have g2 : W.cell? ⟨w.heap.size + 1 + 1, 0, none⟩ = some (.slice A (flat L).length c) := hc.left.cell
    have g0 := hc.text.cell
    have g1 := hc.ok.cell
    have k0 := hc.text.frozen
    have k1 := hc.ok.frozen
    by_cases e3 : L = []
    · have HR : Hid (cleanPath s.data.toList = ([], false)) := by
        unfold Hid
        rw [HCP.out, cleanOf, hL, e3]
        rfl
      have l0 : (((flat L).length : Int) == 0) = true := by rw [e3]; rfl
      have HE := Lib.hid (hc.ends (by omega) hK ⟨#[]⟩ false)
      clear HCP hL hlies hc e3 hG hC0 hB0 hK
      gi_wp2
      obtain ⟨W2, e2, hK2, c0, c1, hB⟩ := HE.out
      rw [← e2]
      clear e2 g0 g1 g2 k0 k1
      refine ⟨by simp, .inl ⟨_, _, rfl, run_takeDeferred hK2, ?_⟩⟩
      refine ⟨.tuple #[.string ⟨#[]⟩, .bool false], ?_, by rw [HR.out]; rfl, hB⟩
      simp [results, Tryd.f9, go_sem, c0, c1]
    · have HR : Hid (cleanPath s.data.toList = (joinOf L, true)) := by
        unfold Hid
        rw [HCP.out, cleanOf, hL]
        cases L with
        | nil => exact absurd rfl e3
        | cons a l => rfl
      have hpos : 0 < (flat L).length := by
        rcases Nat.eq_zero_or_pos (flat L).length with h | h
        · exact absurd (flat_none h) e3
        · exact h
      obtain ⟨b, o, rfl, hb, hcell⟩ := hlies.2 hpos
      have htail : Lies W W.heap.size 1 (some ⟨b, o + 1, none⟩) ((flat L).length - 1) (bytesV (joinOf L)) := by
        rw [← flat_join e3]
        refine ⟨by rw [bytesV_length, List.length_drop]; omega, fun _ => ⟨b, o + 1, rfl, hb, fun j u hu => ?_⟩⟩
        rw [show o + 1 + j = o + (j + 1) from by omega]
        refine hcell (j + 1) u ?_
        rw [← hu]
        unfold bytesV
        rw [List.map_drop, List.getElem?_drop, Nat.add_comm]
      have HE := Lib.hid (hc.ends (by omega) hK (strOf (joinOf L)) true)
      have l0 : (((flat L).length : Int) == 0) = false := by rw [beq_eq_false_iff_ne]; omega
      have l1 : (1 : Int) ≤ ((flat L).length : Int) := by omega
      have l2 : ((flat L).length : Int) ≤ (c : Int) := by omega
      by_cases hc1 : c = 1
      · have hconv : (convert 53 9 (.slice (some ⟨b, o, none⟩) ((flat L).length - 1) 0)).run Tryd.prog W = .ok (.string (strOf (joinOf L))) W :=
          run_string_lies _ _ 5 Tryd.underlying53 Tryd.underlying5 Tryd.underlying9 (B := W.heap.size) ⟨htail.1, fun h => by omega⟩
        clear HCP hL hlies hc e3 hG hC0 hB0 htail hK
        gi_wp2
        obtain ⟨W2, e2, hK2, c0, c1, hB⟩ := HE.out
        rw [← e2]
        clear e2 g0 g1 g2 k0 k1
        refine ⟨by simp, .inl ⟨_, _, rfl, run_takeDeferred hK2, ?_⟩⟩
        refine ⟨.tuple #[.string (strOf (joinOf L)), .bool true], ?_, by rw [HR.out], hB⟩
        simp [results, Tryd.f9, go_sem, c0, c1]
      · have hconv : ∀ cc, (convert 53 9 (.slice (some ⟨b, o + 1, none⟩) ((flat L).length - 1) cc)).run Tryd.prog W = .ok (.string (strOf (joinOf L))) W := fun cc =>
          run_string_lies _ _ 5 Tryd.underlying53 Tryd.underlying5 Tryd.underlying9 htail
        clear HCP hL hlies hc e3 hG hC0 hB0 htail hK
        gi_wp2
        obtain ⟨W2, e2, hK2, c0, c1, hB⟩ := HE.out
        rw [← e2]
        clear e2 g0 g1 g2 k0 k1
        refine ⟨by simp, .inl ⟨_, _, rfl, run_takeDeferred hK2, ?_⟩⟩
        refine ⟨.tuple #[.string (strOf (joinOf L)), .bool true], ?_, by rw [HR.out], hB⟩
        simp [results, Tryd.f9, go_sem, c0, c1]
  case stop =>
    rintro D c pre W hD hpre ⟨rfl, hno, ht, ho, hB⟩ hK
    have HR : Hid (cleanPath s.data.toList = ([], false)) := by
      obtain ⟨r, hr⟩ := hpre
      unfold Hid
      rw [HCP.out, cleanOf, ← hr, from_append, hno]
      rfl
    clear HCP hno hG hC0 hB0
    gi_wp2
    have hg := grownBy_putObj' W D (.deferred none)
    have hr : ∀ r, some D = some r → ∃ o : Obj, W.heap[r]? = some o ∧ o.isCells = false := fun r e => by cases e; exact ⟨_, hK, rfl⟩
    have c0 := (boxed_own' ht hg hr).cell
    have c1 := (boxed_own' ho hg hr).cell
    refine ⟨by simp, .inl ⟨_, _, rfl, run_takeDeferred hK, ?_⟩⟩
    refine ⟨.tuple #[.string ⟨#[]⟩, .bool false], ?_, by rw [HR.out]; rfl, hB.trans (belowK_b (w := w) (Nat.le_refl _) W D _ _ (by omega) hK rfl rfl)⟩
    simp [results, Tryd.f9, go_sem, c0, c1]

end Go.Proofs.YtdjhpgpekomjeaaDoor
