/- What the landed rightCond gives. No condition but sizes. -/
import Derived.Test.YtogpicfofifbkaaDoorTreeDep
import Derived.Test.YtogpicfofifbkaaDoorTreeBl
namespace Go.Proofs.YtogpicfofifbkaaDoor.LandedT
open Go.RowKit

attribute [local go_sem] Oper.semAt_some

/-- May it be a rule's condition? -/
def condOk (e : Ex) : Bool := boolOk e && decide (depthOf e ≤ 30)

/-- Between two rounds of rightCond's loop. -/
def Shallow (e : Ex) (w : World) (pre : List Nat) (W : World) : Prop :=
  Boxed W (w.heap.size + 1) 4 (.bool false) ∧ Box W w.heap.size 26 e.cells.toArray ∧ Below w.heap.size w W ∧ ∀ n ∈ pre, n ≤ 30
def TooDeep (w : World) (c : Code) (pre : List Nat) (W : World) : Prop := c = .ret ∧ Boxed W (w.heap.size + 1) 4 (.bool false) ∧ Below w.heap.size w W ∧ ∃ n ∈ pre, 30 < n

theorem boxed_put {W : World} {b D : Nat} {t : TypeId} {v : Value} (h : Boxed W b t v) (o : Obj) (hD : b < D) : Boxed (W.putObj D o) b t v := boxed_keep h (below_put W D D o (Nat.le_refl _)) hD

set_option maxRecDepth 100000 in
set_option maxHeartbeats 4000000 in
theorem cond_any (e : Ex) (w : World) (hin : ExIn w w.heap.size e) (hd : depthOf e ≤ 1000) : Calls Tryd.prog 59 #[e.val] w (Quietly (.bool (condOk e)) w) := by
  have HC := Lib.hid (fun W => depths_any e W)
  have HBL := Lib.hid (fun W (hW : Below w.heap.size w W) => bool_any e W (hin.next hW) hd)
  obtain ⟨xs, hxs⟩ : ∃ xs, xs = preD 1 e := ⟨_, rfl⟩
  have hdp : depthOf e ≤ 30 ↔ ∀ n ∈ xs, n ≤ 30 := by rw [hxs]; exact depth_all e 30
  obtain ⟨W0, hW0⟩ : ∃ W0, W0 = ((w.alloc (.cells e.cells.toArray 26)).alloc (.cells #[.bool false] 4)).alloc (.cells e.cells.toArray 26) := ⟨_, rfl⟩
  have hz : W0.heap.size = w.heap.size + 3 := by rw [hW0]; simp
  have hb0 : Below w.heap.size w W0 := by rw [hW0]; exact below_alloc (two_below w _ _) (Nat.le_refl _) _
  have q0 : Box W0 w.heap.size 26 e.cells.toArray := by
    rw [hW0]
    exact ((Box.new w _ _).alloc _).alloc _
  have q1 : Boxed W0 (w.heap.size + 1) 4 (.bool false) := by
    rw [hW0]
    have h := Boxed.new (w.alloc (.cells e.cells.toArray 26)) 4 (.bool false)
    rw [World.size_alloc] at h
    exact h.alloc _
  have q2 : Box W0 (w.heap.size + 2) 26 e.cells.toArray := by
    rw [hW0]
    have h := Box.new ((w.alloc (.cells e.cells.toArray 26)).alloc (.cells #[.bool false] 4)) 26 e.cells.toArray
    simp only [World.size_alloc] at h
    exact h
  have hG := depths_give (9 - 1) (by omega) w.heap.size (w.heap.size + 2) e w W0 hin hb0 (by omega) hd q2
  rw [← hxs] at hG
  have hbd : ∀ pre x r, xs = pre ++ x :: r → x ≤ 1000 := fun pre x r h => by
    have h2 := (depth_all e 1000).1 hd
    rw [← hxs] at h2
    exact h2 x (by rw [h]; simp)
  have HR : Hid (condOk e = (boolOk e && decide (∀ n ∈ xs, n ≤ 30))) := by
    unfold Hid condOk
    congr 1
    rw [decide_eq_decide]
    exact hdp
  obtain ⟨R, hR⟩ : ∃ R, R = condOk e := ⟨_, rfl⟩
  obtain ⟨B, hB⟩ : ∃ B, B = boolOk e := ⟨_, rfl⟩
  rw [← hR] at HR ⊢
  rw [← hB] at HR HBL
  have HW0 := Lib.hid hW0
  have hI0 : Shallow e w [] W0 := ⟨q1, q0, hb0, fun n hn => absurd hn (by simp)⟩
  clear hin hd q2 hW0 hR hB hxs hdp q0 q1
  obtain ⟨kd, op, nm, nu, A, c, ks⟩ := e
  unfold Ex.val at *
  unfold Ex.cells at HW0 HC
  simp only at HC HW0 HBL ⊢
  refine (callsIn_wide (n := 9)).1 ?_
  refine callsIn_of_wp_marks Tryd.func59 rfl trivial ?_ rfl
  simp only [Tryd.ntmps59, List.size_toArray, List.length_cons, List.length_nil, Nat.reduceAdd, Nat.reduceSub, Array.replicate_succ, Array.replicate_zero, List.push_toArray, List.append_toArray, List.nil_append, List.cons_append]
  gi_wp2_with (refine ⟨trivial, ?_⟩; gi_at_call 11; refine (callsIn_wide.2 (HC.out _)).mono ?_; rintro e' w' ⟨rfl, rfl⟩)
  rw [← HW0.out]
  refine wpIn_seqFree rfl (by omega) (gf := 24) (lb := #[.pointer (some ⟨w.heap.size + 2, 0, none⟩)]) rfl trivial (enters_of Tryd.func24 (by kernel_rfl) rfl)
    hG (by omega) (fun _ => rfl) (Shallow (.node kd op nm nu A c ks) w) (TooDeep w) (fun pre X Y hs hx hb => ⟨boxed_keep hs.1 hb (by omega), hs.2.1.below hb (by omega), hs.2.2.1.trans (hb.mono (by omega)), hs.2.2.2⟩)
    (fun c pre X Y hs hx hb => ⟨hs.1, boxed_keep hs.2.1 hb (by omega), hs.2.2.1.trans (hb.mono (by omega)), hs.2.2.2⟩) hI0
    (fun x => { tmps := #[.agg #[.int .i64 kd, .string op, .string nm, .int .u64 nu, .slice A ks.length c], .pointer (some ⟨w.heap.size, 0, none⟩), .pointer (some ⟨w.heap.size + 1, 0, none⟩), .int .i64 (x : Int),
      .agg #[.int .i64 kd, .string op, .string nm, .int .u64 nu, .slice A ks.length c], .func (.func 24) #[] #[.pointer (some ⟨w.heap.size + 1 + 1, 0, none⟩)], .int .i64 (x : Int), undef, undef, undef, undef], defers := [] }) ?assign ?body ?done ?stop
  case assign =>
    intro l x W K hK
    gi_wp2
    exact hK
  case body =>
    rintro l pre x W ⟨hm, hbx, hb, hpre⟩ hsz ⟨r, hr⟩
    have d2 := hbd pre x r hr
    have HS : Hid (∀ v, Spares w.heap.size W0.heap.size W (W.setCell ⟨w.heap.size + 1, 0, none⟩ v)) := fun v => .set _ _ _ (by omega) (by omega)
    have HB : Hid (∀ v, Below w.heap.size w (W.setCell ⟨w.heap.size + 1, 0, none⟩ v)) := fun v => hb.trans (Below.setCell (Below.refl _ W) (by simp) v)
    have HM : Hid (∀ v, Boxed (W.setCell ⟨w.heap.size + 1, 0, none⟩ v) (w.heap.size + 1) 4 v) := fun v => hm.set v
    have HI : Hid (x ≤ 30 → Shallow (.node kd op nm nu A c ks) w (pre ++ [x]) W) := fun h => ⟨hm, hbx, hb, fun n hn => by
      rcases List.mem_append.1 hn with hn | hn
      · exact hpre n hn
      · have : n = x := by simpa using hn
        omega⟩
    have c1 := hm.cell
    have f1 := hm.frozen
    clear hG hbd hr hb hm hbx hpre HC HW0 HR HBL hI0
    by_cases h30 : x ≤ 30
    · have h31 : ¬ (30 : Int) < (x : Int) := by omega
      gi_wp2
      exact ⟨.refl _ _ _, HI.out h30⟩
    · have h31 : (30 : Int) < (x : Int) := by omega
      gi_wp2
      exact ⟨HS.out _, rfl, HM.out _, HB.out _, x, by simp, by omega⟩
  case done =>
    rintro D W hD hlt ⟨hm, hbx, hb, hall⟩ hK
    have HRB : Hid (R = B) := by
      unfold Hid
      rw [HR.out, decide_eq_true hall, Bool.and_true]
    obtain ⟨e0, e1, e2, e3, e4, e5⟩ := box_ex (show Box W w.heap.size 26 #[.int .i64 kd, .string op, .string nm, .int .u64 nu, .slice A ks.length c] from hbx)
    have HM := Lib.hid hm
    have HK := Lib.hid hK
    clear hG hbd HC HW0 HR hI0 hall hbx hm hK
    have HBW := HBL.out W hb
    gi_wp2_with (refine ⟨trivial, ?_⟩; gi_at_call 7; refine (callsIn_wide.2 HBW).mono ?_; rintro e' w2 ⟨rfl, hb2⟩; have hm2 := boxed_keep HM.out hb2 (by omega); have c1 := hm2.cell; have f1 := hm2.frozen)
    have hK3 : (w2.setCell ⟨w.heap.size + 1, 0, none⟩ (.bool B)).heap[D]? = some (.deferred (some [])) := (Below.heap_setCell _ _ _ _ (by simp only; omega)).trans ((hb2.block D hlt).trans HK.out)
    have c3 := (boxed_put (hm2.set (.bool B)) (.deferred none) (show w.heap.size + 1 < D by omega)).cell
    have hb3 : Below w.heap.size w (w2.setCell ⟨w.heap.size + 1, 0, none⟩ (.bool B)) := (below_step hb (Nat.le_refl _) hb2).setCell (by simp) _
    refine ⟨by simp, .inl ⟨_, _, rfl, run_takeDeferred hK3, ?_⟩⟩
    refine ⟨.bool B, ?_, by rw [HRB.out], hb3.trans (below_put _ D w.heap.size _ (by omega))⟩
    simp [results, Tryd.f59, go_sem, c3]
  case stop =>
    rintro D c pre W hD hlt ⟨t, ht⟩ ⟨rfl, hm, hb, n, hn, h30⟩ hK
    have HRF : Hid (R = false) := by
      unfold Hid
      rw [HR.out]
      have : decide (∀ n ∈ xs, n ≤ 30) = false := by
        rw [decide_eq_false_iff_not]
        intro h
        have := h n (by rw [← ht]; simp [hn])
        omega
      rw [this, Bool.and_false]
    clear hG hbd HC HW0 HR hI0 ht hn h30
    gi_wp2
    have c1 := (boxed_put hm (.deferred none) (show w.heap.size + 1 < D by omega)).cell
    refine ⟨by simp, .inl ⟨_, _, rfl, run_takeDeferred hK, ?_⟩⟩
    refine ⟨.bool false, ?_, by rw [HRF.out], hb.trans (below_put W D w.heap.size _ (by omega))⟩
    simp [results, Tryd.f59, go_sem, c1]

end Go.Proofs.YtogpicfofifbkaaDoor.LandedT
