/- The landed depths: the iterator that it hands back gives how deep each expression stands, in the order in which they are met. No condition but sizes. -/
import Derived.Test.YtogpicfofifbkaaDoorTreeHd
import Derived.Test.YtogpicfofifbkaaDoorTreeSet
import Derived.Test.YtogpicfofifbkaaDoorChecked
import Derived.WalkKit
import Derived.OwnWalkIn
import Derived.TacticsInMore
import Derived.LoopNIn
import Derived.LoopIn
namespace Go.Proofs.YtogpicfofifbkaaDoor.LandedT
open Go.RowKit

attribute [local go_sem] Oper.semAt_some

theorem infoList : (Tryd.prog.info? 24).map (fun i => (i.zero, i.size, i.bytes)) = some (some (.slice none 0 0), 1, 24) := by kernel_rfl

/-- Where the iterator stands between two rounds. -/
def Goes (e : Ex) (B0 D : Nat) (w0 W : World) (J : List Nat → World → Prop) (v : Value) (n : Nat) (wr : World) : Prop :=
  ∃ (pre : List Nat) (st : List Hd), preD 1 e = pre ++ restD st ∧ wst st = n ∧ Room 1 D st ∧ (∀ h ∈ st, HdAt (fun b => b < B0 ∨ b = W.heap.size) w0 B0 wr h) ∧
    wr.ownsRow (W.heap.size + 1) 24 1 v st.length (rowOf st) ∧ J pre wr ∧ W.heap.size + 1 ≤ wr.heap.size ∧ Below B0 w0 wr

set_option maxRecDepth 100000 in
set_option maxHeartbeats 8000000 in
theorem iter_in (n : Nat) (hn : 1 ≤ n) (B0 Bx l : Nat) (e : Ex) (w0 W : World) (he : ExIn w0 B0 e) (hw : Below B0 w0 W) (hB : B0 ≤ W.heap.size) (hd : depthOf e ≤ 1000) (J Jx : List Nat → World → Prop)
    (hJ : ∀ pre W1 W2, J pre W1 → W.heap.size ≤ W1.heap.size → Below W.heap.size W1 W2 → J pre W2)
    (hY : ∀ pre x W1, J pre W1 → W.heap.size ≤ W1.heap.size → (∃ r, preD 1 e = pre ++ x :: r) → YieldAt Fence.wide (n - 1) Tryd.prog l #[.int .i64 ((x : Nat) : Int)] W1 fun e W' =>
      (e = .returned (.bool true) ∧ J (pre ++ [x]) W' ∧ Spares B0 W.heap.size W1 W') ∨ (e = .returned (.bool false) ∧ Jx (pre ++ [x]) W'))
    (hbx : Box W Bx 26 e.cells.toArray) (hJ0 : J [] W) :
    CallsIn Fence.wide n Tryd.prog 24 #[.func (.yield l) #[] #[], .pointer (some ⟨Bx, 0, none⟩)] W fun e' W' =>
      (∃ v, e' = .returned v) ∧ (J (preD 1 e) W' ∨ ∃ pre, pre <+: preD 1 e ∧ Jx pre W') := by
  obtain ⟨i0, hi, hz0, hz1, hz2⟩ := info_parts infoList
  obtain ⟨D, hD⟩ : ∃ D, D = depthOf e := ⟨_, rfl⟩
  have HJ := Lib.hid hJ
  have HY := Lib.hid hY
  obtain ⟨mv, hmv⟩ := least_measure (fun n (p : Value × World) => Goes e B0 D w0 W J p.1 n p.2)
  have HM := Lib.hid hmv
  have HA : Hid (Goes e B0 D w0 W J (.slice (some ⟨W.heap.size + 1, 0, none⟩) 1 1) (wst [⟨some ⟨W.heap.size, 0, none⟩, 1, [e]⟩]) ((W.alloc (.cells e.cells.toArray 26)).alloc (.cells #[.slice (some ⟨W.heap.size, 0, none⟩) 1 1] 24))) := by
    obtain ⟨x0, x1⟩ := two_boxes W e.cells.toArray #[.slice (some ⟨W.heap.size, 0, none⟩) 1 1] 26 24
    have hbe := two_below W (.cells e.cells.toArray 26) (.cells #[.slice (some ⟨W.heap.size, 0, none⟩) 1 1] 24)
    refine ⟨[], _, ?_, rfl, ⟨?_, trivial⟩, fun h hh => ?_, row_start x1 (Nat.le_refl _), hJ _ _ _ hJ0 (Nat.le_refl _) hbe, by simp, hw.trans (hbe.mono hB)⟩
    · show preD 1 e = [] ++ (presD 1 [e] ++ [])
      rw [pre_one, List.append_nil, List.nil_append]
    · show 0 + 1 * depthsOf 0 [e] ≤ 1 * D
      rw [depths_one, hD]
      omega
    · have : h = ⟨some ⟨W.heap.size, 0, none⟩, 1, [e]⟩ := by simpa using hh
      rw [this]
      exact hd_start he (.inr rfl) x0
  obtain ⟨kd, op, nm, nu, A, c, ks⟩ := e
  obtain ⟨q0, q1, q2, q3, q4, q5⟩ := box_ex (show Box W Bx 26 #[.int .i64 kd, .string op, .string nm, .int .u64 nu, .slice A ks.length c] from hbx)
  have HD : Hid (D ≤ 1000) := by rw [hD]; exact hd
  clear hJ hY hbx hJ0 hmv hD hd
  refine callsIn_of_wp Tryd.func24 rfl trivial ?_ rfl
  simp only [Tryd.ntmps24, List.size_toArray, List.length_cons, List.length_nil, Nat.reduceAdd, Nat.reduceSub, Array.replicate_succ, Array.replicate_zero, List.push_toArray, List.append_toArray, List.nil_append, List.cons_append]
  gi_wp2
  gi_loopw [3] (fun v wr => ∃ n, Goes (.node kd op nm nu A c ks) B0 D w0 W J v n wr) (fun v wr => mv (v, wr))
  case atStart => exact ⟨_, HA.out⟩
  case round =>
    clear HA q0 q1 q2 q3 q4 q5 he hw
    obtain ⟨n1, hr⟩ := hrel
    obtain ⟨⟨pre, st, hpre, hwst, hroom, hall, hown, hj, hsz, hbw⟩, _⟩ := HM.out (_, wr) n1 hr
    clear hr
    simp only at hwst hall hown hj hsz hbw
    rcases st with _ | ⟨⟨A1, c1, l1⟩, rs⟩
    · have hpre' : preD 1 (.node kd op nm nu A c ks) = pre := by rw [hpre]; unfold restD; rw [List.append_nil]
      obtain ⟨A3, c3, rfl, _, _⟩ := own_form hown
      have HP := Lib.hid hpre'
      clear hpre hpre' hwst hroom hall hown
      gi_wp2
      go_end0
      exact ⟨⟨_, rfl⟩, .inl (by rw [HP.out]; exact hj)⟩
    · obtain ⟨N, hN⟩ : ∃ N, N = rs.length + 1 := ⟨_, rfl⟩
      obtain ⟨K, hK⟩ : ∃ K, K = rs.length := ⟨_, rfl⟩
      have hNK : N = K + 1 := by omega
      have hlen : ((⟨A1, c1, l1⟩ : Hd) :: rs).length = N := by rw [hN]; rfl
      rw [hlen] at hown
      have hro := room_len hroom
      rw [hlen] at hro
      obtain ⟨g, cap, rfl⟩ : ∃ g cap, u3 = .slice (some ⟨g, 0, none⟩) N cap := by rw [hNK] at hown ⊢; exact ownsRow_succ hown
      obtain ⟨cur, hbx, hgB, hncap, hcapm, _, _⟩ := own_box hown
      obtain ⟨cc, cf, cl⟩ := own_cell hown (by rw [hN] at hlen; exact row_top (⟨A1, c1, l1⟩ : Hd) rs)
      rw [← hK] at cc cf
      unfold Hd.val at cc
      simp only at cc
      have hN1 : N ≤ 1001 := by have := HD.out; omega
      have HN1 := Lib.hid hN1
      have m1 : IntKind.i64.wrap ((N : Int) - 1) = (K : Int) := by rw [IntWalk.i64_in _ (by omega)]; omega
      have m2 : (0 : Int) < (N : Int) := by omega
      have m3 : (K : Int) < (N : Int) := by omega
      have m4 : (0 : Int) ≤ (K : Int) := by omega
      have m5 : (K : Int) ≤ (cap : Int) := by omega
      have HNK : Hid (N = rs.length + 1 ∧ K = rs.length) := ⟨hN, hK⟩
      have HC := Lib.hid hcapm
      have HPRE := Lib.hid hpre
      have HWST := Lib.hid hwst
      have HROOM := Lib.hid hroom
      have HALL := Lib.hid hall
      have HOWN := Lib.hid hown
      have HG := Lib.hid hgB
      rcases l1 with _ | ⟨⟨kx, ox, nx, ux, Ax, cx, lx⟩, r⟩
      · have hN1' := HNK.out.1
        rw [hN1', row_cons] at hown
        obtain ⟨g', cap', hge, hpop⟩ := own_pop (by rw [row_len, Nat.mul_one]) hown
        cases hge
        have HPOP := Lib.hid hpop
        clear hN hK hNK hlen hro hbx hpre hwst hroom hall hown hN1 hncap hcapm hgB HC hN1' hpop
        gi_wp2
        have hfin : Goes (.node kd op nm nu A c ks) B0 D w0 W J (.slice (some ⟨g, 0, none⟩) K cap) (wst rs) wr :=
          ⟨pre, rs, by rw [HPRE.out]; rfl, rfl, HROOM.out.2, fun h hh => HALL.out h (List.mem_cons_of_mem _ hh), by have := HPOP.out; rw [HNK.out.2]; exact this, hj, hsz, hbw⟩
        go_roundw
        case rel => exact ⟨_, hfin⟩
        case measure =>
          refine Nat.lt_of_le_of_lt (HM.out (_, wr) _ hfin).2 ?_
          rw [← HWST.out, wst_cons]
          omega
      · obtain ⟨fn, tmps, assign, body, hy, hR⟩ := HY.out pre N wr hj (by omega) ⟨presD (rs.length + 2) lx ++ (presD (rs.length + 1) r ++ restD rs), by rw [hpre, rest_cons, hN]⟩
        have HR := Lib.hid hR
        have len1 : (((r.length + 1 : Nat) : Int) == 0) = false := by rw [beq_eq_false_iff_ne]; omega
        rw [List.length_cons] at cc
        clear hN hK hNK hlen hro hbx hpre hwst hroom hall hown hN1 hncap hcapm hgB hR hj
        gi_wp2
        refine HR.out.mono ?_
        rintro e' W3 (⟨rfl, hJ3, hsp⟩ | ⟨rfl, hJx3⟩)
        · have hown3 := own_same HOWN.out (hsp.block g cl (.inr (by have := HG.out; omega)))
          have hall3 : ∀ h ∈ (⟨A1, c1, .node kx ox nx ux Ax cx lx :: r⟩ : Hd) :: rs, HdAt (fun b => b < B0 ∨ b = W.heap.size) w0 B0 W3 h := fun h hh => (HALL.out h hh).keep fun b hT => by
            rcases hT with hT | hT
            · exact hsp.block b (by omega) (.inl hT)
            · exact hsp.block b (by omega) (.inr (by omega))
          have htop := hall3 _ (List.mem_cons_self ..)
          obtain ⟨b1, o1, hA1, hT1, hat, hkin⟩ := htop.at (k := 0) rfl
          subst hA1
          have htl := htop.tail
          have hcl := htop.len
          rw [Nat.zero_mul, Nat.add_zero] at hat
          obtain ⟨_, _, _, _, e4⟩ := hat
          obtain ⟨d0, d1, d2⟩ := own_cell hown3 (k := K) (by rw [HNK.out.2]; exact row_top _ rs)
          unfold Hd.val at d0
          simp only [List.length_cons] at d0 hcl
          have hc1 : (r.length : Int) + 1 ≤ (c1 : Int) := by omega
          have hc2 : (1 : Int) ≤ (r.length : Int) + 1 := by omega
          clear cc cf cl len1
          have hsz3 : W.heap.size + 1 ≤ W3.heap.size := Nat.le_trans hsz hsp.size
          have hbw3 : Below B0 w0 W3 := hbw.trans (hsp.belowOf (by omega))
          by_cases h1 : c1 = 1
          · subst h1
            obtain rfl : r = [] := by
              cases r with
              | nil => rfl
              | cons y r => simp only [List.length_cons] at hcl; omega
            simp only [List.length_nil, Nat.zero_add] at d0
            clear hc1 hc2
            have hth : HdAt (fun b => b < B0 ∨ b = W.heap.size) w0 B0 W3 ⟨some ⟨b1, o1, none⟩, 0, []⟩ := ⟨Nat.le_refl _, Nat.zero_le _, fun hp => absurd hp (Nat.lt_irrefl _), htl.kids⟩
            have hown4 := own_put hown3 K (Hd.val ⟨some ⟨b1, o1, none⟩, 0, []⟩)
            rw [HNK.out.2, row_set] at hown4
            unfold Hd.val at hown4
            simp only [List.length_nil] at hown4
            rw [← HNK.out.2] at hown4
            have HOWN4 := Lib.hid hown4
            have HTH := Lib.hid hth
            clear htl hth hown3 hown4
            have hN2 : N ≤ 1001 := HN1.out
            gi_wp2_with (gi_at_builtin; refine wpListIn_append_own _ rfl _ _ 52 rfl (W.heap.size + 1) 24 i0 (.slice none 0 0) 1 24 Tryd.underlying52 hi hz0 hz1 hz2 rfl (by decide) _ N _ rfl (HOWN4.out.alloc _) ⟨W3.heap.size, 0, none⟩ 1 1 [.slice Ax lx.length cx] rfl rfl (by have h := cell_one_new (W3.setCell ⟨g, K, none⟩ (.slice (some ⟨b1, o1, none⟩) 0 0)) (.slice Ax lx.length cx) 24; simp only [World.size_setCell] at h; exact h) (by simp [Value.oneCell']) (by unfold maxLen; omega) (by omega) (by simp; omega) ?_; intro v1 w1 hown1 hgrow1 _)
            have hst : Below (W.heap.size + 1) W3 w1 := below_grown (((Below.refl _ W3).setCell HG.out _).alloc (by simp; omega) _) (HOWN4.out.alloc _) (Nat.le_refl _) (by simp; omega) hgrow1
            have hfin : Goes (.node kd op nm nu A c ks) B0 D w0 W J v1 (wst (⟨Ax, cx, lx⟩ :: ⟨some ⟨b1, o1, none⟩, 0, []⟩ :: rs)) w1 := by
              have hr0 := HROOM.out
              have hdp := depths_head kx ux ox nx Ax cx lx []
              refine ⟨pre ++ [N], ⟨Ax, cx, lx⟩ :: ⟨some ⟨b1, o1, none⟩, 0, []⟩ :: rs, ?_, rfl, ⟨?_, ?_, hr0.2⟩, ?_, ?_, HJ.out _ _ _ hJ3 (by omega) (hst.mono (by omega)), by have := hst.size; omega, hbw3.trans (hst.mono (by omega))⟩
              · rw [HPRE.out, rest_cons, HNK.out.1, List.append_assoc]
                rfl
              · have := hr0.1
                simp only [List.length_cons] at this ⊢
                omega
              · have := hr0.1
                simp only at this ⊢
                omega
              · intro h hh
                rcases List.mem_cons.1 hh with rfl | hh
                · exact .of_kids hkin.kids (hbw3.trans (hst.mono (by omega))) (fun b hb => .inl hb)
                · refine HdAt.keep (w := W3) ?_ (fun b hT => hst.block b (by omega))
                  rcases List.mem_cons.1 hh with rfl | hh
                  · exact HTH.out
                  · exact hall3 h (List.mem_cons_of_mem _ hh)
              · rw [row_cons]
                have := hown1
                rw [HNK.out.1] at this
                exact this
            go_roundw
            case rel => exact ⟨_, hfin⟩
            case measure =>
              refine Nat.lt_of_le_of_lt (HM.out (_, w1) _ hfin).2 ?_
              rw [← HWST.out]
              simp only [wst_cons, weighs_cons, weigh_node]
              omega
          · have HH1 := Lib.hid h1
            have hth : HdAt (fun b => b < B0 ∨ b = W.heap.size) w0 B0 W3 ⟨some ⟨b1, o1 + 5, none⟩, c1 - 1, r⟩ := htl
            have hown4 := own_put hown3 K (Hd.val ⟨some ⟨b1, o1 + 5, none⟩, c1 - 1, r⟩)
            rw [HNK.out.2, row_set] at hown4
            unfold Hd.val at hown4
            simp only at hown4
            rw [← HNK.out.2] at hown4
            have HOWN4 := Lib.hid hown4
            have HTH := Lib.hid hth
            clear htl hth hown3 hown4
            have hN2 : N ≤ 1001 := HN1.out
            gi_wp2_with (gi_at_builtin; refine wpListIn_append_own _ rfl _ _ 52 rfl (W.heap.size + 1) 24 i0 (.slice none 0 0) 1 24 Tryd.underlying52 hi hz0 hz1 hz2 rfl (by decide) _ N _ rfl (HOWN4.out.alloc _) ⟨W3.heap.size, 0, none⟩ 1 1 [.slice Ax lx.length cx] rfl rfl (by have h := cell_one_new (W3.setCell ⟨g, K, none⟩ (.slice (some ⟨b1, o1 + 5, none⟩) r.length (c1 - 1))) (.slice Ax lx.length cx) 24; simp only [World.size_setCell] at h; exact h) (by simp [Value.oneCell']) (by unfold maxLen; omega) (by omega) (by simp; omega) ?_; intro v1 w1 hown1 hgrow1 _)
            have hst : Below (W.heap.size + 1) W3 w1 := below_grown (((Below.refl _ W3).setCell HG.out _).alloc (by simp; omega) _) (HOWN4.out.alloc _) (Nat.le_refl _) (by simp; omega) hgrow1
            have hfin : Goes (.node kd op nm nu A c ks) B0 D w0 W J v1 (wst (⟨Ax, cx, lx⟩ :: ⟨some ⟨b1, o1 + 5, none⟩, c1 - 1, r⟩ :: rs)) w1 := by
              have hr0 := HROOM.out
              have hdp := depths_head kx ux ox nx Ax cx lx r
              refine ⟨pre ++ [N], ⟨Ax, cx, lx⟩ :: ⟨some ⟨b1, o1 + 5, none⟩, c1 - 1, r⟩ :: rs, ?_, rfl, ⟨?_, ?_, hr0.2⟩, ?_, ?_, HJ.out _ _ _ hJ3 (by omega) (hst.mono (by omega)), by have := hst.size; omega, hbw3.trans (hst.mono (by omega))⟩
              · rw [HPRE.out, rest_cons, HNK.out.1, List.append_assoc]
                rfl
              · have := hr0.1
                simp only [List.length_cons] at this ⊢
                omega
              · have := hr0.1
                simp only at this ⊢
                omega
              · intro h hh
                rcases List.mem_cons.1 hh with rfl | hh
                · exact .of_kids hkin.kids (hbw3.trans (hst.mono (by omega))) (fun b hb => .inl hb)
                · refine HdAt.keep (w := W3) ?_ (fun b hT => hst.block b (by omega))
                  rcases List.mem_cons.1 hh with rfl | hh
                  · exact HTH.out
                  · exact hall3 h (List.mem_cons_of_mem _ hh)
              · rw [row_cons]
                have := hown1
                rw [HNK.out.1] at this
                exact this
            go_roundw
            case rel => exact ⟨_, hfin⟩
            case measure =>
              refine Nat.lt_of_le_of_lt (HM.out (_, w1) _ hfin).2 ?_
              rw [← HWST.out]
              simp only [wst_cons, weighs_cons, weigh_node]
              omega
        · gi_wp2
          refine bodyPost_ret (results_none rfl _ _ _) rfl ?_
          exact ⟨⟨_, rfl⟩, .inr ⟨pre ++ [N], ⟨_, by rw [HPRE.out, rest_cons, HNK.out.1, List.append_assoc]; rfl⟩, hJx3⟩⟩

/-- The iterator's contract. -/
theorem depths_give (n : Nat) (hn : 1 ≤ n) (B0 Bx : Nat) (e : Ex) (w0 w : World) (he : ExIn w0 B0 e) (hw : Below B0 w0 w) (hB : B0 ≤ w.heap.size) (hd : depthOf e ≤ 1000) (hbx : Box w Bx 26 e.cells.toArray) :
    SeqFree Fence.wide n Tryd.prog 24 #[.pointer (some ⟨Bx, 0, none⟩)] (fun x : Nat => #[.int .i64 (x : Int)]) B0 (preD 1 e) w :=
  fun l J Jx W hW hJ hY hJ0 => iter_in n hn B0 Bx l e w0 W he (hw.trans (hW.mono hB)) (Nat.le_trans hB hW.size) hd J Jx hJ hY (hbx.below hW hbx.lt) hJ0

theorem depths_any (e : Ex) (w : World) : Calls Tryd.prog 11 #[e.val] w fun r w' => r = .returned (.func (.func 24) #[] #[.pointer (some ⟨w.heap.size, 0, none⟩)]) ∧ w' = w.alloc (.cells e.cells.toArray 26) := by
  obtain ⟨kd, op, nm, nu, A, c, ks⟩ := e
  unfold Ex.val Ex.cells
  simp only
  go_enter Tryd.func11, Tryd.ntmps11
  go_wp2
  go_ret
  exact ⟨rfl, rfl⟩

end Go.Proofs.YtogpicfofifbkaaDoor.LandedT
