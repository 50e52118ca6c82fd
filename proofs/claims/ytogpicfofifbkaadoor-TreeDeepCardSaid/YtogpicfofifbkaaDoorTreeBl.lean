/- What the landed Bool gives. No condition but sizes. -/
import Derived.Test.YtogpicfofifbkaaDoorTreeSeq
import Derived.Test.YtogpicfofifbkaaDoorTreeThree
namespace Go.Proofs.YtogpicfofifbkaaDoor.LandedT
open Go.RowKit

/-- What Bool has still to do. -/
def Todo (w : World) (V : Bool) (D : Nat) (v : Value) (n : Nat) (wr : World) : Prop :=
  ∃ st : List Hd, wst st = n ∧ st.all (fun x => x.l.all boolOk) = V ∧ Room 2 D st ∧ (∀ h ∈ st, HdAt (fun b => b < w.heap.size + 2) w w.heap.size wr h ∧ h.l.length ≤ 2) ∧
    wr.ownsRow (w.heap.size + 2) 24 1 v st.length (rowOf st) ∧ Below w.heap.size w wr ∧ w.heap.size + 2 ≤ wr.heap.size
/-- The same, within a list. -/
def Half (w : World) (V : Bool) (D M R : Nat) (h : Hd) (v i : Value) (wr : World) : Prop :=
  ∃ (k : Nat) (st : List Hd), k ≤ h.l.length ∧ i = .int .i64 k ∧ (st.all (fun x => x.l.all boolOk) && (h.l.drop k).all boolOk) = V ∧ Room 2 D st ∧ st.length ≤ R + k ∧ wst st + weighs (h.l.drop k) < M ∧
    (∀ x ∈ st, HdAt (fun b => b < w.heap.size + 2) w w.heap.size wr x ∧ x.l.length ≤ 2) ∧ HdAt (fun b => b < w.heap.size + 2) w w.heap.size wr h ∧
    wr.ownsRow (w.heap.size + 2) 24 1 v st.length (rowOf st) ∧ Below w.heap.size w wr ∧ w.heap.size + 2 ≤ wr.heap.size

set_option maxRecDepth 100000 in
set_option maxHeartbeats 8000000 in
theorem bool_any (e : Ex) (w : World) (hin : ExIn w w.heap.size e) (hd : depthOf e ≤ 1000) : Calls Tryd.prog 7 #[e.val] w (Quietly (.bool (boolOk e)) w) := by
  obtain ⟨i0, hi, hz0, hz1, hz2⟩ := info_parts infoList
  obtain ⟨D, hD⟩ : ∃ D, D = depthOf e := ⟨_, rfl⟩
  obtain ⟨V, hV⟩ : ∃ V, V = boolOk e := ⟨_, rfl⟩
  rw [← hV]
  obtain ⟨mv, hmv⟩ := least_measure (fun n (p : Value × World) => Todo w V D p.1 n p.2)
  have HM := Lib.hid hmv
  have HA : Hid (∀ t u, Todo w V D (.slice (some ⟨w.heap.size + 2, 0, none⟩) 1 1) (wst [⟨some ⟨w.heap.size + 1, 0, none⟩, 1, [e]⟩]) (((w.alloc (.cells e.cells.toArray t)).alloc (.cells e.cells.toArray u)).alloc (.cells #[.slice (some ⟨w.heap.size + 1, 0, none⟩) 1 1] 24))) := by
    intro t u
    obtain ⟨x0, x1⟩ := two_boxes (w.alloc (.cells e.cells.toArray t)) e.cells.toArray #[.slice (some ⟨w.heap.size + 1, 0, none⟩) 1 1] u 24
    rw [World.size_alloc] at x0 x1
    have hbe : Below w.heap.size w (((w.alloc (.cells e.cells.toArray t)).alloc (.cells e.cells.toArray u)).alloc (.cells #[.slice (some ⟨w.heap.size + 1, 0, none⟩) 1 1] 24)) := below_alloc (two_below w _ _) (Nat.le_refl _) _
    refine ⟨_, rfl, ?_, ⟨?_, trivial⟩, fun h hh => ?_, row_start x1 (Nat.le_refl _), hbe, by simp⟩
    · rw [hV]; simp
    · show 0 + 2 * depthsOf 0 [e] ≤ 2 * D
      rw [depths_one, hD]
      omega
    · have : h = ⟨some ⟨w.heap.size + 1, 0, none⟩, 1, [e]⟩ := by simpa using hh
      rw [this]
      exact ⟨hd_start hin (by omega) x0, by simp⟩
  have HD : Hid (D ≤ 1000) := by rw [hD]; exact hd
  clear hmv hD hd hV hin
  obtain ⟨kd, op, nm, nu, A, c, ks⟩ := e
  unfold Ex.val
  simp only
  go_enter Tryd.func7, Tryd.ntmps7
  go_wp2
  go_loopw [3] (fun v wr => ∃ n, Todo w V D v n wr) (fun v wr => mv (v, wr))
  case atStart => exact ⟨_, HA.out _ _⟩
  case round =>
    clear HA
    obtain ⟨n1, hr⟩ := hrel
    obtain ⟨⟨st, hwst, hV, hroom, hall, hown, hbw, hsz⟩, _⟩ := HM.out (_, wr) n1 hr
    clear hr
    simp only at hwst hall hown hbw hsz
    rcases st with _ | ⟨h0, rs⟩
    · have hV' : V = true := by rw [← hV]; rfl
      obtain ⟨A3, c3, rfl, _, _⟩ := own_form hown
      have HP := Lib.hid hV'
      clear hV hV' hwst hroom hall hown
      go_wp2
      go_ret
      exact ⟨by rw [HP.out]; rfl, hbw⟩
    · obtain ⟨N, hN⟩ : ∃ N, N = rs.length + 1 := ⟨_, rfl⟩
      obtain ⟨K, hK⟩ : ∃ K, K = rs.length := ⟨_, rfl⟩
      have hNK : N = K + 1 := by omega
      have hlen : (h0 :: rs).length = N := by rw [hN]; rfl
      rw [hlen] at hown
      have hro := room_len hroom
      rw [hlen] at hro
      obtain ⟨g, cap, rfl⟩ : ∃ g cap, u3 = .slice (some ⟨g, 0, none⟩) N cap := by rw [hNK] at hown ⊢; exact ownsRow_succ hown
      obtain ⟨cur, hbx, hgB, hncap, hcapm, _, _⟩ := own_box hown
      obtain ⟨cc, cf, cl⟩ := own_cell hown (by rw [hN] at hlen; exact row_top h0 rs)
      rw [← hK] at cc cf
      unfold Hd.val at cc
      have hN1 : N ≤ 2001 := by have := HD.out; omega
      have m1 : IntKind.i64.wrap ((N : Int) - 1) = (K : Int) := by rw [IntWalk.i64_in _ (by omega)]; omega
      have m2 : (0 : Int) < (N : Int) := by omega
      have m2n : 0 < N := by omega
      have m2d : decide (0 < N) = true := by simp; omega
      have m3 : (K : Int) < (N : Int) := by omega
      have m4 : (0 : Int) ≤ (K : Int) := by omega
      have m5 : (K : Int) ≤ (cap : Int) := by omega
      have HNK : Hid (N = rs.length + 1 ∧ K = rs.length) := ⟨hN, hK⟩
      have hpop := hown
      rw [hNK, show (K + 1 : Nat) = K + 1 from rfl, row_cons] at hpop
      obtain ⟨g', cap', hge, hpop⟩ := own_pop (by rw [row_len, Nat.mul_one]; omega) hpop
      cases hge
      have HS : Hid (Half w V D (mv (.slice (some ⟨g, 0, none⟩) N cap, wr)) rs.length h0 (.slice (some ⟨g, 0, none⟩) K cap) (.int .i64 0) wr) := by
        refine ⟨0, rs, Nat.zero_le _, rfl, ?_, hroom.2, Nat.le_refl _, ?_, fun x hx => hall x (List.mem_cons_of_mem _ hx), (hall _ (List.mem_cons_self ..)).1, by rw [← hK]; exact hpop, hbw, hsz⟩
        · rw [← hV, List.drop_zero, List.all_cons, Bool.and_comm]
        · rw [← hwst, wst_cons, List.drop_zero]; omega
      have HL : Hid (h0.l.length ≤ 2 ∧ rs.length + 2 * depthsOf 0 h0.l ≤ 2 * D ∧ N ≤ 2001) := ⟨(hall _ (List.mem_cons_self ..)).2, hroom.1, hN1⟩
      clear hN hK hNK hlen hro hbx hwst hroom hall hown hN1 hncap hcapm hgB hpop hV hbw hsz cl
      obtain ⟨A0, c0, l0⟩ := h0
      simp only at cc HS HL
      obtain ⟨M, hM⟩ : ∃ M, M = mv (.slice (some ⟨g, 0, none⟩) N cap, wr) := ⟨_, rfl⟩
      rw [← hM] at HS
      have HMM := Lib.hid hM
      clear hM
      go_wp2
      rename World => wo
      clear cc cf m1 m2 m2n m2d m3 m4 m5
      go_loopw [3, 31] (fun v i wr => Half w V D M rs.length ⟨A0, c0, l0⟩ v i wr) (fun _ i _ => l0.length - (intOf i).toNat)
      case atStart => exact HS.out
      case round =>
        clear HS
        obtain ⟨k, st, hk, rfl, hV, hroom, hlen, hwst, hall, hh, hown, hbw, hsz⟩ := hrel
        simp only at hk hV hwst
        by_cases hlt : k < l0.length
        · obtain ⟨b, o, hA0, hT, hat, hkin⟩ := hh.at (k := k) (by show l0[k]? = _; exact List.getElem?_eq_getElem hlt)
          simp only at hA0
          subst hA0
          obtain ⟨x, hx⟩ : ∃ x, x = l0[k] := ⟨_, rfl⟩
          rw [← hx] at hat hkin
          have hdrop : l0.drop k = x :: l0.drop (k + 1) := by rw [hx]; exact List.drop_eq_getElem_cons hlt
          rw [hdrop] at hV hwst
          rw [weighs_cons] at hwst
          rw [List.all_cons] at hV
          have HC := Lib.hid (fun W => told_any x W)
          have hdx : depthOf x ≤ depthsOf 0 l0 := depth_kid (by rw [hx]; exact List.getElem_mem hlt)
          obtain ⟨kx, ox, nx, ux, Ax, cx, lx⟩ := x
          obtain ⟨e0, e1, e2, e3, e4⟩ := hat
          have hs := told_seven kx ux ox nx Ax cx lx
          unfold Ex.val at HC
          simp only at HC
          have hki : (k : Int) < (l0.length : Int) := by omega
          have hl0 : l0.length ≤ 2 := HL.out.1
          have HV := Lib.hid hV
          have HROOM := Lib.hid hroom
          have HLEN := Lib.hid hlen
          have HWST := Lib.hid hwst
          have HALL := Lib.hid hall
          have HH := Lib.hid hh
          have HOWN := Lib.hid hown
          have HKIN := Lib.hid hkin
          have HDX := Lib.hid hdx
          have HBW := Lib.hid hbw
          obtain ⟨A3, c3, rfl, _, _⟩ := own_form hown
          clear hx hdrop hV hroom hlen hwst hall hh hown hkin hdx hT
          rcases hs with ⟨h1, h2⟩ | ⟨h1, h2⟩ | ⟨h1, h2⟩ | ⟨h1, h2⟩ | ⟨h1, h2⟩ | ⟨h1, h2⟩ | ⟨h1, h2⟩
          · have hx0 : boolOk (.node kx ox nx ux Ax cx lx) = false := told_nobool (by rw [h1]; decide) (by rw [h1]; decide)
            have hF : V = false := by rw [← HV.out, hx0, Bool.false_and, Bool.and_false]
            have HF := Lib.hid hF
            rw [h2] at HC
            have fa := as_condition_nil
            clear h1 h2 hx0 hF
            go_wp2_with fail
            refine (HC.out _).mono ?_
            rintro r w1 ⟨rfl, hb1⟩
            go_wp2
            go_ret
            exact ⟨by rw [HF.out]; rfl, below_step HBW.out (Nat.le_refl _) (unbox hb1)⟩
          · obtain ⟨hbx, hl2⟩ := told_joined h1
            rw [h2] at HC
            have fa := as_condition_joined
            have fb := as_joined_joined
            have HBX := Lib.hid hbx
            have HL2 := Lib.hid hl2
            have hst1 : st.length ≤ 2001 := by have := HLEN.out; have := HL.out; have := HNK.out; omega
            clear h1 h2 hbx hl2
            go_wp2_with fail
            refine (HC.out _).mono ?_
            rintro r w1 ⟨rfl, hb1⟩
            have hb2 := unbox hb1
            have hown1 := own_below HOWN.out hb2
            have hsz1 : w.heap.size + 2 ≤ w1.heap.size := Nat.le_trans hsz hb2.size
            go_wp2_with (at_builtin; refine wpList_append_lit _ rfl (.tmp 50) (.tmp 52) _ rfl (w.heap.size + 2) 24 i0 (.slice none 0 0) 1 24 Tryd.underlying52 hi hz0 hz1 hz2 rfl (by decide) _ st.length _ rfl hown1 _ _ 1 1 rfl rfl (by simp [Value.oneCell']) (by unfold maxLen; omega) (by omega) hsz1 ?_; intro v2 w2 hown2 hgrow2)
            have hst : Below (w.heap.size + 2) wr w2 := below_grown (((hb2.mono hsz)).alloc hsz1 _) (hown1.alloc (.cells #[.slice Ax lx.length cx] 24)) (Nat.le_refl _) (by simp; omega) hgrow2
            have hfin : Half w V D M rs.length ⟨some ⟨b, o, none⟩, c0, l0⟩ v2 (.int .i64 ((k : Int) + 1)) w2 := by
              refine ⟨k + 1, ⟨Ax, cx, lx⟩ :: st, by show k + 1 ≤ l0.length; omega, rfl, ?_, ⟨?_, HROOM.out⟩, ?_, ?_, ?_, HH.out.keep (fun b hT => hst.block b hT), ?_, HBW.out.trans (hst.mono (by omega)), by have := hst.size; omega⟩
              · rw [← HV.out, HBX.out, List.all_cons]
                show (lx.all boolOk && st.all (fun x => x.l.all boolOk) && (l0.drop (k + 1)).all boolOk) = _
                generalize lx.all boolOk = q1
                generalize st.all (fun x => x.l.all boolOk) = q2
                generalize (l0.drop (k + 1)).all boolOk = q3
                cases q1 <;> cases q2 <;> cases q3 <;> rfl
              · have := HLEN.out
                have := HL.out
                have h3 := HDX.out
                rw [depth_node] at h3
                show st.length + 2 * depthsOf 0 lx ≤ 2 * D
                omega
              · have := HLEN.out
                show st.length + 1 ≤ rs.length + (k + 1)
                omega
              · have := HWST.out
                rw [weigh_node] at this
                rw [wst_cons]
                show weighs lx + 1 + wst st + weighs (l0.drop (k + 1)) < M
                omega
              · intro y hy
                rcases List.mem_cons.1 hy with rfl | hy
                · exact ⟨.of_kids HKIN.out.kids (HBW.out.trans (hst.mono (by omega))) (fun b hb => by omega), HL2.out⟩
                · exact ⟨(HALL.out y hy).1.keep (fun b hT => hst.block b hT), (HALL.out y hy).2⟩
              · rw [row_cons]
                exact hown2
            go_roundw
            case rel => exact hfin
            case measure => simp [intOf]; omega
          · obtain ⟨a, b', hkl, hbx⟩ := told_cmp h1
            have hl2 : lx.length = 2 := by rw [hkl]; rfl
            rw [h2] at HC
            rw [hl2] at HC e4
            have fa := as_condition_comparison
            have fb := as_joined_comparison
            have fc := as_must
            have hks := HKIN.out.kids
            have HR := Lib.hid (fun W (hW : Below w.heap.size w W) => right_any a b' Ax cx W (by have := hks.nextE hW; rw [hkl] at this; exact this))
            have HBX := Lib.hid hbx
            obtain ⟨B, hB⟩ : ∃ B, B = (maskOk a && numOk b') := ⟨_, rfl⟩
            rw [← hB] at HBX HR
            clear h1 h2 hl2 hks hbx hkl hB
            cases B
            · have hF : V = false := by rw [← HV.out, HBX.out, Bool.false_and, Bool.and_false]
              have HF := Lib.hid hF
              clear hF
              go_wp2_with fail
              refine (HC.out _).mono ?_
              rintro r w1 ⟨rfl, hb1⟩
              have hb2 := unbox hb1
              have hbw1 := below_step HBW.out (Nat.le_refl _) hb2
              go_wp2_with fail
              refine (HR.out _ hbw1).mono ?_
              rintro r w2 ⟨rfl, hb3⟩
              go_wp2
              go_ret
              exact ⟨by rw [HF.out]; rfl, below_step hbw1 (Nat.le_refl _) hb3⟩
            · go_wp2_with fail
              refine (HC.out _).mono ?_
              rintro r w1 ⟨rfl, hb1⟩
              have hb2 := unbox hb1
              have hbw1 := below_step HBW.out (Nat.le_refl _) hb2
              go_wp2_with fail
              refine (HR.out _ hbw1).mono ?_
              rintro r w2 ⟨rfl, hb3⟩
              have hb4 : Below wr.heap.size wr w2 := below_step hb2 (Nat.le_refl _) hb3
              have hst : Below (w.heap.size + 2) wr w2 := hb4.mono hsz
              have hfin : Half w V D M rs.length ⟨some ⟨b, o, none⟩, c0, l0⟩ (.slice A3 st.length c3) (.int .i64 ((k : Int) + 1)) w2 := by
                refine ⟨k + 1, st, by show k + 1 ≤ l0.length; omega, rfl, ?_, HROOM.out, by have := HLEN.out; omega, ?_, fun y hy => ⟨(HALL.out y hy).1.keep (fun b hT => hst.block b hT), (HALL.out y hy).2⟩, HH.out.keep (fun b hT => hst.block b hT), own_below HOWN.out hb4, HBW.out.trans (hst.mono (by omega)), by have := hst.size; omega⟩
                · rw [← HV.out, HBX.out, Bool.true_and]
                · have := HWST.out
                  rw [weigh_node] at this
                  show wst st + weighs (l0.drop (k + 1)) < M
                  omega
              go_wp2
              go_roundw
              case rel => exact hfin
              case measure => simp [intOf]; omega
          · have hx0 : boolOk (.node kx ox nx ux Ax cx lx) = false := told_nobool (by rw [h1]; decide) (by rw [h1]; decide)
            have hF : V = false := by rw [← HV.out, hx0, Bool.false_and, Bool.and_false]
            have HF := Lib.hid hF
            rw [h2] at HC
            have fa := as_condition_masked
            clear h1 h2 hx0 hF
            go_wp2_with fail
            refine (HC.out _).mono ?_
            rintro r w1 ⟨rfl, hb1⟩
            go_wp2
            go_ret
            exact ⟨by rw [HF.out]; rfl, below_step HBW.out (Nat.le_refl _) (unbox hb1)⟩
          · have hx0 : boolOk (.node kx ox nx ux Ax cx lx) = false := told_nobool (by rw [h1]; decide) (by rw [h1]; decide)
            have hF : V = false := by rw [← HV.out, hx0, Bool.false_and, Bool.and_false]
            have HF := Lib.hid hF
            rw [h2] at HC
            have fa := as_condition_bits
            clear h1 h2 hx0 hF
            go_wp2_with fail
            refine (HC.out _).mono ?_
            rintro r w1 ⟨rfl, hb1⟩
            go_wp2
            go_ret
            exact ⟨by rw [HF.out]; rfl, below_step HBW.out (Nat.le_refl _) (unbox hb1)⟩
          · have hx0 : boolOk (.node kx ox nx ux Ax cx lx) = false := told_nobool (by rw [h1]; decide) (by rw [h1]; decide)
            have hF : V = false := by rw [← HV.out, hx0, Bool.false_and, Bool.and_false]
            have HF := Lib.hid hF
            rw [h2] at HC
            have fa := as_condition_name
            clear h1 h2 hx0 hF
            go_wp2_with fail
            refine (HC.out _).mono ?_
            rintro r w1 ⟨rfl, hb1⟩
            go_wp2
            go_ret
            exact ⟨by rw [HF.out]; rfl, below_step HBW.out (Nat.le_refl _) (unbox hb1)⟩
          · have hx0 : boolOk (.node kx ox nx ux Ax cx lx) = false := told_nobool (by rw [h1]; decide) (by rw [h1]; decide)
            have hF : V = false := by rw [← HV.out, hx0, Bool.false_and, Bool.and_false]
            have HF := Lib.hid hF
            rw [h2] at HC
            have fa := as_condition_num
            clear h1 h2 hx0 hF
            go_wp2_with fail
            refine (HC.out _).mono ?_
            rintro r w1 ⟨rfl, hb1⟩
            go_wp2
            go_ret
            exact ⟨by rw [HF.out]; rfl, below_step HBW.out (Nat.le_refl _) (unbox hb1)⟩
        · obtain rfl : k = l0.length := by omega
          obtain ⟨A3, c3, rfl, _, _⟩ := own_form hown
          rw [List.drop_length] at hV hwst
          have hfin : Todo w V D (.slice A3 st.length c3) (wst st) wr := ⟨st, rfl, by rw [← hV]; simp, hroom, hall, hown, hbw, hsz⟩
          have HFIN := Lib.hid hfin
          have HW := Lib.hid hwst
          clear hV hroom hlen hwst hall hh hown hbw hsz hfin
          go_wp2
          go_roundw
          case rel => exact ⟨_, HFIN.out⟩
          case measure =>
            refine Nat.lt_of_le_of_lt (HM.out (_, wr) _ HFIN.out).2 ?_
            have := HW.out
            rw [HMM.out, weighs_nil] at this
            exact this

end Go.Proofs.YtogpicfofifbkaaDoor.LandedT
