/- What the document's own Same gives. -/
import Derived.Test.YtfklajkmikanbaaGreatDoorTreeParts
namespace Go.Proofs.YtfklajkmikanbaaGreatDoor
open Go.RowKit

theorem dfn_name {a b : Dfn} (h : sameStr a.name b.name = false) : sameDfn a b = false := by unfold sameDfn; rw [h]; rfl
theorem dfn_ex {a b : Dfn} (h : sameEx a.ex b.ex = false) : sameDfn a b = false := by unfold sameDfn; rw [h]; simp
theorem dfn_all {a b : Dfn} (h1 : sameStr a.name b.name = true) (h2 : sameEx a.ex b.ex = true) : sameDfn a b = true := by unfold sameDfn; rw [h1, h2]; rfl
theorem pol_name {a b : Pol} (h : sameStr a.name b.name = false) : samePol a b = false := by unfold samePol; rw [h]; rfl
theorem pol_alike {a b : Pol} (h : alikes samePar a.parts b.parts = false) : samePol a b = false := by unfold samePol; rw [h]; simp
theorem pol_all {a b : Pol} (h1 : sameStr a.name b.name = true) (h2 : alikes samePar a.parts b.parts = true) : samePol a b = true := by unfold samePol; rw [h1, h2]; rfl
theorem unt_defs {u v : Unt} (h : alikes sameDfn u.defs v.defs = false) : sameUnt u v = false := by unfold sameUnt; rw [h]; rfl
theorem unt_pols {u v : Unt} (h : alikes samePol u.pols v.pols = false) : sameUnt u v = false := by unfold sameUnt; rw [h]; simp
theorem unt_main {u v : Unt} (h : alikes sameStr u.main v.main = false) : sameUnt u v = false := by unfold sameUnt; rw [h]; simp
theorem unt_act {u v : Unt} (h : (u.kind == v.kind && u.data == v.data) = false) : sameUnt u v = false := by unfold sameUnt; rw [h]; simp
theorem unt_all {u v : Unt} (h1 : alikes sameDfn u.defs v.defs = true) (h2 : alikes samePol u.pols v.pols = true) (h3 : alikes sameStr u.main v.main = true) (h4 : (u.kind == v.kind && u.data == v.data) = true) : sameUnt u v = true := by
  unfold sameUnt
  rw [h1, h2, h3, h4]
  rfl

set_option maxRecDepth 100000 in
set_option maxHeartbeats 16000000 in
theorem refSame_any (u v : Unt) (w : World) (hu : UntIn w w.heap.size u) (hv : UntIn w w.heap.size v) (hs : UntSmall u) : Calls Tryz.prog 7 #[u.val, v.val] w (Quietly (.bool (sameUnt u v)) w) := by
  obtain ⟨V, hV⟩ : ∃ V, V = sameUnt u v := ⟨_, rfl⟩
  rw [← hV]
  have HUI := Lib.hid hu
  have HVI := Lib.hid hv
  have HS := Lib.hid hs
  have hbb : ∀ a b, Below w.heap.size w ((w.alloc a).alloc b) := fun a b => below_alloc (boxed w a) (Nat.le_refl _) b
  have hnd := hs.ndefs
  have hnp := hs.npols
  have hnm := hs.nmain
  have HD : Hid (alikes sameDfn u.defs v.defs = false → V = false) := fun h => by rw [hV]; exact unt_defs h
  have HP : Hid (alikes samePol u.pols v.pols = false → V = false) := fun h => by rw [hV]; exact unt_pols h
  have HM : Hid (alikes sameStr u.main v.main = false → V = false) := fun h => by rw [hV]; exact unt_main h
  have HA : Hid ((u.kind == v.kind && u.data == v.data) = false → V = false) := fun h => by rw [hV]; exact unt_act h
  have HE : Hid (alikes sameDfn u.defs v.defs = true → alikes samePol u.pols v.pols = true → alikes sameStr u.main v.main = true → (u.kind == v.kind && u.data == v.data) = true → V = true) := fun h1 h2 h3 h4 => by rw [hV]; exact unt_all h1 h2 h3 h4
  have HSM := Lib.hid (fun W (hW : Below w.heap.size w W) => refSameL_any u.mA v.mA u.mc v.mc u.main v.main W (hu.main.nextS hW) (hv.main.nextS hW) (Nat.le_trans hnm (by decide)))
  have q1 := fun W => eq_act u.kind u.data v.kind v.data W
  have g0 := Tryz.eqGuardType27
  clear hV hu hv hs
  obtain ⟨dA, dc, defs, pA, pc, pols, mA, mc, main, kind, data⟩ := u
  obtain ⟨dA', dc', defs', pA', pc', pols', mA', mc', main', kind', data'⟩ := v
  simp only at hnd hnp hnm HD HP HM HA HE HSM q1
  unfold Unt.val
  simp only
  by_cases h1 : defs.length = defs'.length
  · by_cases h2 : pols.length = pols'.length
    · have l1 : (((defs.length : Int) != (defs'.length : Int)) = false) := by simp; omega
      have l2 : (((pols.length : Int) != (pols'.length : Int)) = false) := by simp; omega
      cases h3 : alikes sameStr main main' with
      | false =>
        have HF := Lib.hid (HM.out h3)
        rw [h3] at HSM
        clear h3 h1 h2
        go_enter Tryz.func7, Tryz.ntmps7
        go_wp2_with fail
        refine (HSM.out _ (hbb _ _)).mono ?_
        rintro r w1 ⟨rfl, hb1⟩
        go_wp2
        go_ret
        exact ⟨by rw [HF.out]; rfl, below_step (hbb _ _) (Nat.le_refl _) hb1⟩
      | true =>
        rw [h3] at HSM
        cases h4 : (kind == kind' && data == data') with
        | false =>
          have HF := Lib.hid (HA.out h4)
          rw [h4] at q1
          clear h3 h1 h2 h4
          go_enter Tryz.func7, Tryz.ntmps7
          go_wp2_with fail
          refine (HSM.out _ (hbb _ _)).mono ?_
          rintro r w1 ⟨rfl, hb1⟩
          obtain ⟨_, _, _, a3, a4, a5⟩ := box_unt (((Box.new w 29 #[.slice dA defs.length dc, .slice pA pols.length pc, .slice mA main.length mc, .int .i64 kind, .int .i64 data]).alloc _).step hb1)
          obtain ⟨_, _, _, b3, b4, b5⟩ := box_unt ((box_two w _ 29 #[.slice dA' defs'.length dc', .slice pA' pols'.length pc', .slice mA' main'.length mc', .int .i64 kind', .int .i64 data']).step hb1)
          go_wp2
          go_ret
          exact ⟨by rw [HF.out]; rfl, below_step (hbb _ _) (Nat.le_refl _) hb1⟩
        | true =>
          rw [h4] at q1
          have HL1 := Lib.hid h1
          have HL2 := Lib.hid h2
          have HDA : Hid (∀ (k : Nat) (a b : Dfn), defs[k]? = some a → defs'[k]? = some b → sameDfn a b = false → V = false) := fun k a b a1 a2 a3 => HD.out (alikes_at _ _ k a b a1 a2 a3)
          have HPA : Hid (∀ (k : Nat) (a b : Pol), pols[k]? = some a → pols'[k]? = some b → samePol a b = false → V = false) := fun k a b a1 a2 a3 => HP.out (alikes_at _ _ k a b a1 a2 a3)
          have HEA : Hid ((∀ (k : Nat) (a b : Dfn), k < defs.length → defs[k]? = some a → defs'[k]? = some b → sameDfn a b = true) → (∀ (k : Nat) (a b : Pol), k < pols.length → pols[k]? = some a → pols'[k]? = some b → samePol a b = true) → V = true) := fun a1 a2 => HE.out (alikes_all _ _ HL1.out a1) (alikes_all _ _ HL2.out a2) h3 h4
          clear h1 h2 h3 h4 HD HP HM HA HE
          go_enter Tryz.func7, Tryz.ntmps7
          go_wp2_with fail
          refine (HSM.out _ (hbb _ _)).mono ?_
          rintro r w1 ⟨rfl, hb1⟩
          have hx1 := ((Box.new w 29 #[.slice dA defs.length dc, .slice pA pols.length pc, .slice mA main.length mc, .int .i64 kind, .int .i64 data]).alloc _).step hb1
          have hy1 := (box_two w _ 29 #[.slice dA' defs'.length dc', .slice pA' pols'.length pc', .slice mA' main'.length mc', .int .i64 kind', .int .i64 data']).step hb1
          obtain ⟨a0, a1, _, a3, a4, a5⟩ := box_unt hx1
          obtain ⟨b0, b1, _, b3, b4, b5⟩ := box_unt hy1
          have HX1 := Lib.hid hx1
          have HY1 := Lib.hid hy1
          have HB1 := Lib.hid (below_step (hbb _ _) (Nat.le_refl _) hb1)
          clear hx1 hy1 hb1
          go_wp2
          go_loopw [5] (fun i wr => Rounds sameDfn defs defs' w w.heap.size 29 #[.slice dA defs.length dc, .slice pA pols.length pc, .slice mA main.length mc, .int .i64 kind, .int .i64 data] #[.slice dA' defs'.length dc', .slice pA' pols'.length pc', .slice mA' main'.length mc', .int .i64 kind', .int .i64 data'] i wr) (fun i _ => defs.length - (intOf i).toNat)
          case atStart => exact ⟨⟨⟨0, Nat.zero_le _, rfl, fun j x y h => absurd h (by omega)⟩, HB1.out⟩, HX1.out, HY1.out⟩
          case round =>
            clear HX1 HY1 HB1 a0 a1 a3 a4 a5 b0 b1 b3 b4 b5
            obtain ⟨⟨⟨k, hk, rfl, hall⟩, hnx⟩, hbx, hby⟩ := hrel
            have HBX := Lib.hid hbx
            have HBY := Lib.hid hby
            have HALL := Lib.hid hall
            obtain ⟨a0, a1, _, a3, a4, a5⟩ := box_unt hbx
            obtain ⟨b0, b1, _, b3, b4, b5⟩ := box_unt hby
            clear hall hbx hby
            by_cases hlt : k < defs.length
            · have hlt' : k < defs'.length := by have := HL1.out; omega
              obtain ⟨b, o, name, kd, op, nm, nu, A, c, ks, hA, hb, hx, hxi, e0, e1, e2, e3, e4, e5⟩ := (HUI.out.defs.mono hnx (Q := DfnIn w w.heap.size) fun _ _ h => h).dfn hlt
              obtain ⟨b', o', name', kd', op', nm', nu', A', c', ks', hB, hb', hy, hyi, f0, f1, f2, f3, f4, f5⟩ := (HVI.out.defs.mono hnx (Q := DfnIn w w.heap.size) fun _ _ h => h).dfn hlt'
              simp only at hA hB
              subst hA hB
              have hes := (HS.out.defs _ (List.mem_of_getElem? hx)).ex
              have HI := Lib.hid (fun W (hW : Below w.heap.size w W) => refSameEx_any _ hes (.node kd' op' nm' nu' A' c' ks') W (hxi.ex.next hW) (hyi.ex.next hW))
              have HX := Lib.hid hx
              have HY := Lib.hid hy
              unfold Ex.val at HI
              simp only at HI
              have p0 : (0 : Int) ≤ (k : Int) := by omega
              have p1 : (k : Int) < (defs.length : Int) := by omega
              have p2 : (k : Int) < (defs'.length : Int) := by omega
              clear hx hy hxi hyi hes
              cases h1 : sameStr name name' with
              | false =>
                have HF : Hid (V = false) := HDA.out k _ _ HX.out HY.out (dfn_name h1)
                unfold sameStr at h1
                go_wp2_with fail
                go_quiet (fail)
                go_wp2
                go_ret
                exact ⟨by rw [HF.out]; rfl, below_drewN hnx _⟩
              | true =>
                cases h2 : sameEx (.node kd op nm nu A c ks) (.node kd' op' nm' nu' A' c' ks') with
                | false =>
                  have HF : Hid (V = false) := HDA.out k _ _ HX.out HY.out (dfn_ex h2)
                  rw [h2] at HI
                  unfold sameStr at h1
                  clear h2
                  go_wp2_with fail
                  refine wp_region_still_tail 26 (by kernel_rfl) (by kernel_rfl) ?_
                  simp only [List.take_succ_cons, List.take_zero, List.drop_succ_cons, List.drop_zero]
                  change wpStill _ _ (World.drew _) _ _ _
                  iterate 26 still_step
                  refine wpStill_nil ?_
                  change wpList _ _ _ _ _ (World.drew _)
                  go_wp2_with fail
                  refine (HI.out _ hnx.drew).mono ?_
                  rintro r w2 ⟨rfl, hb2⟩
                  go_wp2
                  go_ret
                  exact ⟨by rw [HF.out]; rfl, below_step hnx.drew (Nat.le_refl _) hb2⟩
                | true =>
                  rw [h2] at HI
                  have HALL2 : Hid (∀ (j : Nat) (x y : Dfn), j < k + 1 → defs[j]? = some x → defs'[j]? = some y → sameDfn x y = true) := fun j x y hj a1 a2 => by
                    by_cases e : j = k
                    · rw [e, HX.out] at a1
                      rw [e, HY.out] at a2
                      rw [← Option.some.inj a1, ← Option.some.inj a2]
                      exact dfn_all h1 h2
                    · exact HALL.out j x y (by omega) a1 a2
                  unfold sameStr at h1
                  clear h2
                  go_wp2_with fail
                  refine wp_region_still_tail 26 (by kernel_rfl) (by kernel_rfl) ?_
                  simp only [List.take_succ_cons, List.take_zero, List.drop_succ_cons, List.drop_zero]
                  change wpStill _ _ (World.drew _) _ _ _
                  iterate 26 still_step
                  refine wpStill_nil ?_
                  change wpList _ _ _ _ _ (World.drew _)
                  go_wp2_with fail
                  refine (HI.out _ hnx.drew).mono ?_
                  rintro r w2 ⟨rfl, hb2⟩
                  go_wp2
                  go_roundw
                  case rel => exact ⟨⟨⟨k + 1, by omega, by go_num, HALL2.out⟩, below_step hnx.drew (Nat.le_refl _) hb2⟩, HBX.out.drew.step hb2, HBY.out.drew.step hb2⟩
                  case measure => simp [intOf]; omega
            · obtain rfl : k = defs.length := by omega
              go_wp2
              clear a0 a1 a3 a4 a5 b0 b1 b3 b4 b5 hlt hk
              generalize wr = wa at hnx HBX HBY
              go_loopw [6] (fun i wr => Rounds samePol pols pols' w w.heap.size 29 #[.slice dA defs.length dc, .slice pA pols.length pc, .slice mA main.length mc, .int .i64 kind, .int .i64 data] #[.slice dA' defs'.length dc', .slice pA' pols'.length pc', .slice mA' main'.length mc', .int .i64 kind', .int .i64 data'] i wr) (fun i _ => pols.length - (intOf i).toNat)
              case atStart => exact ⟨⟨⟨0, Nat.zero_le _, rfl, fun j x y h => absurd h (by omega)⟩, hnx⟩, HBX.out, HBY.out⟩
              case round =>
                clear hnx HBX HBY
                obtain ⟨⟨⟨k, hk, rfl, hall⟩, hnx⟩, hbx, hby⟩ := hrel
                have HBX := Lib.hid hbx
                have HBY := Lib.hid hby
                have HALLP := Lib.hid hall
                obtain ⟨a0, a1, _, a3, a4, a5⟩ := box_unt hbx
                obtain ⟨b0, b1, _, b3, b4, b5⟩ := box_unt hby
                clear hall hbx hby
                by_cases hlt : k < pols.length
                · have hlt' : k < pols'.length := by have := HL2.out; omega
                  obtain ⟨b, o, x, hA, hb, hx, hxi, e0, e1⟩ := (HUI.out.pols.mono hnx (Q := PolIn w w.heap.size) fun _ _ h => h).pol hlt
                  obtain ⟨b', o', y, hB, hb', hy, hyi, f0, f1⟩ := (HVI.out.pols.mono hnx (Q := PolIn w w.heap.size) fun _ _ h => h).pol hlt'
                  simp only at hA hB
                  subst hA hB
                  have hxs := HS.out.pols _ (List.mem_of_getElem? hx)
                  have hnq := hxs.nparts
                  have HI := Lib.hid (fun W (hW : Below w.heap.size w W) => refParts_any x.A y.A x.c y.c x.parts y.parts W ((hxi.parts.mono hW fun _ _ h => h.below hW).wide hW.size fun _ _ h => h.wider hW.size) ((hyi.parts.mono hW fun _ _ h => h.below hW).wide hW.size fun _ _ h => h.wider hW.size) (Nat.le_trans hnq (by decide)) hxs.parts)
                  have HX := Lib.hid hx
                  have HY := Lib.hid hy
                  have HPN : Hid (sameStr x.name y.name = false → V = false) := fun h => HPA.out k x y hx hy (pol_name h)
                  have HPP : Hid (alikes samePar x.parts y.parts = false → V = false) := fun h => HPA.out k x y hx hy (pol_alike h)
                  have HPL : Hid (sameStr x.name y.name = true → alikes samePar x.parts y.parts = true → ∀ (j : Nat) (x y : Pol), j < k + 1 → pols[j]? = some x → pols'[j]? = some y → samePol x y = true) := fun h1 h2 j x' y' hj a1 a2 => by
                    by_cases e : j = k
                    · rw [e, hx] at a1
                      rw [e, hy] at a2
                      rw [← Option.some.inj a1, ← Option.some.inj a2]
                      exact pol_all h1 h2
                    · exact HALLP.out j x' y' (by omega) a1 a2
                  have p0 : (0 : Int) ≤ (k : Int) := by omega
                  have p1 : (k : Int) < (pols.length : Int) := by omega
                  have p2 : (k : Int) < (pols'.length : Int) := by omega
                  clear hx hy hxi hyi hxs hnq HX HY
                  obtain ⟨name, A, c, parts⟩ := x
                  obtain ⟨name', A', c', parts'⟩ := y
                  simp only at e0 e1 f0 f1 HI HPN HPP HPL
                  cases h1 : sameStr name name' with
                  | false =>
                    have HF := Lib.hid (HPN.out h1)
                    unfold sameStr at h1
                    go_wp2_with fail
                    go_quiet (fail)
                    go_wp2
                    go_ret
                    exact ⟨by rw [HF.out]; rfl, below_drewN hnx _⟩
                  | true =>
                    cases h2 : alikes samePar parts parts' with
                    | false =>
                      have HF := Lib.hid (HPP.out h2)
                      rw [h2] at HI
                      unfold sameStr at h1
                      clear h2
                      go_wp2_with fail
                      refine wp_region_still_tail 26 (by kernel_rfl) (by kernel_rfl) ?_
                      simp only [List.take_succ_cons, List.take_zero, List.drop_succ_cons, List.drop_zero]
                      change wpStill _ _ (World.drew _) _ _ _
                      iterate 26 still_step
                      refine wpStill_nil ?_
                      change wpList _ _ _ _ _ (World.drew _)
                      go_wp2_with fail
                      refine (HI.out _ hnx.drew).mono ?_
                      rintro r w2 ⟨rfl, hb2⟩
                      go_wp2
                      go_ret
                      exact ⟨by rw [HF.out]; rfl, below_step hnx.drew (Nat.le_refl _) hb2⟩
                    | true =>
                      have HALL2 := Lib.hid (HPL.out h1 h2)
                      rw [h2] at HI
                      unfold sameStr at h1
                      clear h2
                      go_wp2_with fail
                      refine wp_region_still_tail 26 (by kernel_rfl) (by kernel_rfl) ?_
                      simp only [List.take_succ_cons, List.take_zero, List.drop_succ_cons, List.drop_zero]
                      change wpStill _ _ (World.drew _) _ _ _
                      iterate 26 still_step
                      refine wpStill_nil ?_
                      change wpList _ _ _ _ _ (World.drew _)
                      go_wp2_with fail
                      refine (HI.out _ hnx.drew).mono ?_
                      rintro r w2 ⟨rfl, hb2⟩
                      go_wp2
                      go_roundw
                      case rel => exact ⟨⟨⟨k + 1, by omega, by go_num, HALL2.out⟩, below_step hnx.drew (Nat.le_refl _) hb2⟩, HBX.out.drew.step hb2, HBY.out.drew.step hb2⟩
                      case measure => simp [intOf]; omega
                · obtain rfl : k = pols.length := by omega
                  have HF := Lib.hid (HEA.out HALL.out HALLP.out)
                  go_wp2
                  go_ret
                  exact ⟨by rw [HF.out]; rfl, hnx⟩
    · have HF := Lib.hid (HP.out (alikes_len _ _ h2))
      have l1 : (((defs.length : Int) != (defs'.length : Int)) = false) := by simp; omega
      have l2 : (((pols.length : Int) != (pols'.length : Int)) = true) := by simp; omega
      clear h1 h2
      go_enter Tryz.func7, Tryz.ntmps7
      go_wp2
      go_ret
      exact ⟨by rw [HF.out]; rfl, hbb _ _⟩
  · have HF := Lib.hid (HD.out (alikes_len _ _ h1))
    have l1 : (((defs.length : Int) != (defs'.length : Int)) = true) := by simp; omega
    clear h1
    go_enter Tryz.func7, Tryz.ntmps7
    go_wp2
    go_ret
    exact ⟨by rw [HF.out]; rfl, hbb _ _⟩

end Go.Proofs.YtfklajkmikanbaaGreatDoor
