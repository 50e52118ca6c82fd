/- What the document's own SameParts gives. -/
import Derived.Test.YtfklajkmikanbaaGreatDoorPart25
namespace Go.Proofs.YtfklajkmikanbaaGreatDoor
open Go.RowKit

theorem rul_call {a b : Rul} (h : sameStr a.call b.call = false) : sameRul a b = false := by unfold sameRul; rw [h]; rfl
theorem rul_params {a b : Rul} (h : alikes sameStr a.params b.params = false) : sameRul a b = false := by unfold sameRul; rw [h]; simp
theorem rul_cond {a b : Rul} (h : alikes sameEx a.cond b.cond = false) : sameRul a b = false := by unfold sameRul; rw [h]; simp
theorem rul_all {a b : Rul} (h1 : sameStr a.call b.call = true) (h2 : alikes sameStr a.params b.params = true) (h3 : alikes sameEx a.cond b.cond = true) : sameRul a b = true := by unfold sameRul; rw [h1, h2, h3]; rfl
theorem par_use {a b : Par} (h : sameStr a.use b.use = false) : samePar a b = false := by unfold samePar; rw [h]; rfl
theorem par_act {a b : Par} (h : (a.kind == b.kind && a.data == b.data) = false) : samePar a b = false := by
  unfold samePar
  cases h1 : a.kind == b.kind <;> cases h2 : a.data == b.data <;> simp_all
theorem par_rules {a b : Par} (h : alikes sameRul a.rules b.rules = false) : samePar a b = false := by unfold samePar; rw [h]; simp
theorem par_all {a b : Par} (h1 : sameStr a.use b.use = true) (h2 : (a.kind == b.kind && a.data == b.data) = true) (h3 : alikes sameRul a.rules b.rules = true) : samePar a b = true := by
  unfold samePar
  rw [Bool.and_eq_true] at h2
  rw [h1, h2.1, h2.2, h3]
  rfl

/-- A round of rules: the parts' boxes stand. -/
def Rounds {α : Type} (f : α → α → Bool) (l m : List α) (w : World) (g : Nat) (t : TypeId) (cs ds : Array Value) (i : Value) (wr : World) : Prop :=
  Alikes f l m w i wr ∧ Box wr g t cs ∧ Box wr (g + 1) t ds

set_option maxRecDepth 100000 in
set_option maxHeartbeats 16000000 in
theorem refParts_any (A B : Option Addr) (c d : Nat) (l m : List Par) (w : World) (hl : SlIn w w.heap.size 4 Par.cells (ParIn w w.heap.size) A c l) (hm : SlIn w w.heap.size 4 Par.cells (ParIn w w.heap.size) B d m) (hn : l.length ≤ 1099511627776)
    (hs : ∀ p ∈ l, ParSmall p) : Calls Tryz.prog 13 #[.slice A l.length c, .slice B m.length d] w (Quietly (.bool (alikes samePar l m)) w) := by
  by_cases hlen : l.length = m.length
  · have HA : Hid (∀ (k : Nat) (x y : Par), l[k]? = some x → m[k]? = some y → samePar x y = false → alikes samePar l m = false) := fun k x y h1 h2 h3 => alikes_at l m k x y h1 h2 h3
    have HY : Hid ((∀ (k : Nat) (x y : Par), k < l.length → l[k]? = some x → m[k]? = some y → samePar x y = true) → alikes samePar l m = true) := fun h => alikes_all l m hlen h
    obtain ⟨V, hV⟩ : ∃ V, V = alikes samePar l m := ⟨_, rfl⟩
    rw [← hV] at HA HY ⊢
    clear hV
    rw [← hlen]
    have HLEN := Lib.hid hlen
    have HS := Lib.hid hs
    clear hlen hs
    have hnn : (((l.length : Int) != (l.length : Int)) = false) := by simp
    go_enter Tryz.func13, Tryz.ntmps13
    go_wp2
    go_loopw [5] (fun i wr => Alikes samePar l m w i wr) (fun i _ => l.length - (intOf i).toNat)
    case atStart => exact ⟨⟨0, Nat.zero_le _, rfl, fun j x y h => absurd h (by omega)⟩, Below.refl _ _⟩
    case round =>
      obtain ⟨⟨k, hk, rfl, hall⟩, hnx⟩ := hrel
      have HALL := Lib.hid hall
      clear hall
      by_cases hlt : k < l.length
      · obtain ⟨b, o, x, rfl, hb, hx, hxi, e0, e1, e2, e3⟩ := (hl.mono hnx (Q := ParIn w w.heap.size) fun _ _ h => h).par hlt
        obtain ⟨b', o', y, rfl, hb', hy, hyi, f0, f1, f2, f3⟩ := (hm.mono hnx (Q := ParIn w w.heap.size) fun _ _ h => h).par (k := k) (by have := HLEN.out; omega)
        have HXS := Lib.hid (HS.out x (List.mem_of_getElem? hx))
        have HXI := Lib.hid hxi
        have HYI := Lib.hid hyi
        have HNO : Hid (samePar x y = false → V = false) := fun h => HA.out k x y hx hy h
        have HYES : Hid (samePar x y = true → ∀ (j : Nat) (x y : Par), j < k + 1 → l[j]? = some x → m[j]? = some y → samePar x y = true) := fun hq j x' y' hj h1 h2 => by
          by_cases e : j = k
          · rw [e, hx] at h1
            rw [e, hy] at h2
            rw [← Option.some.inj h1, ← Option.some.inj h2]
            exact hq
          · exact HALL.out j x' y' (by omega) h1 h2
        have q1 := fun W => eq_act x.kind x.data y.kind y.data W
        have g0 := Tryz.eqGuardType27
        have hbw : b' < wr.heap.size := Nat.lt_of_lt_of_le hb' hnx.size
        clear hx hy hxi hyi
        cases h1 : sameStr x.use y.use with
        | false =>
          have HF := Lib.hid (HNO.out (par_use h1))
          unfold sameStr at h1
          go_wp2
          go_ret
          exact ⟨by rw [HF.out]; rfl, below_alloc (below_alloc hnx (Nat.le_refl _) _) (Nat.le_refl _) _⟩
        | true =>
          cases h2 : (x.kind == y.kind && x.data == y.data) with
          | false =>
            have HF := Lib.hid (HNO.out (par_act h2))
            rw [h2] at q1
            unfold sameStr at h1
            clear h2
            go_wp2
            go_ret
            exact ⟨by rw [HF.out]; rfl, below_alloc (below_alloc hnx (Nat.le_refl _) _) (Nat.le_refl _) _⟩
          | true =>
            rw [h2] at q1
            by_cases h3 : x.rules.length = y.rules.length
            · have HLN := Lib.hid h3
              have HRA : Hid (∀ (k : Nat) (r s : Rul), x.rules[k]? = some r → y.rules[k]? = some s → sameRul r s = false → V = false) := fun q r s a1 a2 a3 => HNO.out (par_rules (alikes_at _ _ q r s a1 a2 a3))
              have HRY : Hid ((∀ (k : Nat) (r s : Rul), k < x.rules.length → x.rules[k]? = some r → y.rules[k]? = some s → sameRul r s = true) → ∀ (j : Nat) (x y : Par), j < k + 1 → l[j]? = some x → m[j]? = some y → samePar x y = true) := fun h => HYES.out (par_all h1 h2 (alikes_all _ _ HLN.out h))
              have h4 : (((x.rules.length : Int) != (y.rules.length : Int)) = false) := by simp; omega
              have hnr := HXS.out.nrules
              unfold sameStr at h1
              clear h2 h3 HNO HYES
              have hbz : Below w.heap.size w ((wr.alloc (.cells #[.string x.use, .int .i64 x.kind, .int .i64 x.data, .slice x.rA x.rules.length x.rc] 73)).alloc (.cells #[.string y.use, .int .i64 y.kind, .int .i64 y.data, .slice y.rA y.rules.length y.rc] 73)) := below_alloc (below_alloc hnx (Nat.le_refl _) _) (Nat.le_refl _) _
              have HBZ := Lib.hid hbz
              have HXW := Lib.hid hbz.size
              clear hbz
              go_wp2
              obtain ⟨g, hg⟩ : ∃ g, g = wr.heap.size := ⟨_, rfl⟩
              have hgw : w.heap.size ≤ g := by rw [hg]; exact hnx.size
              have HBX : Hid (Box ((wr.alloc (.cells #[.string x.use, .int .i64 x.kind, .int .i64 x.data, .slice x.rA x.rules.length x.rc] 73)).alloc (.cells #[.string y.use, .int .i64 y.kind, .int .i64 y.data, .slice y.rA y.rules.length y.rc] 73)) g 73 x.cells.toArray) := by rw [hg]; exact (Box.new _ _ _).alloc _
              have HBY : Hid (Box ((wr.alloc (.cells #[.string x.use, .int .i64 x.kind, .int .i64 x.data, .slice x.rA x.rules.length x.rc] 73)).alloc (.cells #[.string y.use, .int .i64 y.kind, .int .i64 y.data, .slice y.rA y.rules.length y.rc] 73)) (g + 1) 73 y.cells.toArray) := by rw [hg]; exact box_two _ _ _ _
              rw [← hg]
              generalize (wr.alloc (.cells #[.string x.use, .int .i64 x.kind, .int .i64 x.data, .slice x.rA x.rules.length x.rc] 73)).alloc (.cells #[.string y.use, .int .i64 y.kind, .int .i64 y.data, .slice y.rA y.rules.length y.rc] 73) = wb at HBZ HBX HBY HXW ⊢
              clear hg e0 e1 e2 e3 f0 f1 f2 f3 hbw hnx
              go_loopw [8] (fun i wr => Rounds sameRul x.rules y.rules w g 73 x.cells.toArray y.cells.toArray i wr) (fun i _ => x.rules.length - (intOf i).toNat)
              case atStart => exact ⟨⟨⟨0, Nat.zero_le _, rfl, fun j x y h => absurd h (by omega)⟩, HBZ.out⟩, HBX.out, HBY.out⟩
              case round =>
                clear HBZ HBX HBY HXW
                obtain ⟨⟨⟨q, hq, rfl, hall⟩, hnx⟩, hbx, hby⟩ := hrel
                have HB := Lib.hid hbx
                have HC := Lib.hid hby
                have HALLR := Lib.hid hall
                obtain ⟨p0, p1, p2, p3, p4⟩ := box_par (show Box wr g 73 #[.string x.use, .int .i64 x.kind, .int .i64 x.data, .slice x.rA x.rules.length x.rc] from hbx)
                obtain ⟨r0, r1, r2, r3, r4⟩ := box_par (show Box wr (g + 1) 73 #[.string y.use, .int .i64 y.kind, .int .i64 y.data, .slice y.rA y.rules.length y.rc] from hby)
                clear hall hbx hby
                by_cases hqt : q < x.rules.length
                · obtain ⟨b2, o2, r, hA, hb2, hr, hri, e0, e1, e2⟩ := (HXI.out.rules.mono hnx (Q := RulIn w w.heap.size) fun _ _ h => h).rul hqt
                  obtain ⟨b3, o3, s, hB, hb3, hs3, hsi, f0, f1, f2⟩ := (HYI.out.rules.mono hnx (Q := RulIn w w.heap.size) fun _ _ h => h).rul (k := q) (by have := HLN.out; omega)
                  rw [hA] at p3
                  rw [hB] at r3
                  clear hA hB
                  have hb2w : b2 < wr.heap.size := Nat.lt_of_lt_of_le hb2 hnx.size
                  have hb3w : b3 < wr.heap.size := Nat.lt_of_lt_of_le hb3 hnx.size
                  have hqy : q < y.rules.length := by have := HLN.out; omega
                  have HRS := Lib.hid (HXS.out.rules r (List.mem_of_getElem? hr))
                  have HRI := Lib.hid hri
                  have HSI := Lib.hid hsi
                  have HNO : Hid (sameRul r s = false → V = false) := fun h => HRA.out q r s hr hs3 h
                  have HYES : Hid (sameRul r s = true → ∀ (j : Nat) (x' y' : Rul), j < q + 1 → x.rules[j]? = some x' → y.rules[j]? = some y' → sameRul x' y' = true) := fun hq j x' y' hj h1 h2 => by
                    by_cases e : j = q
                    · rw [e, hr] at h1
                      rw [e, hs3] at h2
                      rw [← Option.some.inj h1, ← Option.some.inj h2]
                      exact hq
                    · exact HALLR.out j x' y' (by omega) h1 h2
                  clear hr hs3 hri hsi HALLR
                  obtain ⟨call, pA, pc, params, cA, cc, cond⟩ := r
                  obtain ⟨call', pA', pc', params', cA', cc', cond'⟩ := s
                  simp only at e0 e1 e2 f0 f1 f2
                  have hbz : Below w.heap.size w ((wr.alloc (.cells #[.string call, .slice pA params.length pc, .slice cA cond.length cc] 75)).alloc (.cells #[.string call', .slice pA' params'.length pc', .slice cA' cond'.length cc'] 75)) := below_alloc (below_alloc hnx (Nat.le_refl _) _) (Nat.le_refl _) _
                  have HBZ := Lib.hid hbz
                  clear hbz
                  cases h1 : sameStr call call' with
                  | false =>
                    have HF := Lib.hid (HNO.out (rul_call h1))
                    unfold sameStr at h1
                    go_wp2
                    go_ret
                    exact ⟨by rw [HF.out]; rfl, HBZ.out⟩
                  | true =>
                    have hnp := HRS.out.nparams
                    have HSM := Lib.hid (fun W (hW : Below w.heap.size w W) => refSameL_any pA pA' pc pc' params params' W (HRI.out.params.nextS hW) (HSI.out.params.nextS hW) (Nat.le_trans hnp (by decide)))
                    cases h2 : alikes sameStr params params' with
                    | false =>
                      have HF := Lib.hid (HNO.out (rul_params h2))
                      rw [h2] at HSM
                      unfold sameStr at h1
                      clear h2 hnp
                      go_wp2_with fail
                      refine (HSM.out _ HBZ.out).mono ?_
                      rintro v w1 ⟨rfl, hb1⟩
                      go_wp2
                      go_ret
                      exact ⟨by rw [HF.out]; rfl, below_step HBZ.out (Nat.le_refl _) hb1⟩
                    | true =>
                      rw [h2] at HSM
                      have HB2 := Lib.hid ((HB.out.alloc (.cells #[.string call, .slice pA params.length pc, .slice cA cond.length cc] 75)).alloc (.cells #[.string call', .slice pA' params'.length pc', .slice cA' cond'.length cc'] 75))
                      have HC2 := Lib.hid ((HC.out.alloc (.cells #[.string call, .slice pA params.length pc, .slice cA cond.length cc] 75)).alloc (.cells #[.string call', .slice pA' params'.length pc', .slice cA' cond'.length cc'] 75))
                      have HR2 := Lib.hid ((Box.new wr 75 #[.string call, .slice pA params.length pc, .slice cA cond.length cc]).alloc (.cells #[.string call', .slice pA' params'.length pc', .slice cA' cond'.length cc'] 75))
                      have HS2 := Lib.hid (box_two wr (.cells #[.string call, .slice pA params.length pc, .slice cA cond.length cc] 75) 75 #[.string call', .slice pA' params'.length pc', .slice cA' cond'.length cc'])
                      clear hnp HB HC
                      by_cases h3 : cond.length = cond'.length
                      · have HLC := Lib.hid h3
                        have HCA : Hid (∀ (k : Nat) (a b : Ex), cond[k]? = some a → cond'[k]? = some b → sameEx a b = false → V = false) := fun k a b a1 a2 a3 => HNO.out (rul_cond (alikes_at _ _ k a b a1 a2 a3))
                        have HCY : Hid ((∀ (k : Nat) (a b : Ex), k < cond.length → cond[k]? = some a → cond'[k]? = some b → sameEx a b = true) → ∀ (j : Nat) (x' y' : Rul), j < q + 1 → x.rules[j]? = some x' → y.rules[j]? = some y' → sameRul x' y' = true) := fun h => HYES.out (rul_all h1 h2 (alikes_all _ _ HLC.out h))
                        have h4 : (((cond.length : Int) != (cond'.length : Int)) = false) := by simp; omega
                        have hnc := HRS.out.ncond
                        unfold sameStr at h1
                        clear h2 h3 HNO HYES
                        go_wp2_with fail
                        refine (HSM.out _ HBZ.out).mono ?_
                        rintro v w1 ⟨rfl, hb1⟩
                        have hbm := below_step HBZ.out (Nat.le_refl _) hb1
                        have hbx1 := HB2.out.step hb1
                        have hby1 := HC2.out.step hb1
                        have hr1 := HR2.out.step hb1
                        have hs1 := HS2.out.step hb1
                        obtain ⟨g3, hg3⟩ : ∃ g, g = wr.heap.size := ⟨_, rfl⟩
                        have hg3w : w.heap.size ≤ g3 := by rw [hg3]; exact hnx.size
                        rw [← hg3] at hr1 hs1
                        obtain ⟨_, _, t2, t3⟩ := box_rul hr1
                        obtain ⟨_, _, v2, v3⟩ := box_rul hs1
                        have HBX := Lib.hid hbx1
                        have HBY := Lib.hid hby1
                        have HRX := Lib.hid hr1
                        have HSX := Lib.hid hs1
                        have HBM := Lib.hid hbm
                        rw [← hg3]
                        clear hb1 hbm hbx1 hby1 hr1 hs1 hg3 HB2 HC2 HR2 HS2 HBZ HSM e0 e1 e2 f0 f1 f2 p0 p1 p2 p3 p4 r0 r1 r2 r3 r4 hnx hb2w hb3w
                        go_wp2
                        go_loopw [11] (fun i wr => Rounds sameEx cond cond' w g3 75 #[.string call, .slice pA params.length pc, .slice cA cond.length cc] #[.string call', .slice pA' params'.length pc', .slice cA' cond'.length cc'] i wr ∧ Box wr g 73 x.cells.toArray ∧ Box wr (g + 1) 73 y.cells.toArray) (fun i _ => cond.length - (intOf i).toNat)
                        case atStart => exact ⟨⟨⟨⟨0, Nat.zero_le _, rfl, fun j x y h => absurd h (by omega)⟩, HBM.out⟩, HRX.out, HSX.out⟩, HBX.out, HBY.out⟩
                        case round =>
                          clear HBM HRX HSX HBX HBY t2 t3 v2 v3
                          obtain ⟨⟨⟨⟨n, hn3, rfl, hall⟩, hnx⟩, hrx, hsx⟩, hbx, hby⟩ := hrel
                          have HB := Lib.hid hbx
                          have HC := Lib.hid hby
                          have HR := Lib.hid hrx
                          have HS3 := Lib.hid hsx
                          have HALLC := Lib.hid hall
                          obtain ⟨_, _, t2, t3⟩ := box_rul hrx
                          obtain ⟨_, _, v2, v3⟩ := box_rul hsx
                          clear hall hbx hby hrx hsx
                          by_cases hnt : n < cond.length
                          · have hnt' : n < cond'.length := by have := HLC.out; omega
                            obtain ⟨b4, o4, kd0, op0, nm0, nu0, A0, c0, ks0, hA4, hb4, hx4, hin0, hm4, e0, e1, e2, e3, e4⟩ := (HRI.out.cond.mono hnx (Q := ExIn w w.heap.size) fun _ _ h => h).ex hnt
                            obtain ⟨b5, o5, kd1, op1, nm1, nu1, A1, c1, ks1, hA5, hb5, hx5, hin1, hm5, f0, f1, f2, f3, f4⟩ := (HSI.out.cond.mono hnx (Q := ExIn w w.heap.size) fun _ _ h => h).ex hnt'
                            simp only at hA4 hA5
                            rw [hA4] at t2
                            rw [hA5] at v2
                            have hes := (HRS.out.cond _ hm4).1
                            have HI := Lib.hid (fun W (hW : Below w.heap.size w W) => refSameEx_any _ hes (.node kd1 op1 nm1 nu1 A1 c1 ks1) W (hin0.next hW) (hin1.next hW))
                            unfold Ex.val at HI
                            simp only at HI
                            cases hs4 : sameEx (.node kd0 op0 nm0 nu0 A0 c0 ks0) (.node kd1 op1 nm1 nu1 A1 c1 ks1) with
                            | false =>
                              rw [hs4] at HI
                              have HF : Hid (V = false) := HCA.out n _ _ hx4 hx5 hs4
                              clear hs4 hx4 hx5 hin0 hin1 hm4 hm5 hes hA4 hA5
                              go_wp2_with fail
                              refine wp_region_still_tail 10 (by kernel_rfl) (by kernel_rfl) ?_
                              simp only [List.take_succ_cons, List.take_zero, List.drop_succ_cons, List.drop_zero]
                              change wpStill _ _ (World.drew _) _ _ _
                              repeat still_step
                              refine wpStill_nil ?_
                              change wpList _ _ _ _ _ (World.drew _)
                              go_wp2_with fail
                              refine (HI.out _ hnx.drew).mono ?_
                              rintro v w2 ⟨rfl, hb6⟩
                              go_wp2
                              go_ret
                              exact ⟨by rw [HF.out]; rfl, below_step hnx.drew (Nat.le_refl _) hb6⟩
                            | true =>
                              rw [hs4] at HI
                              have HALL2 : Hid (∀ (j : Nat) (x' y' : Ex), j < n + 1 → cond[j]? = some x' → cond'[j]? = some y' → sameEx x' y' = true) := fun j x' y' hj h1 h2 => by
                                by_cases e : j = n
                                · rw [e, hx4] at h1
                                  rw [e, hx5] at h2
                                  rw [← Option.some.inj h1, ← Option.some.inj h2]
                                  exact hs4
                                · exact HALLC.out j x' y' (by omega) h1 h2
                              clear hs4 hx4 hx5 hin0 hin1 hm4 hm5 hes hA4 hA5
                              go_wp2_with fail
                              refine wp_region_still_tail 10 (by kernel_rfl) (by kernel_rfl) ?_
                              simp only [List.take_succ_cons, List.take_zero, List.drop_succ_cons, List.drop_zero]
                              change wpStill _ _ (World.drew _) _ _ _
                              repeat still_step
                              refine wpStill_nil ?_
                              change wpList _ _ _ _ _ (World.drew _)
                              go_wp2_with fail
                              refine (HI.out _ hnx.drew).mono ?_
                              rintro v w2 ⟨rfl, hb6⟩
                              go_wp2
                              go_roundw
                              case rel => exact ⟨⟨⟨⟨n + 1, by omega, by go_num, HALL2.out⟩, below_step hnx.drew (Nat.le_refl _) hb6⟩, HR.out.drew.step hb6, HS3.out.drew.step hb6⟩, HB.out.drew.step hb6, HC.out.drew.step hb6⟩
                              case measure => simp [intOf]; omega
                          · obtain rfl : n = cond.length := by omega
                            have HALL2 := Lib.hid (HCY.out HALLC.out)
                            go_wp2
                            go_roundw
                            case rel => exact ⟨⟨⟨q + 1, by omega, by go_num, HALL2.out⟩, hnx⟩, HB.out, HC.out⟩
                            case measure => simp [intOf]; omega
                      · have HF := Lib.hid (HNO.out (rul_cond (alikes_len _ _ h3)))
                        have h4 : (((cond.length : Int) != (cond'.length : Int)) = true) := by simp; omega
                        unfold sameStr at h1
                        clear h2 h3
                        go_wp2_with fail
                        refine (HSM.out _ HBZ.out).mono ?_
                        rintro v w1 ⟨rfl, hb1⟩
                        have hr1 := HR2.out.step hb1
                        have hs1 := HS2.out.step hb1
                        obtain ⟨_, _, t2, t3⟩ := box_rul hr1
                        obtain ⟨_, _, v2, v3⟩ := box_rul hs1
                        clear hr1 hs1
                        go_wp2
                        go_ret
                        exact ⟨by rw [HF.out]; rfl, below_step HBZ.out (Nat.le_refl _) hb1⟩
                · obtain rfl : q = x.rules.length := by omega
                  have HALL2 := Lib.hid (HRY.out HALLR.out)
                  go_wp2
                  go_roundw
                  case rel => exact ⟨⟨k + 1, by omega, by go_num, HALL2.out⟩, hnx⟩
                  case measure => simp [intOf]; omega
            · have HF := Lib.hid (HNO.out (par_rules (alikes_len _ _ h3)))
              have h4 : (((x.rules.length : Int) != (y.rules.length : Int)) = true) := by simp; omega
              unfold sameStr at h1
              clear h2 h3
              go_wp2
              go_ret
              exact ⟨by rw [HF.out]; rfl, below_alloc (below_alloc hnx (Nat.le_refl _) _) (Nat.le_refl _) _⟩
      · obtain rfl : k = l.length := by omega
        have HF := Lib.hid (HY.out HALL.out)
        go_wp2
        go_ret
        exact ⟨by rw [HF.out]; rfl, hnx⟩
  · rw [alikes_len l m hlen]
    have hnn : (((l.length : Int) != (m.length : Int)) = true) := by simp; omega
    clear hlen
    go_enter Tryz.func13, Tryz.ntmps13
    go_wp2
    go_ret
    exact ⟨rfl, Below.refl _ _⟩

end Go.Proofs.YtfklajkmikanbaaGreatDoor
