/- What the document's own Right gives. -/
import Derived.Test.YtogpicfofifbkaaGreatDoorTreePart
namespace Go.Proofs.YtogpicfofifbkaaGreatDoor
open Go.RowKit

theorem all_out {α : Type} {p : α → Bool} {l : List α} (h : l.all p = false) : ∃ (k : Nat) (x : α), l[k]? = some x ∧ p x = false ∧ ∀ (j : Nat) (y : α), j < k → l[j]? = some y → p y = true := by
  induction l with
  | nil => cases h
  | cons a l ih =>
    cases ha : p a with
    | false => exact ⟨0, a, rfl, ha, fun j y hj => absurd hj (by omega)⟩
    | true =>
      rw [List.all_cons, ha, Bool.true_and] at h
      obtain ⟨k, x, h1, h2, h3⟩ := ih h
      refine ⟨k + 1, x, by simpa using h1, h2, fun j y hj hy => ?_⟩
      cases j with
      | zero => rw [← (by simpa using hy : a = y)]; exact ha
      | succ j => exact h3 j y (by omega) (by simpa using hy)

def Righting (u : Unt) (w : World) (P : Nat → Prop) (i : Value) (wr : World) : Prop :=
  (∃ k : Nat, P k ∧ i = .int .i64 k) ∧ Below w.heap.size w wr ∧ Box wr w.heap.size 32 u.cells.toArray
def dfnOk (d : Dfn) : Bool := nameOk d.name && numOk d.ex
def polOk (p : Pol) : Bool := nameOk p.name && p.parts.all partOk
theorem right_eq (u : Unt) : rightOk u = (u.defs.all dfnOk && (u.pols.all polOk && ((valueOf u.kind u.data).2 && (!u.main.isEmpty && u.main.all nameOk)))) := rfl
theorem right_defs {u : Unt} {k : Nat} {d : Dfn} (h : u.defs[k]? = some d) (hd : dfnOk d = false) : rightOk u = false := by
  rw [right_eq, all_no h hd]
  rfl
theorem right_pols {u : Unt} {k : Nat} {p : Pol} (h : u.pols[k]? = some p) (hd : polOk p = false) : rightOk u = false := by
  rw [right_eq, all_no h hd]
  simp
theorem pol_parts {p : Pol} {k : Nat} {x : Par} (h : p.parts[k]? = some x) (hd : partOk x = false) : polOk p = false := by
  unfold polOk
  rw [all_no h hd]
  simp

set_option maxRecDepth 100000 in
set_option maxHeartbeats 8000000 in
theorem refRight_any (u : Unt) (w : World) (hin : UntIn w w.heap.size u) (hs : UntSmall u) : Calls Tryz.prog 16 #[u.val] w (Quietly (.bool (rightOk u)) w) := by
  obtain ⟨V, hV⟩ : ∃ V, V = rightOk u := ⟨_, rfl⟩
  rw [← hV]
  have HD : Hid (∀ (k : Nat) (d : Dfn), u.defs[k]? = some d → dfnOk d = false → V = false) := fun k d h1 h2 => by rw [hV]; exact right_defs h1 h2
  have HP : Hid (∀ (k : Nat) (p : Pol), u.pols[k]? = some p → polOk p = false → V = false) := fun k d h1 h2 => by rw [hV]; exact right_pols h1 h2
  have HE : Hid ((∀ (j : Nat) d, j < u.defs.length → u.defs[j]? = some d → dfnOk d = true) → (∀ (j : Nat) p, j < u.pols.length → u.pols[j]? = some p → polOk p = true) → V = ((valueOf u.kind u.data).2 && (!u.main.isEmpty && u.main.all nameOk))) := fun h1 h2 => by
    rw [hV, right_eq, all_yes h1, all_yes h2]
    rfl
  have HS := Lib.hid hs
  have HI := Lib.hid hin
  have hnd := hs.ndefs
  have hnp := hs.npols
  have hnm := hs.nmain
  obtain ⟨d0, d1⟩ := hs.data
  have HVal := Lib.hid (fun W => refValue_any u.kind u.data W d0 d1)
  clear hV hs hin d0 d1
  obtain ⟨dA, dc, defs, pA, pc, pols, mA, mc, main, kind, data⟩ := u
  simp only at *
  unfold Unt.val
  simp only
  go_enter Tryz.func16, Tryz.ntmps16
  go_wp2
  go_loopw [3] (fun i wr => Righting ⟨dA, dc, defs, pA, pc, pols, mA, mc, main, kind, data⟩ w (fun k => k ≤ defs.length ∧ ∀ (j : Nat) d, j < k → defs[j]? = some d → dfnOk d = true) i wr) (fun i _ => defs.length - (intOf i).toNat)
  case atStart => exact ⟨⟨0, ⟨Nat.zero_le _, fun j d h => absurd h (by omega)⟩, rfl⟩, boxed _ _, Box.new _ _ _⟩
  case round =>
    obtain ⟨⟨k, ⟨hkl, hall⟩, rfl⟩, hnx, hbx⟩ := hrel
    have HB := Lib.hid hbx
    have HALL := Lib.hid hall
    obtain ⟨p0, p1, p2, p3, p4, p5⟩ := box_unt (show Box wr w.heap.size 32 #[.slice dA defs.length dc, .slice pA pols.length pc, .slice mA main.length mc, .int .i64 kind, .int .i64 data] from hbx)
    clear hbx hall
    by_cases hlt : k < defs.length
    · obtain ⟨b, o, name, kd, op, nm, nu, A', c', ks, rfl, hb, hx, hxi, e0, e1, e2, e3, e4, e5⟩ := (HI.out.defs.mono hnx (Q := DfnIn w w.heap.size) fun _ _ h => h).dfn hlt
      have hxs := HS.out.defs _ (List.mem_of_getElem? hx)
      have hcs := hxs.name
      have HC := Lib.hid (fun W => refName_any name W (Nat.le_trans hcs (by decide)))
      have HN := Lib.hid (fun W (hW : Below w.heap.size w W) => refNumber_any (.node kd op nm nu A' c' ks) hxs.ex W (hxi.ex.next hW))
      have HX := Lib.hid hx
      unfold Ex.val at HN
      simp only at HN
      clear hx hxi hxs hcs
      cases h1 : nameOk name with
      | false =>
        have HF : Hid (V = false) := HD.out k _ HX.out (by unfold dfnOk; rw [h1]; rfl)
        rw [h1] at HC
        clear h1
        go_wp2_with fail
        refine (HC.out _).mono ?_
        rintro r w1 ⟨rfl, hb1⟩
        go_wp2
        go_ret
        exact ⟨by rw [HF.out]; rfl, below_step hnx (Nat.le_refl _) hb1⟩
      | true =>
        cases h2 : numOk (.node kd op nm nu A' c' ks) with
        | false =>
          have HF : Hid (V = false) := HD.out k _ HX.out (by unfold dfnOk; rw [h1, h2]; rfl)
          rw [h1] at HC
          rw [h2] at HN
          clear h1 h2
          go_wp2_with fail
          refine (HC.out _).mono ?_
          rintro r w1 ⟨rfl, hb1⟩
          have hbm := below_step hnx (Nat.le_refl _) hb1
          obtain ⟨q0, _, _, _, _, q5⟩ := box_unt (show Box w1 w.heap.size 32 #[.slice (some ⟨b, o, none⟩) defs.length dc, .slice pA pols.length pc, .slice mA main.length mc, .int .i64 kind, .int .i64 data] from HB.out.step hb1)
          have f1 := (hb1.cell (p := ⟨b, o + k * 6 + 1, none⟩) (by show b < _; omega)).trans e1
          have f2 := (hb1.cell (p := ⟨b, o + k * 6 + 2, none⟩) (by show b < _; omega)).trans e2
          have f3 := (hb1.cell (p := ⟨b, o + k * 6 + 3, none⟩) (by show b < _; omega)).trans e3
          have f4 := (hb1.cell (p := ⟨b, o + k * 6 + 4, none⟩) (by show b < _; omega)).trans e4
          have f5 := (hb1.cell (p := ⟨b, o + k * 6 + 5, none⟩) (by show b < _; omega)).trans e5
          go_wp2_with fail
          refine (HN.out _ hbm).mono ?_
          rintro r w2 ⟨rfl, hb2⟩
          go_wp2
          go_ret
          exact ⟨by rw [HF.out]; rfl, below_step hbm (Nat.le_refl _) hb2⟩
        | true =>
          have HALL2 : Hid (∀ (j : Nat) d, j < k + 1 → defs[j]? = some d → dfnOk d = true) := fun j d hj hd => by
            by_cases e : j = k
            · rw [e, HX.out] at hd
              rw [← Option.some.inj hd]
              unfold dfnOk
              rw [h1, h2]
              rfl
            · exact HALL.out j d (by omega) hd
          rw [h1] at HC
          rw [h2] at HN
          clear h1 h2
          go_wp2_with fail
          refine (HC.out _).mono ?_
          rintro r w1 ⟨rfl, hb1⟩
          have hbm := below_step hnx (Nat.le_refl _) hb1
          have HB1 := Lib.hid (HB.out.step hb1)
          obtain ⟨q0, _, _, _, _, q5⟩ := box_unt (show Box w1 w.heap.size 32 #[.slice (some ⟨b, o, none⟩) defs.length dc, .slice pA pols.length pc, .slice mA main.length mc, .int .i64 kind, .int .i64 data] from HB1.out)
          have f1 := (hb1.cell (p := ⟨b, o + k * 6 + 1, none⟩) (by show b < _; omega)).trans e1
          have f2 := (hb1.cell (p := ⟨b, o + k * 6 + 2, none⟩) (by show b < _; omega)).trans e2
          have f3 := (hb1.cell (p := ⟨b, o + k * 6 + 3, none⟩) (by show b < _; omega)).trans e3
          have f4 := (hb1.cell (p := ⟨b, o + k * 6 + 4, none⟩) (by show b < _; omega)).trans e4
          have f5 := (hb1.cell (p := ⟨b, o + k * 6 + 5, none⟩) (by show b < _; omega)).trans e5
          go_wp2_with fail
          refine (HN.out _ hbm).mono ?_
          rintro r w2 ⟨rfl, hb2⟩
          go_wp2
          go_roundw
          case rel => exact ⟨⟨k + 1, ⟨by omega, HALL2.out⟩, by go_num⟩, below_step hbm (Nat.le_refl _) hb2, HB1.out.step hb2⟩
          case measure => simp [intOf]; omega
    · obtain rfl : k = defs.length := by omega
      go_wp2
      clear p0 p1 p2 p3 p4 p5 hlt hkl
      generalize wr = wa at hnx HB
      go_loopw [4] (fun i wr => Righting ⟨dA, dc, defs, pA, pc, pols, mA, mc, main, kind, data⟩ w (fun k => k ≤ pols.length ∧ ∀ (j : Nat) d, j < k → pols[j]? = some d → polOk d = true) i wr) (fun i _ => pols.length - (intOf i).toNat)
      case atStart => exact ⟨⟨0, ⟨Nat.zero_le _, fun j d h => absurd h (by omega)⟩, rfl⟩, hnx, HB.out⟩
      case round =>
        clear hnx HB
        obtain ⟨⟨k, ⟨hkl, hall⟩, rfl⟩, hnx, hbx⟩ := hrel
        have HB := Lib.hid hbx
        have HALLP := Lib.hid hall
        obtain ⟨p0, p1, p2, p3, p4, p5⟩ := box_unt (show Box wr w.heap.size 32 #[.slice dA defs.length dc, .slice pA pols.length pc, .slice mA main.length mc, .int .i64 kind, .int .i64 data] from hbx)
        clear hbx hall
        by_cases hlt : k < pols.length
        · obtain ⟨b, o, x, rfl, hb, hx, hxi, e0, e1⟩ := (HI.out.pols.mono hnx (Q := PolIn w w.heap.size) fun _ _ h => h).pol hlt
          have hxs := HS.out.pols _ (List.mem_of_getElem? hx)
          have hcs := hxs.name
          have HC := Lib.hid (fun W => refName_any x.name W (Nat.le_trans hcs (by decide)))
          have HX := Lib.hid hx
          have hnq := hxs.nparts
          have HXI := Lib.hid hxi
          have HXS := Lib.hid hxs
          have HPP : Hid (∀ (k : Nat) (y : Par), x.parts[k]? = some y → partOk y = false → polOk x = false) := fun k y h1 h2 => pol_parts h1 h2
          have HPA : Hid (nameOk x.name = true → (∀ (j : Nat) y, j < x.parts.length → x.parts[j]? = some y → partOk y = true) → polOk x = true) := fun h1 h2 => by
            unfold polOk
            rw [h1, all_yes h2]
            rfl
          clear hx hxi hxs hcs
          cases h1 : nameOk x.name with
          | false =>
            have HF : Hid (V = false) := HP.out k _ HX.out (by unfold polOk; rw [h1]; rfl)
            rw [h1] at HC
            clear h1
            obtain ⟨name, xA, xc, parts⟩ := x
            simp only at e0 e1 HC
            go_wp2_with fail
            refine (HC.out _).mono ?_
            rintro r w1 ⟨rfl, hb1⟩
            go_wp2
            go_ret
            exact ⟨by rw [HF.out]; rfl, below_step hnx (Nat.le_refl _) hb1⟩
          | true =>
            rw [h1] at HC
            have HN1 := Lib.hid h1
            clear h1
            obtain ⟨name, xA, xc, parts⟩ := x
            simp only at e0 e1 HC hnq HPP HPA
            go_wp2_with fail
            refine (HC.out _).mono ?_
            rintro r w1 ⟨rfl, hb1⟩
            have hbm := below_step hnx (Nat.le_refl _) hb1
            have HB1 := Lib.hid (HB.out.step hb1)
            have HE1 := Lib.hid ((hb1.cell (p := ⟨b, o + k * 2 + 1, none⟩) (by show b < _; omega)).trans e1)
            clear p0 p1 p2 p3 p4 p5 e0 e1 hnx HB hb1 HC
            go_wp2
            go_loopw [5] (fun i wr => Righting ⟨dA, dc, defs, some ⟨b, o, none⟩, pc, pols, mA, mc, main, kind, data⟩ w (fun q => q ≤ parts.length ∧ ∀ (j : Nat) d, j < q → parts[j]? = some d → partOk d = true) i wr ∧ wr.cell? ⟨b, o + k * 2 + 1, none⟩ = some (.slice xA parts.length xc)) (fun i _ => parts.length - (intOf i).toNat)
            case atStart => exact ⟨⟨⟨0, ⟨Nat.zero_le _, fun j d h => absurd h (by omega)⟩, rfl⟩, hbm, HB1.out⟩, HE1.out⟩
            case round =>
              clear HB1 HE1 hbm
              obtain ⟨⟨⟨q, ⟨hql, hall⟩, rfl⟩, hnx, hbx⟩, he1⟩ := hrel
              have HB := Lib.hid hbx
              have HE1 := Lib.hid he1
              have HALLQ := Lib.hid hall
              obtain ⟨p0, p1, p2, p3, p4, p5⟩ := box_unt (show Box wr w.heap.size 32 #[.slice dA defs.length dc, .slice (some ⟨b, o, none⟩) pols.length pc, .slice mA main.length mc, .int .i64 kind, .int .i64 data] from hbx)
              clear hbx hall
              by_cases hqt : q < parts.length
              · obtain ⟨b2, o2, y, rfl, hb2, hy, hyi, f0, f1, f2, f3⟩ := (HXI.out.parts.mono hnx (Q := ParIn w w.heap.size) fun _ _ h => h).par hqt
                have hys := HXS.out.parts _ (List.mem_of_getElem? hy)
                have HY := Lib.hid hy
                have HPT := Lib.hid (fun W (hW : Below w.heap.size w W) => refPart_any y W (hyi.next hW) hys)
                clear hy hyi hys
                cases h3 : partOk y with
                | false =>
                  rw [h3] at HPT
                  have HF : Hid (V = false) := HP.out k _ HX.out (HPP.out q y HY.out h3)
                  obtain ⟨use, k2, d2, rA, rc, rules⟩ := y
                  unfold Par.val at HPT
                  simp only at f0 f1 f2 f3 HPT
                  clear h3
                  go_wp2_with fail
                  refine (HPT.out _ hnx).mono ?_
                  rintro r w2 ⟨rfl, hb3⟩
                  go_wp2
                  go_ret
                  exact ⟨by rw [HF.out]; rfl, below_step hnx (Nat.le_refl _) hb3⟩
                | true =>
                  rw [h3] at HPT
                  have HALL2 : Hid (∀ (j : Nat) d, j < q + 1 → parts[j]? = some d → partOk d = true) := fun j d hj hd => by
                    by_cases e : j = q
                    · rw [e, HY.out] at hd
                      rw [← Option.some.inj hd]
                      exact h3
                    · exact HALLQ.out j d (by omega) hd
                  obtain ⟨use, k2, d2, rA, rc, rules⟩ := y
                  unfold Par.val at HPT
                  simp only at f0 f1 f2 f3 HPT
                  clear h3
                  go_wp2_with fail
                  refine (HPT.out _ hnx).mono ?_
                  rintro r w2 ⟨rfl, hb3⟩
                  go_wp2
                  go_roundw
                  case rel => exact ⟨⟨⟨q + 1, ⟨by omega, HALL2.out⟩, by go_num⟩, below_step hnx (Nat.le_refl _) hb3, HB.out.step hb3⟩, (hb3.cell (p := ⟨b, o + k * 2 + 1, none⟩) (by show b < _; have := hnx.size; omega)).trans HE1.out⟩
                  case measure => simp [intOf]; omega
              · obtain rfl : q = parts.length := by omega
                have hpo := HPA.out HN1.out HALLQ.out
                have HALL2 : Hid (∀ (j : Nat) d, j < k + 1 → pols[j]? = some d → polOk d = true) := fun j d hj hd => by
                  by_cases e : j = k
                  · rw [e, HX.out] at hd
                    rw [← Option.some.inj hd]
                    exact hpo
                  · exact HALLP.out j d (by omega) hd
                clear hpo
                go_wp2
                go_roundw
                case rel => exact ⟨⟨k + 1, ⟨by omega, HALL2.out⟩, by go_num⟩, hnx, HB.out⟩
                case measure => simp [intOf]; omega
        · obtain rfl : k = pols.length := by omega
          have hv := HE.out HALL.out HALLP.out
          have HV := Lib.hid hv
          clear hv HD HP HE HALL HALLP
          obtain ⟨⟨v1, v2⟩, hw⟩ : ∃ v, v = valueOf kind data := ⟨_, rfl⟩
          rw [← hw] at HVal HV
          simp only at HV
          unfold U32Bool at HVal
          have HMN := Lib.hid (fun W (hW : Below w.heap.size w W) => refNames_any mA mc main W (HI.out.main.nextS hW) (by show main.length ≤ _; omega) HS.out.main)
          clear hw
          cases v2 with
          | false =>
            go_wp2_with fail
            refine (HVal.out _).mono ?_
            rintro r w1 ⟨rfl, hb1⟩
            have hbm := below_step hnx (Nat.le_refl _) hb1
            obtain ⟨_, _, q2, _, _, q5⟩ := box_unt (show Box w1 w.heap.size 32 #[.slice dA defs.length dc, .slice pA pols.length pc, .slice mA main.length mc, .int .i64 kind, .int .i64 data] from HB.out.step hb1)
            go_wp2
            go_ret
            exact ⟨by rw [HV.out]; rfl, hbm⟩
          | true =>
            by_cases hm0 : main.length = 0
            · have HF : Hid (V = false) := by
                unfold Hid
                rw [HV.out]
                cases main with
                | nil => rfl
                | cons a l => cases hm0
              go_wp2_with fail
              refine (HVal.out _).mono ?_
              rintro r w1 ⟨rfl, hb1⟩
              have hbm := below_step hnx (Nat.le_refl _) hb1
              obtain ⟨_, _, q2, _, _, q5⟩ := box_unt (show Box w1 w.heap.size 32 #[.slice dA defs.length dc, .slice pA pols.length pc, .slice mA main.length mc, .int .i64 kind, .int .i64 data] from HB.out.step hb1)
              go_wp2
              go_ret
              exact ⟨by rw [HF.out]; rfl, hbm⟩
            · have HF : Hid (V = main.all nameOk) := by
                unfold Hid
                rw [HV.out]
                cases main with
                | nil => exact absurd rfl hm0
                | cons a l => rfl
              have hm1 : (0 : Int) < (main.length : Int) := by omega
              obtain ⟨M, hM⟩ : ∃ M, M = main.all nameOk := ⟨_, rfl⟩
              rw [← hM] at HF HMN
              clear hM
              go_wp2_with fail
              refine (HVal.out _).mono ?_
              rintro r w1 ⟨rfl, hb1⟩
              have hbm := below_step hnx (Nat.le_refl _) hb1
              obtain ⟨_, _, q2, _, _, q5⟩ := box_unt (show Box w1 w.heap.size 32 #[.slice dA defs.length dc, .slice pA pols.length pc, .slice mA main.length mc, .int .i64 kind, .int .i64 data] from HB.out.step hb1)
              clear hb1
              go_wp2_with fail
              refine (HMN.out _ hbm).mono ?_
              rintro r w2 ⟨rfl, hb2⟩
              go_wp2
              go_ret
              exact ⟨by rw [HF.out]; rfl, below_step hbm (Nat.le_refl _) hb2⟩

end Go.Proofs.YtogpicfofifbkaaGreatDoor
