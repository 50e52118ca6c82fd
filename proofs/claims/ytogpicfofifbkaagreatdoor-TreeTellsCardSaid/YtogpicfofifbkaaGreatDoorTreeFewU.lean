/- What is few enough of a unit is small. -/
import Derived.Test.YtogpicfofifbkaaGreatDoorTreeFew
import Derived.Test.YtogpicfofifbkaaGreatDoorPart3
namespace Go.Proofs.YtogpicfofifbkaaGreatDoor
open Go.RowKit

def Fewly (u : Unt) (w : World) : Ending → World → Prop := fun r w' => ∃ b : Bool, r = .returned (.bool b) ∧ (b = true → UntSmall u) ∧ Below w.heap.size w w'
theorem few_no {u : Unt} {w w' : World} {r : Ending} (h : r = .returned (.bool false)) (hb : Below w.heap.size w w') : Fewly u w r w' := ⟨false, h, (fun e => by cases e), hb⟩

theorem few_small {e : Ex} (h : fewE e = true) : ExSmall e ∧ depthOf e ≤ 300 := by
  have h1 : sizeL 0 e ≤ 300 := of_decide_eq_true h
  obtain ⟨h2, h3⟩ := size_small e 0 (by omega)
  exact ⟨h2, by omega⟩

/-- All up to k are so. -/
def UpTo {α : Type} (P : α → Prop) (l : List α) (k : Nat) : Prop := k ≤ l.length ∧ ∀ (j : Nat) (x : α), j < k → l[j]? = some x → P x
theorem UpTo.zero {α : Type} {P : α → Prop} {l : List α} : UpTo P l 0 := ⟨Nat.zero_le _, fun j x h => absurd h (by omega)⟩
theorem UpTo.next {α : Type} {P : α → Prop} {l : List α} {k : Nat} {x : α} (h : UpTo P l k) (hx : l[k]? = some x) (hp : P x) : UpTo P l (k + 1) :=
  ⟨(List.getElem?_eq_some_iff.1 hx).1, fun j y hj hy => by
    by_cases e : j = k
    · rw [e, hx] at hy
      rw [← Option.some.inj hy]
      exact hp
    · exact h.2 j y (by omega) hy⟩
theorem UpTo.all {α : Type} {P : α → Prop} {l : List α} (h : UpTo P l l.length) : ∀ x ∈ l, P x := fun x hx => by
  obtain ⟨j, hj⟩ := List.mem_iff_getElem?.1 hx
  exact h.2 j x (List.getElem?_eq_some_iff.1 hj).1 hj

/-- A round over a unit: its box stands. -/
def UnitAt (u : Unt) (w : World) (wr : World) : Prop := Below w.heap.size w wr ∧ Box wr w.heap.size 32 u.cells.toArray
def FewRound {α : Type} (P : α → Prop) (l : List α) (u : Unt) (w : World) (i : Value) (wr : World) : Prop := (∃ k : Nat, UpTo P l k ∧ i = .int .i64 k) ∧ UnitAt u w wr
def FewCount {α : Type} (P : α → Prop) (l : List α) (u : Unt) (w : World) (n i : Value) (wr : World) : Prop := (∃ t : Nat, t ≤ 60 ∧ n = .int .i64 t) ∧ FewRound P l u w i wr
def FewBox {α : Type} (P : α → Prop) (l : List α) (u : Unt) (w : World) (g : Nat) (cs : Array Value) (i : Value) (wr : World) : Prop := FewRound P l u w i wr ∧ Box wr g 50 cs

set_option maxRecDepth 100000 in
set_option maxHeartbeats 16000000 in
theorem fewUnit_any (u : Unt) (w : World) (hin : UntIn w w.heap.size u) : Calls Tryz.prog 6 #[u.val] w (Fewly u w) := by
  have HI := Lib.hid hin
  have HMK : Hid (u.defs.length ≤ 12 → u.pols.length ≤ 8 → u.main.length ≤ 8 → UpTo DfnSmall u.defs u.defs.length → UpTo (fun s : ByteArray => s.size ≤ 60) u.main u.main.length → UpTo PolSmall u.pols u.pols.length → UntSmall u) := fun a b c d e f =>
    ⟨by omega, d.all, by omega, f.all, by omega, fun s hs => Nat.le_trans (e.all s hs) (by decide), hin.data⟩
  clear hin
  obtain ⟨U, hU⟩ : ∃ U, U = u := ⟨_, rfl⟩
  rw [← hU] at HMK ⊢
  have HU := Lib.hid hU
  have HMK2 : Hid (u.defs.length ≤ 12 → u.pols.length ≤ 8 → u.main.length ≤ 8 → UpTo DfnSmall u.defs u.defs.length → UpTo (fun s : ByteArray => s.size ≤ 60) u.main u.main.length → UpTo PolSmall u.pols u.pols.length → UntSmall U) := by rw [← HU.out]; exact HMK.out
  rw [show U.val = u.val from by rw [HU.out]]
  clear HMK hU HU
  obtain ⟨dA, dc, defs, pA, pc, pols, mA, mc, main, kind, data⟩ := u
  simp only at HMK2
  unfold Unt.val
  simp only
  by_cases n1 : defs.length ≤ 12
  · by_cases n2 : pols.length ≤ 8
    · by_cases n3 : main.length ≤ 8
      · have l1 : ¬ (12 : Int) < (defs.length : Int) := by omega
        have l2 : ¬ (8 : Int) < (pols.length : Int) := by omega
        have l3 : ¬ (8 : Int) < (main.length : Int) := by omega
        have HMK := Lib.hid (HMK2.out n1 n2 n3)
        clear HMK2
        go_enter Tryz.func6, Tryz.ntmps6
        go_wp2
        go_loopw [4] (fun i wr => FewRound DfnSmall defs ⟨dA, dc, defs, pA, pc, pols, mA, mc, main, kind, data⟩ w i wr) (fun i _ => defs.length - (intOf i).toNat)
        case atStart => exact ⟨⟨0, .zero, rfl⟩, boxed _ _, Box.new _ _ _⟩
        case round =>
          obtain ⟨⟨k, hup, rfl⟩, hnx, hbx⟩ := hrel
          have HB := Lib.hid hbx
          have HUP := Lib.hid hup
          have hkl := hup.1
          obtain ⟨p0, _, p2, _, _, p5⟩ := box_unt (show Box wr w.heap.size 32 #[.slice dA defs.length dc, .slice pA pols.length pc, .slice mA main.length mc, .int .i64 kind, .int .i64 data] from hbx)
          clear hbx hup
          by_cases hlt : k < defs.length
          · obtain ⟨b, o, name, kd, op, nm, nu, A', c', ks, hA, hb, hx, hxi, e0, e1, e2, e3, e4, e5⟩ := (HI.out.defs.mono hnx (Q := DfnIn w w.heap.size) fun _ _ h => h).dfn hlt
            simp only at hA
            subst hA
            have HF := Lib.hid (few_any (.node kd op nm nu A' c' ks) wr (hxi.ex.next hnx))
            have HX := Lib.hid hx
            unfold Ex.val at HF
            simp only at HF
            clear hx hxi
            cases h1 : fewE (.node kd op nm nu A' c' ks) with
            | false =>
              rw [h1] at HF
              clear h1
              go_wp2_with fail
              refine (HF.out).mono ?_
              rintro r w1 ⟨rfl, hb1⟩
              go_wp2
              go_ret
              exact few_no rfl (below_step hnx (Nat.le_refl _) hb1)
            | true =>
              rw [h1] at HF
              obtain ⟨hsm, hdp⟩ := few_small h1
              have HSM := Lib.hid hsm
              have HDP := Lib.hid hdp
              clear h1 hsm hdp
              go_wp2_with fail
              refine (HF.out).mono ?_
              rintro r w1 ⟨rfl, hb1⟩
              have HB1 := Lib.hid (HB.out.step hb1)
              obtain ⟨q0, _, _, _, _, q5⟩ := box_unt (show Box w1 w.heap.size 32 #[.slice (some ⟨b, o, none⟩) defs.length dc, .slice pA pols.length pc, .slice mA main.length mc, .int .i64 kind, .int .i64 data] from HB1.out)
              have f0 := (hb1.cell (p := ⟨b, o + k * 6, none⟩) (by show b < _; have := hnx.size; omega)).trans e0
              have hbm := below_step hnx (Nat.le_refl _) hb1
              clear e0 e1 e2 e3 e4 e5 p0 p2 p5
              by_cases h2 : name.size ≤ 60
              · have HUP2 := Lib.hid (HUP.out.next HX.out (show DfnSmall ⟨name, _⟩ from ⟨by show name.size ≤ _; omega, HSM.out, Nat.le_trans HDP.out (by decide)⟩))
                have h2I : ¬ (60 : Int) < (name.size : Int) := by omega
                go_wp2
                go_roundw
                case rel => exact ⟨⟨k + 1, HUP2.out, by go_num⟩, hbm, HB1.out⟩
                case measure => simp [intOf]; omega
              · have h2I : (60 : Int) < (name.size : Int) := by omega
                go_wp2
                go_ret
                exact few_no rfl hbm
          · obtain rfl : k = defs.length := by omega
            have HUPD := Lib.hid HUP.out
            go_wp2
            clear p0 p2 p5 hlt hkl
            generalize wr = wa at hnx HB
            go_loopw [5] (fun i wr => FewRound (fun s : ByteArray => s.size ≤ 60) main ⟨dA, dc, defs, pA, pc, pols, mA, mc, main, kind, data⟩ w i wr) (fun i _ => main.length - (intOf i).toNat)
            case atStart => exact ⟨⟨0, .zero, rfl⟩, hnx, HB.out⟩
            case round =>
              clear hnx HB
              obtain ⟨⟨k, hup, rfl⟩, hnx, hbx⟩ := hrel
              have HB := Lib.hid hbx
              have HUP := Lib.hid hup
              have hkl := hup.1
              obtain ⟨_, p1, p2, _, _, p5⟩ := box_unt (show Box wr w.heap.size 32 #[.slice dA defs.length dc, .slice pA pols.length pc, .slice mA main.length mc, .int .i64 kind, .int .i64 data] from hbx)
              clear hbx hup
              by_cases hlt : k < main.length
              · obtain ⟨b, o, s, hA, hb, hx, _, e0⟩ := (HI.out.main.mono hnx (Q := StrIn) fun _ _ h => h).str hlt
                simp only at hA
                subst hA
                have HX := Lib.hid hx
                clear hx
                by_cases h2 : s.size ≤ 60
                · have HUP2 := Lib.hid (HUP.out.next HX.out h2)
                  have h2I : ¬ (60 : Int) < (s.size : Int) := by omega
                  go_wp2
                  go_roundw
                  case rel => exact ⟨⟨k + 1, HUP2.out, by go_num⟩, hnx, HB.out⟩
                  case measure => simp [intOf]; omega
                · have h2I : (60 : Int) < (s.size : Int) := by omega
                  go_wp2
                  go_ret
                  exact few_no rfl hnx
              · obtain rfl : k = main.length := by omega
                have HUPM := Lib.hid HUP.out
                go_wp2
                clear p1 p2 p5 hlt hkl
                generalize wr = wa at hnx HB
                go_loopw [3, 6] (fun n i wr => FewCount PolSmall pols ⟨dA, dc, defs, pA, pc, pols, mA, mc, main, kind, data⟩ w n i wr) (fun _ i _ => pols.length - (intOf i).toNat)
                case atStart => exact ⟨⟨0, by omega, rfl⟩, ⟨0, .zero, rfl⟩, hnx, HB.out⟩
                case round =>
                  clear hnx HB
                  obtain ⟨⟨t, ht, rfl⟩, ⟨k, hup, rfl⟩, hnx, hbx⟩ := hrel
                  have HB := Lib.hid hbx
                  have HUP := Lib.hid hup
                  have hkl := hup.1
                  obtain ⟨_, p1, _, _, _, p5⟩ := box_unt (show Box wr w.heap.size 32 #[.slice dA defs.length dc, .slice pA pols.length pc, .slice mA main.length mc, .int .i64 kind, .int .i64 data] from hbx)
                  clear hbx hup
                  by_cases hlt : k < pols.length
                  · obtain ⟨b, o, x, hA, hb, hx, hxi, e0, e1⟩ := (HI.out.pols.mono hnx (Q := PolIn w w.heap.size) fun _ _ h => h).pol hlt
                    simp only at hA
                    subst hA
                    have HX := Lib.hid hx
                    have HXI := Lib.hid hxi
                    clear hx hxi
                    obtain ⟨name, xA, xc, parts⟩ := x
                    simp only at e0 e1
                    by_cases h1 : parts.length ≤ 12
                    · by_cases h2 : name.size ≤ 60
                      · have h1I : ¬ (12 : Int) < (parts.length : Int) := by omega
                        have h2I : ¬ (60 : Int) < (name.size : Int) := by omega
                        have HPS : Hid (UpTo ParSmall parts parts.length → PolSmall ⟨name, xA, xc, parts⟩) := fun h => ⟨by show name.size ≤ _; omega, by show parts.length ≤ _; omega, h.all⟩
                        go_wp2
                        have hpn := h1
                        clear p1 p5 e0 e1 h1 h2 h1I h2I
                        generalize wr = wa at hnx HB
                        go_loopw [3, 8] (fun n i wr => FewCount ParSmall parts ⟨dA, dc, defs, some ⟨b, o, none⟩, pc, pols, mA, mc, main, kind, data⟩ w n i wr) (fun _ i _ => parts.length - (intOf i).toNat)
                        case atStart => exact ⟨⟨t, ht, rfl⟩, ⟨0, .zero, rfl⟩, hnx, HB.out⟩
                        case round =>
                          clear hnx HB
                          obtain ⟨⟨t2, ht2, rfl⟩, ⟨q, hup, rfl⟩, hnx, hbx⟩ := hrel
                          have HB := Lib.hid hbx
                          have HUPQ := Lib.hid hup
                          have hql := hup.1
                          clear hbx hup
                          by_cases hqt : q < parts.length
                          · obtain ⟨b2, o2, y, hA2, hb2, hy, hyi, f0, f1, f2, f3⟩ := HXI.out.parts.par hqt
                            simp only at hA2
                            subst hA2
                            have HY := Lib.hid hy
                            have HYI := Lib.hid hyi
                            clear hy hyi
                            obtain ⟨use, k2, d2, rA, rc, rules⟩ := y
                            simp only at f0 f1 f2 f3
                            have HF3 := Lib.hid f3
                            have e0 := (hnx.cell (p := ⟨b2, o2 + q * 4, none⟩) hb2).trans f0
                            have e3 := (hnx.cell (p := ⟨b2, o2 + q * 4 + 3, none⟩) hb2).trans f3
                            clear f0 f1 f2 f3
                            by_cases h1 : use.size ≤ 60
                            · have h1I : ¬ (60 : Int) < (use.size : Int) := by omega
                              by_cases h2 : rules.length ≤ 12
                              · have h2I : ¬ (12 : Int) < (rules.length : Int) := by omega
                                have HRS : Hid (UpTo RulSmall rules rules.length → ParSmall ⟨use, k2, d2, rA, rc, rules⟩) := fun h => ⟨by show use.size ≤ _; omega, by show rules.length ≤ _; omega, h.all, HYI.out.data⟩
                                go_wp2
                                have hrn := h2
                                clear e0 e3 h1 h2 h1I h2I
                                generalize wr = wa at hnx HB
                                go_loopw [3, 9] (fun n i wr => FewCount RulSmall rules ⟨dA, dc, defs, some ⟨b, o, none⟩, pc, pols, mA, mc, main, kind, data⟩ w n i wr) (fun _ i _ => rules.length - (intOf i).toNat)
                                case atStart => exact ⟨⟨t2, ht2, rfl⟩, ⟨0, .zero, rfl⟩, hnx, HB.out⟩
                                case round =>
                                  clear hnx HB
                                  obtain ⟨⟨t3, ht3, rfl⟩, ⟨j, hup, rfl⟩, hnx, hbx⟩ := hrel
                                  have HB := Lib.hid hbx
                                  have HUPJ := Lib.hid hup
                                  have hjl := hup.1
                                  clear hbx hup
                                  have e3 := (hnx.cell (p := ⟨b2, o2 + q * 4 + 3, none⟩) hb2).trans HF3.out
                                  by_cases hjt : j < rules.length
                                  · obtain ⟨b3, o3, r, hA3, hb3, hr, hri, g0, g1, g2⟩ := (HYI.out.rules.mono hnx (Q := RulIn w w.heap.size) fun _ _ h => h).rul hjt
                                    simp only at hA3
                                    subst hA3
                                    have HR := Lib.hid hr
                                    have HRI := Lib.hid hri
                                    clear hr hri
                                    obtain ⟨call, qA, qc, params, cA, cc, cond⟩ := r
                                    simp only at g0 g1 g2
                                    have hbz : Below w.heap.size w (wr.alloc (.cells #[.string call, .slice qA params.length qc, .slice cA cond.length cc] 50)) := below_alloc hnx (Nat.le_refl _) _
                                    have HBZ := Lib.hid hbz
                                    clear hbz
                                    by_cases c1 : call.size ≤ 60
                                    · have c1I : ¬ (60 : Int) < (call.size : Int) := by omega
                                      by_cases c2 : params.length ≤ 10
                                      · have c2I : ¬ (10 : Int) < (params.length : Int) := by omega
                                        by_cases c3 : cond.length ≤ 3
                                        · have c3I : ¬ (3 : Int) < (cond.length : Int) := by omega
                                          by_cases c4 : t3 + 1 ≤ 60
                                          · have c4I : ¬ (60 : Int) < (t3 : Int) + 1 := by omega
                                            have HMR : Hid (UpTo (fun s : ByteArray => s.size ≤ 60) params params.length → UpTo (fun e => ExSmall e ∧ depthOf e ≤ 300) cond cond.length → RulSmall ⟨call, qA, qc, params, cA, cc, cond⟩) := fun h1 h2 =>
                                              ⟨by show call.size ≤ _; omega, fun s hs => Nat.le_trans (h1.all s hs) (by decide), by show params.length ≤ _; omega, by show cond.length ≤ _; omega, fun e he => ⟨(h2.all e he).1, Nat.le_trans (h2.all e he).2 (by decide)⟩⟩
                                            clear c1
                                            go_wp2
                                            obtain ⟨g, hg⟩ : ∃ g, g = wr.heap.size := ⟨_, rfl⟩
                                            have HBX : Hid (Box (wr.alloc (.cells #[.string call, .slice qA params.length qc, .slice cA cond.length cc] 50)) g 50 #[.string call, .slice qA params.length qc, .slice cA cond.length cc]) := by rw [hg]; exact Box.new _ _ _
                                            have HBU : Hid (Box (wr.alloc (.cells #[.string call, .slice qA params.length qc, .slice cA cond.length cc] 50)) w.heap.size 32 (Unt.cells ⟨dA, dc, defs, some ⟨b, o, none⟩, pc, pols, mA, mc, main, kind, data⟩).toArray) := HB.out.alloc _
                                            rw [← hg]
                                            generalize wr.alloc (.cells #[.string call, .slice qA params.length qc, .slice cA cond.length cc] 50) = wb at HBZ HBX HBU ⊢
                                            clear hg e3 g0 g1 g2 hnx HB c1I c2I c3I c4I
                                            go_loopw [11] (fun i wr => FewBox (fun s : ByteArray => s.size ≤ 60) params ⟨dA, dc, defs, some ⟨b, o, none⟩, pc, pols, mA, mc, main, kind, data⟩ w g #[.string call, .slice qA params.length qc, .slice cA cond.length cc] i wr) (fun i _ => params.length - (intOf i).toNat)
                                            case atStart => exact ⟨⟨⟨0, .zero, rfl⟩, HBZ.out, HBU.out⟩, HBX.out⟩
                                            case round =>
                                              clear HBZ HBX HBU
                                              obtain ⟨⟨⟨m, hup, rfl⟩, hnx, hbx⟩, hrx⟩ := hrel
                                              have HB := Lib.hid hbx
                                              have HRX := Lib.hid hrx
                                              have HUPP := Lib.hid hup
                                              have hml := hup.1
                                              obtain ⟨_, r1, _, r3⟩ := box_rul hrx
                                              clear hbx hup hrx
                                              by_cases hmt : m < params.length
                                              · obtain ⟨b4, o4, s, hA4, hb4, hs4, _, e0⟩ := (HRI.out.params.mono hnx (Q := StrIn) fun _ _ h => h).str hmt
                                                simp only at hA4
                                                subst hA4
                                                have HS4 := Lib.hid hs4
                                                clear hs4
                                                by_cases h2 : s.size ≤ 60
                                                · have HUP2 := Lib.hid (HUPP.out.next HS4.out h2)
                                                  have h2I : ¬ (60 : Int) < (s.size : Int) := by omega
                                                  go_wp2
                                                  go_roundw
                                                  case rel => exact ⟨⟨⟨m + 1, HUP2.out, by go_num⟩, hnx, HB.out⟩, HRX.out⟩
                                                  case measure => simp [intOf]; omega
                                                · have h2I : (60 : Int) < (s.size : Int) := by omega
                                                  go_wp2
                                                  go_ret
                                                  exact few_no rfl hnx
                                              · obtain rfl : m = params.length := by omega
                                                have HUPR := Lib.hid HUPP.out
                                                go_wp2
                                                clear r1 r3 hmt hml
                                                generalize wr = wc at hnx HB HRX
                                                go_loopw [12] (fun i wr => FewBox (fun e => ExSmall e ∧ depthOf e ≤ 300) cond ⟨dA, dc, defs, some ⟨b, o, none⟩, pc, pols, mA, mc, main, kind, data⟩ w g #[.string call, .slice qA params.length qc, .slice cA cond.length cc] i wr) (fun i _ => cond.length - (intOf i).toNat)
                                                case atStart => exact ⟨⟨⟨0, .zero, rfl⟩, hnx, HB.out⟩, HRX.out⟩
                                                case round =>
                                                  clear hnx HB HRX
                                                  obtain ⟨⟨⟨m, hup, rfl⟩, hnx, hbx⟩, hrx⟩ := hrel
                                                  have HB := Lib.hid hbx
                                                  have HRX := Lib.hid hrx
                                                  have HUPC := Lib.hid hup
                                                  have hml := hup.1
                                                  obtain ⟨_, _, r2, r3⟩ := box_rul hrx
                                                  clear hbx hup hrx
                                                  by_cases hmt : m < cond.length
                                                  · obtain ⟨b5, o5, kd, op, nm, nu, A5, c5, ks, hA5, hb5, hx5, hin5, _, e0, e1, e2, e3, e4⟩ := (HRI.out.cond.mono hnx (Q := ExIn w w.heap.size) fun _ _ h => h).ex hmt
                                                    simp only at hA5
                                                    subst hA5
                                                    have HF := Lib.hid (few_any (.node kd op nm nu A5 c5 ks) wr (hin5.next hnx))
                                                    have HX5 := Lib.hid hx5
                                                    unfold Ex.val at HF
                                                    simp only at HF
                                                    clear hx5 hin5
                                                    cases h1 : fewE (.node kd op nm nu A5 c5 ks) with
                                                    | false =>
                                                      rw [h1] at HF
                                                      clear h1
                                                      go_wp2_with fail
                                                      refine (HF.out).mono ?_
                                                      rintro r w1 ⟨rfl, hb1⟩
                                                      go_wp2
                                                      go_ret
                                                      exact few_no rfl (below_step hnx (Nat.le_refl _) hb1)
                                                    | true =>
                                                      rw [h1] at HF
                                                      have HUP2 := Lib.hid (HUPC.out.next HX5.out (few_small h1))
                                                      clear h1
                                                      go_wp2_with fail
                                                      refine (HF.out).mono ?_
                                                      rintro r w1 ⟨rfl, hb1⟩
                                                      go_wp2
                                                      go_roundw
                                                      case rel => exact ⟨⟨⟨m + 1, HUP2.out, by go_num⟩, below_step hnx (Nat.le_refl _) hb1, HB.out.step hb1⟩, HRX.out.step hb1⟩
                                                      case measure => simp [intOf]; omega
                                                  · obtain rfl : m = cond.length := by omega
                                                    have HUP2 := Lib.hid (HUPJ.out.next HR.out (HMR.out HUPR.out HUPC.out))
                                                    go_wp2
                                                    go_roundw
                                                    case rel => exact ⟨⟨t3 + 1, c4, by go_num⟩, ⟨j + 1, HUP2.out, by go_num⟩, hnx, HB.out⟩
                                                    case measure => simp [intOf]; omega
                                          · have c4I : (60 : Int) < (t3 : Int) + 1 := by omega
                                            go_wp2
                                            go_ret
                                            exact few_no rfl HBZ.out
                                        · have c3I : (3 : Int) < (cond.length : Int) := by omega
                                          go_wp2
                                          go_ret
                                          exact few_no rfl HBZ.out
                                      · have c2I : (10 : Int) < (params.length : Int) := by omega
                                        go_wp2
                                        go_ret
                                        exact few_no rfl HBZ.out
                                    · have c1I : (60 : Int) < (call.size : Int) := by omega
                                      go_wp2
                                      go_ret
                                      exact few_no rfl HBZ.out
                                  · obtain rfl : j = rules.length := by omega
                                    have HUP2 := Lib.hid (HUPQ.out.next HY.out (HRS.out HUPJ.out))
                                    go_wp2
                                    go_roundw
                                    case rel => exact ⟨⟨t3, ht3, rfl⟩, ⟨q + 1, HUP2.out, by go_num⟩, hnx, HB.out⟩
                                    case measure => simp [intOf]; omega
                              · have h2I : (12 : Int) < (rules.length : Int) := by omega
                                go_wp2
                                go_ret
                                exact few_no rfl hnx
                            · have h1I : (60 : Int) < (use.size : Int) := by omega
                              go_wp2
                              go_ret
                              exact few_no rfl hnx
                          · obtain rfl : q = parts.length := by omega
                            have HUP2 := Lib.hid (HUP.out.next HX.out (HPS.out HUPQ.out))
                            go_wp2
                            go_roundw
                            case rel => exact ⟨⟨t2, ht2, rfl⟩, ⟨k + 1, HUP2.out, by go_num⟩, hnx, HB.out⟩
                            case measure => simp [intOf]; omega
                      · have h1I : ¬ (12 : Int) < (parts.length : Int) := by omega
                        have h2I : (60 : Int) < (name.size : Int) := by omega
                        go_wp2
                        go_ret
                        exact few_no rfl hnx
                    · have h1I : (12 : Int) < (parts.length : Int) := by omega
                      go_wp2
                      go_ret
                      exact few_no rfl hnx
                  · obtain rfl : k = pols.length := by omega
                    have HE := Lib.hid (HMK.out HUPD.out HUPM.out HUP.out)
                    go_wp2
                    go_ret
                    exact ⟨true, rfl, fun _ => HE.out, hnx⟩
      · have l1 : ¬ (12 : Int) < (defs.length : Int) := by omega
        have l2 : ¬ (8 : Int) < (pols.length : Int) := by omega
        have l3 : (8 : Int) < (main.length : Int) := by omega
        go_enter Tryz.func6, Tryz.ntmps6
        go_wp2
        go_ret
        exact few_no rfl (boxed _ _)
    · have l1 : ¬ (12 : Int) < (defs.length : Int) := by omega
      have l2 : (8 : Int) < (pols.length : Int) := by omega
      go_enter Tryz.func6, Tryz.ntmps6
      go_wp2
      go_ret
      exact few_no rfl (boxed _ _)
  · have l1 : (12 : Int) < (defs.length : Int) := by omega
    go_enter Tryz.func6, Tryz.ntmps6
    go_wp2
    go_ret
    exact few_no rfl (boxed _ _)

end Go.Proofs.YtogpicfofifbkaaGreatDoor
