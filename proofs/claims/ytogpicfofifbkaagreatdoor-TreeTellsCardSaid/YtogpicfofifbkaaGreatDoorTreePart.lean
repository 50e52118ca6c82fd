/- What the document's own names and part give. -/
import Derived.Test.YtogpicfofifbkaaGreatDoorTreeBool
import Derived.Test.YtogpicfofifbkaaGreatDoorPart4
import Derived.Laws.StructEq
namespace Go.Proofs.YtogpicfofifbkaaGreatDoor
open Go.RowKit

theorem eq_act (k d k' d' : Int) (w : World) : (Op.equalIn 10000 30 (.agg #[.int .i64 k, .int .i64 d]) (.agg #[.int .i64 k', .int .i64 d'])).run Tryz.prog w = .ok (k == k' && d == d') w := by
  have u3 := Tryz.underlying3
  have a3 := Tryz.isAgg3
  have z3 := Tryz.sizeOf3
  have hS : Tryz.prog.underlying 30 = some (.struct (Tryz.prog.fieldsOf 30)) := by kernel_rfl
  rw [show (10000 : Nat) = 9999 + 1 from rfl, run_equalIn_agg w 9999 30 _ _ hS Tryz.stoodInHeld30]
  simp only [Program.fieldsOf, Tryz.underlying30]
  go_simp
  by_cases h1 : k = k' <;> by_cases h2 : d = d' <;> simp [h1, h2]

set_option maxRecDepth 100000 in
set_option maxHeartbeats 1000000 in
theorem refNames_any (A : Option Addr) (c : Nat) (l : List ByteArray) (w : World) (hl : SlIn w w.heap.size 1 strCells StrIn A c l) (hn : l.length ≤ 1099511627776) (hs : ∀ s ∈ l, s.size ≤ 1048576) :
    Calls Tryz.prog 40 #[.slice A l.length c] w (Quietly (.bool (l.all nameOk)) w) := by
  have HY : Hid (∀ (k : Nat) (x : ByteArray), l[k]? = some x → nameOk x = false → l.all nameOk = false) := fun k x h hp => all_no h hp
  have HN : Hid ((∀ (j : Nat) (x : ByteArray), j < l.length → l[j]? = some x → nameOk x = true) → l.all nameOk = true) := fun h => all_yes h
  obtain ⟨V, hV⟩ : ∃ V, V = l.all nameOk := ⟨_, rfl⟩
  rw [← hV] at HY HN ⊢
  have HS := Lib.hid hs
  clear hV hs
  go_enter Tryz.func40, Tryz.ntmps40
  go_wp2
  go_loopw [3] (fun i wr => ∃ k : Nat, k ≤ l.length ∧ i = .int .i64 k ∧ Hid (∀ (j : Nat) (x : ByteArray), j < k → l[j]? = some x → nameOk x = true) ∧ Below w.heap.size w wr) (fun i _ => l.length - (intOf i).toNat)
  case atStart => exact ⟨0, Nat.zero_le _, rfl, fun j x h => absurd h (by omega), Below.refl _ _⟩
  case round =>
    obtain ⟨k, hk, rfl, HB, hnx⟩ := hrel
    by_cases hlt : k < l.length
    · obtain ⟨b, o, x, rfl, hb, hx, _, e0⟩ := (hl.mono hnx (Q := StrIn) fun _ _ h => h).str hlt
      have hxs := HS.out x (List.mem_of_getElem? hx)
      have HC := Lib.hid (fun W => refName_any x W (by omega))
      cases hq : nameOk x with
      | false =>
        rw [hq] at HC
        have HV := Lib.hid (HY.out k x hx hq)
        clear hx hq
        go_wp2_with fail
        refine (HC.out _).mono ?_
        rintro r w1 ⟨rfl, hb1⟩
        go_wp2
        go_ret
        exact ⟨by rw [HV.out]; rfl, below_step hnx (Nat.le_refl _) hb1⟩
      | true =>
        rw [hq] at HC
        have HB2 : Hid (∀ (j : Nat) (x : ByteArray), j < k + 1 → l[j]? = some x → nameOk x = true) := fun j y hj hy => by
          by_cases h : j = k
          · subst h
            rw [hx] at hy
            rw [← Option.some.inj hy]
            exact hq
          · exact HB.out j y (by omega) hy
        clear hx hq
        go_wp2_with fail
        refine (HC.out _).mono ?_
        rintro r w1 ⟨rfl, hb1⟩
        go_wp2
        go_roundw
        case rel => exact ⟨k + 1, by omega, by go_num, HB2, below_step hnx (Nat.le_refl _) hb1⟩
        case measure => simp [intOf]; omega
    · obtain rfl : k = l.length := by omega
      have HV := Lib.hid (HN.out HB.out)
      go_wp2
      go_ret
      exact ⟨by rw [HV.out]; rfl, hnx⟩

/-- The ways of a rule. -/
theorem rule_ways (r : Rul) : (nameOk r.call = false ∧ ruleOk r = false) ∨ (nameOk r.call = true ∧ r.params.all nameOk = false ∧ ruleOk r = false) ∨
    (nameOk r.call = true ∧ r.params.all nameOk = true ∧ 1 < r.cond.length ∧ ruleOk r = false) ∨ (nameOk r.call = true ∧ r.params.all nameOk = true ∧ r.cond = [] ∧ ruleOk r = true) ∨
    (∃ e, nameOk r.call = true ∧ r.params.all nameOk = true ∧ r.cond = [e] ∧ boolOk e = false ∧ ruleOk r = false) ∨
    (∃ e, nameOk r.call = true ∧ r.params.all nameOk = true ∧ r.cond = [e] ∧ boolOk e = true ∧ ruleOk r = decide (depthOf e ≤ 30)) := by
  obtain ⟨call, pA, pc, params, cA, cc, cond⟩ := r
  unfold ruleOk
  simp only
  cases h1 : nameOk call with
  | false => exact .inl ⟨rfl, rfl⟩
  | true =>
    cases h2 : params.all nameOk with
    | false => exact .inr (.inl ⟨rfl, rfl, rfl⟩)
    | true =>
      match cond with
      | [] => exact .inr (.inr (.inr (.inl ⟨rfl, rfl, rfl, rfl⟩)))
      | [e] =>
        cases h3 : boolOk e with
        | false => exact .inr (.inr (.inr (.inr (.inl ⟨e, rfl, rfl, rfl, h3, by simp [h3]⟩))))
        | true => exact .inr (.inr (.inr (.inr (.inr ⟨e, rfl, rfl, rfl, h3, by simp [h3]⟩))))
      | _ :: _ :: _ => exact .inr (.inr (.inl ⟨rfl, rfl, by simp, rfl⟩))

theorem all_take_no {α : Type} {p : α → Bool} {l : List α} {k : Nat} (h : (l.take k).all p = false) : l.all p = false := by
  cases ha : l.all p with
  | false => rfl
  | true =>
    have : (l.take k).all p = true := by
      rw [List.all_eq_true] at ha ⊢
      exact fun x hx => ha x (List.mem_of_mem_take hx)
    rw [this] at h
    cases h
theorem all_take_snoc {α : Type} {p : α → Bool} {l : List α} {k : Nat} {x : α} (h : l[k]? = some x) : (l.take (k + 1)).all p = ((l.take k).all p && p x) := by
  rw [take_one h, List.all_append]
  simp

def Parting (p : Par) (v : Bool) (w : World) (ok i : Value) (wr : World) : Prop :=
  (∃ k : Nat, k ≤ p.rules.length ∧ i = .int .i64 k ∧ ok = .bool (v && (p.rules.take k).all ruleOk)) ∧ Below w.heap.size w wr ∧ Box wr w.heap.size 48 p.cells.toArray

set_option maxRecDepth 100000 in
set_option maxHeartbeats 8000000 in
theorem refPart_any (p : Par) (w : World) (hin : ParIn w w.heap.size p) (hs : ParSmall p) : Calls Tryz.prog 38 #[p.val] w (Quietly (.bool (partOk p)) w) := by
  have hu := hs.use
  have HNm := Lib.hid (fun W => refName_any p.use W (by omega))
  obtain ⟨d0, d1⟩ := hs.data
  have HVal := Lib.hid (fun W => refValue_any p.kind p.data W d0 d1)
  have hnr := hs.nrules
  obtain ⟨V, hV⟩ : ∃ V, V = partOk p := ⟨_, rfl⟩
  rw [← hV]
  unfold partOk at hV
  have HRS : Hid (∀ r ∈ p.rules, RulSmall r) := hs.rules
  have HRI : Hid (SlIn w w.heap.size 3 Rul.cells (RulIn w w.heap.size) p.rA p.rc p.rules) := hin.rules
  clear hs hin
  obtain ⟨use, kind, data, rA, rc, rules⟩ := p
  simp only at *
  unfold Par.val
  simp only
  cases h1 : emptyB use with
  | false =>
    rw [if_pos h1] at hV
    unfold emptyB at h1
    cases h2 : nameOk use with
    | false =>
      have HV : Hid (V = false) := by unfold Hid; rw [hV, h2]; rfl
      rw [h2] at HNm
      clear hV h2 HRS HRI HVal
      go_enter Tryz.func38, Tryz.ntmps38
      go_wp2_with fail
      refine (HNm.out _).mono ?_
      rintro r w1 ⟨rfl, hb1⟩
      go_wp2
      go_ret
      exact ⟨by rw [HV.out]; rfl, unbox hb1⟩
    | true =>
      have HV : Hid (V = ((kind == 0 && data == 0) && (rules.length == 0))) := by
        unfold Hid
        rw [hV, h2]
        cases rules <;> cases kind == 0 <;> cases data == 0 <;> simp
      rw [h2] at HNm
      have q1 := fun W => eq_act kind data 0 0 W
      have g0 := Tryz.eqGuardType30
      cases h3 : (kind == 0 && data == 0) with
      | false =>
        rw [h3] at q1 HV
        clear hV h2 HRS HRI HVal h3
        go_enter Tryz.func38, Tryz.ntmps38
        go_wp2_with fail
        refine (HNm.out _).mono ?_
        rintro r w1 ⟨rfl, hb1⟩
        obtain ⟨_, p1, p2, p3, p4⟩ := box_par ((Box.new _ _ _).step hb1)
        go_wp2
        go_ret
        exact ⟨by rw [HV.out]; rfl, unbox hb1⟩
      | true =>
        rw [h3] at q1 HV
        by_cases h4 : rules.length = 0
        · rw [h4] at HV
          clear hV h2 HRS HRI HVal h3
          go_enter Tryz.func38, Tryz.ntmps38
          go_wp2_with fail
          refine (HNm.out _).mono ?_
          rintro r w1 ⟨rfl, hb1⟩
          obtain ⟨_, p1, p2, p3, p4⟩ := box_par ((Box.new _ _ _).step hb1)
          go_wp2
          go_ret
          exact ⟨by rw [HV.out]; rfl, unbox hb1⟩
        · have h5 : ((rules.length : Int) == 0) = false := by rw [beq_eq_false_iff_ne]; omega
          have h6 : (rules.length == 0) = false := by rw [beq_eq_false_iff_ne]; exact h4
          rw [h6] at HV
          clear hV h2 HRS HRI HVal h3 h6
          go_enter Tryz.func38, Tryz.ntmps38
          go_wp2_with fail
          refine (HNm.out _).mono ?_
          rintro r w1 ⟨rfl, hb1⟩
          obtain ⟨_, p1, p2, p3, p4⟩ := box_par ((Box.new _ _ _).step hb1)
          go_wp2
          go_ret
          exact ⟨by rw [HV.out]; rfl, unbox hb1⟩
  | true =>
    rw [if_neg (by rw [h1]; decide)] at hV
    unfold emptyB at h1
    have HV := Lib.hid hV
    clear hV HNm
    obtain ⟨⟨v1, v2⟩, hv⟩ : ∃ v, v = valueOf kind data := ⟨_, rfl⟩
    rw [← hv] at HVal HV
    simp only at HV
    unfold U32Bool at HVal
    clear hv
    go_enter Tryz.func38, Tryz.ntmps38
    go_wp2_with fail
    refine (HVal.out _).mono ?_
    rintro r w1 ⟨rfl, hb1⟩
    have hbn := unbox hb1
    have HB1 := Lib.hid ((Box.new w 48 #[.string use, .int .i64 kind, .int .i64 data, .slice rA rules.length rc]).step hb1)
    clear hb1
    go_wp2
    go_loopw [4, 5] (fun ok i wr => Parting ⟨use, kind, data, rA, rc, rules⟩ v2 w ok i wr) (fun _ i _ => rules.length - (intOf i).toNat)
    case atStart => exact ⟨⟨0, Nat.zero_le _, rfl, by simp⟩, hbn, HB1.out⟩
    case round =>
      obtain ⟨⟨k, hkl, rfl, rfl⟩, hnx, hbx⟩ := hrel
      have HB := Lib.hid hbx
      simp only at hkl
      obtain ⟨_, _, _, p3, p4⟩ := box_par (show Box wr w.heap.size 48 #[.string use, .int .i64 kind, .int .i64 data, .slice rA rules.length rc] from hbx)
      clear hbx HB1
      by_cases hlt : k < rules.length
      · obtain ⟨t, ht⟩ : ∃ t, t = (v2 && (rules.take k).all ruleOk) := ⟨_, rfl⟩
        rw [← ht]
        cases t with
        | false =>
          have HF : Hid (V = false) := by
            unfold Hid
            rw [HV.out]
            cases v2 with
            | false => rfl
            | true => rw [all_take_no (k := k) (by simpa using ht.symm)]; rfl
          clear ht
          go_wp2
          go_ret
          exact ⟨by rw [HF.out]; rfl, hnx⟩
        | true =>
          obtain ⟨b, o, x, rfl, hb, hx, hxi, e0, e1, e2⟩ := (HRI.out.mono hnx (Q := RulIn w w.heap.size) fun _ _ h => h).rul hlt
          have hxs := HRS.out x (List.mem_of_getElem? hx)
          have hsn := all_take_snoc (p := ruleOk) hx
          have ht3 : v2 = true ∧ (rules.take k).all ruleOk = true := by
            rw [← Bool.and_eq_true]
            exact ht.symm
          obtain ⟨ht2, ht1⟩ := ht3
          rw [ht1, Bool.true_and] at hsn
          have HSN := Lib.hid hsn
          have hcs := hxs.call
          have HC := Lib.hid (fun W => refName_any x.call W (by omega))
          have hnp := hxs.nparams
          have HP := Lib.hid (fun W (hW : Below w.heap.size w W) => refNames_any x.pA x.pc x.params W (hxi.params.nextS hW) (by omega) hxs.params)
          have HXS := Lib.hid hxs
          have HXI := Lib.hid hxi
          have HT2 := Lib.hid ht2
          have hway := rule_ways x
          obtain ⟨call, pA, pc, params, cA, cc, cond⟩ := x
          simp only at hway e0 e1 e2 hcs hnp HC HP
          clear ht hsn ht1 ht2 hx hxs hxi
          rcases hway with ⟨r1, r2⟩ | ⟨r1, r2, r3⟩ | ⟨r1, r2, r3, r4⟩ | ⟨r1, r2, r3, r4⟩ | ⟨e, r1, r2, r3, r4, r5⟩ | ⟨e, r1, r2, r3, r4, r5⟩
          · rw [r1] at HC
            rw [r2] at HSN
            clear r1 r2 HP
            go_wp2_with fail
            refine (HC.out _).mono ?_
            rintro r w1 ⟨rfl, hb1⟩
            go_wp2
            go_roundw
            case rel => exact ⟨⟨k + 1, by show k + 1 ≤ rules.length; omega, by go_num, by show _ = Value.bool (v2 && (rules.take (k + 1)).all ruleOk); rw [HSN.out]; simp⟩, below_step hnx (Nat.le_refl _) (unbox hb1), (HB.out.alloc _).step hb1⟩
            case measure => simp [intOf]; omega
          · rw [r1] at HC
            rw [r2] at HP
            rw [r3] at HSN
            clear r1 r2 r3
            go_wp2_with fail
            refine (HC.out _).mono ?_
            rintro r w1 ⟨rfl, hb1⟩
            have hbm := below_step hnx (Nat.le_refl _) (unbox hb1)
            have HB2 := Lib.hid ((HB.out.alloc _).step hb1)
            obtain ⟨q0, q1, q2, q3⟩ := box_rul ((Box.new _ _ _).step hb1)
            clear hb1
            go_wp2_with fail
            refine (HP.out _ hbm).mono ?_
            rintro r w2 ⟨rfl, hb2⟩
            go_wp2
            go_roundw
            case rel => exact ⟨⟨k + 1, by show k + 1 ≤ rules.length; omega, by go_num, by show _ = Value.bool (v2 && (rules.take (k + 1)).all ruleOk); rw [HSN.out]; simp⟩, below_step hbm (Nat.le_refl _) hb2, HB2.out.step hb2⟩
            case measure => simp [intOf]; omega
          · rw [r1] at HC
            rw [r2] at HP
            rw [r4] at HSN
            have r5 : ¬ (cond.length : Int) ≤ 1 := by omega
            clear r1 r2 r4 r3
            go_wp2_with fail
            refine (HC.out _).mono ?_
            rintro r w1 ⟨rfl, hb1⟩
            have hbm := below_step hnx (Nat.le_refl _) (unbox hb1)
            have HB2 := Lib.hid ((HB.out.alloc _).step hb1)
            have HR1 := Lib.hid ((Box.new wr 50 #[.string call, .slice pA params.length pc, .slice cA cond.length cc]).step hb1)
            obtain ⟨q0, q1, q2, q3⟩ := box_rul HR1.out
            clear hb1
            go_wp2_with fail
            refine (HP.out _ hbm).mono ?_
            rintro r w2 ⟨rfl, hb2⟩
            clear q0 q1 q2 q3
            obtain ⟨q0, q1, q2, q3⟩ := box_rul (HR1.out.step hb2)
            go_wp2
            go_roundw
            case rel => exact ⟨⟨k + 1, by show k + 1 ≤ rules.length; omega, by go_num, by show _ = Value.bool (v2 && (rules.take (k + 1)).all ruleOk); rw [HSN.out]; simp⟩, below_step hbm (Nat.le_refl _) hb2, HB2.out.step hb2⟩
            case measure => simp [intOf]; omega
          · rw [r1] at HC
            rw [r2] at HP
            rw [r4] at HSN
            subst r3
            clear r1 r2 r4
            go_wp2_with fail
            refine (HC.out _).mono ?_
            rintro r w1 ⟨rfl, hb1⟩
            have hbm := below_step hnx (Nat.le_refl _) (unbox hb1)
            have HB2 := Lib.hid ((HB.out.alloc _).step hb1)
            have HR1 := Lib.hid ((Box.new wr 50 #[.string call, .slice pA params.length pc, .slice cA 0 cc]).step hb1)
            obtain ⟨q0, q1, q2, q3⟩ := box_rul HR1.out
            clear hb1
            go_wp2_with fail
            refine (HP.out _ hbm).mono ?_
            rintro r w2 ⟨rfl, hb2⟩
            clear q0 q1 q2 q3
            obtain ⟨q0, q1, q2, q3⟩ := box_rul (HR1.out.step hb2)
            go_wp2
            go_roundw
            case rel => exact ⟨⟨k + 1, by show k + 1 ≤ rules.length; omega, by go_num, by show _ = Value.bool (v2 && (rules.take (k + 1)).all ruleOk); rw [HSN.out, HT2.out]; simp⟩, below_step hbm (Nat.le_refl _) hb2, HB2.out.step hb2⟩
            case measure => simp [intOf]; omega
          · subst r3
            have hone := HXI.out.cond.one
            obtain ⟨b2, o2, rfl, hbb, hei, hea⟩ := hone
            have hes := HXS.out.cond e (List.mem_cons_self ..)
            have HBo := Lib.hid (fun W (hW : Below w.heap.size w W) => refBool_any e hes.1 W (hei.next hW))
            rw [r4] at HBo
            rw [r1] at HC
            rw [r2] at HP
            rw [r5] at HSN
            have HEA := Lib.hid hea
            obtain ⟨kd2, op2, nm2, nu2, A2, c2, ks2⟩ := e
            unfold Ex.val at HBo
            simp only at HBo
            clear r1 r2 r4 r5 hei hes hea
            go_wp2_with fail
            refine (HC.out _).mono ?_
            rintro r w1 ⟨rfl, hb1⟩
            have hbm := below_step hnx (Nat.le_refl _) (unbox hb1)
            have HB2 := Lib.hid ((HB.out.alloc _).step hb1)
            have HR1 := Lib.hid ((Box.new wr 50 #[.string call, .slice pA params.length pc, .slice (some ⟨b2, o2, none⟩) 1 cc]).step hb1)
            obtain ⟨q0, q1, q2, q3⟩ := box_rul HR1.out
            clear hb1
            go_wp2_with fail
            refine (HP.out _ hbm).mono ?_
            rintro r w2 ⟨rfl, hb2⟩
            clear q0 q1 q2 q3
            have HR2 := Lib.hid (HR1.out.step hb2)
            obtain ⟨q0, q1, q2, q3⟩ := box_rul HR2.out
            have hbo := below_step hbm (Nat.le_refl _) hb2
            obtain ⟨f0, f1, f2, f3, f4⟩ := HEA.out.below hbb hbo
            have HB3 := Lib.hid (HB2.out.step hb2)
            clear hb2
            go_wp2_with fail
            refine (HBo.out _ hbo).mono ?_
            rintro r w3 ⟨rfl, hb3⟩
            go_wp2
            go_roundw
            case rel => exact ⟨⟨k + 1, by show k + 1 ≤ rules.length; omega, by go_num, by show _ = Value.bool (v2 && (rules.take (k + 1)).all ruleOk); rw [HSN.out]; simp⟩, below_step hbo (Nat.le_refl _) hb3, HB3.out.step hb3⟩
            case measure => simp [intOf]; omega
          · subst r3
            have hone := HXI.out.cond.one
            obtain ⟨b2, o2, rfl, hbb, hei, hea⟩ := hone
            have hes := HXS.out.cond e (List.mem_cons_self ..)
            have HBo := Lib.hid (fun W (hW : Below w.heap.size w W) => refBool_any e hes.1 W (hei.next hW))
            have HDe := Lib.hid (fun W (hW : Below w.heap.size w W) => refDepth_any e hes.1 W (hei.next hW) (Nat.le_trans hes.2 (by decide)))
            rw [r4] at HBo
            rw [r1] at HC
            rw [r2] at HP
            rw [r5] at HSN
            have HEA := Lib.hid hea
            obtain ⟨D, hD⟩ : ∃ D, D = depthOf e := ⟨_, rfl⟩
            rw [← hD] at HSN HDe
            obtain ⟨kd2, op2, nm2, nu2, A2, c2, ks2⟩ := e
            unfold Ex.val at HBo HDe
            simp only at HBo HDe
            clear r1 r2 r4 r5 hei hes hea hD
            go_wp2_with fail
            refine (HC.out _).mono ?_
            rintro r w1 ⟨rfl, hb1⟩
            have hbm := below_step hnx (Nat.le_refl _) (unbox hb1)
            have HB2 := Lib.hid ((HB.out.alloc _).step hb1)
            have HR1 := Lib.hid ((Box.new wr 50 #[.string call, .slice pA params.length pc, .slice (some ⟨b2, o2, none⟩) 1 cc]).step hb1)
            obtain ⟨q0, q1, q2, q3⟩ := box_rul HR1.out
            clear hb1
            go_wp2_with fail
            refine (HP.out _ hbm).mono ?_
            rintro r w2 ⟨rfl, hb2⟩
            clear q0 q1 q2 q3
            have HR2 := Lib.hid (HR1.out.step hb2)
            obtain ⟨q0, q1, q2, q3⟩ := box_rul HR2.out
            have hbo := below_step hbm (Nat.le_refl _) hb2
            obtain ⟨f0, f1, f2, f3, f4⟩ := HEA.out.below hbb hbo
            have HB3 := Lib.hid (HB2.out.step hb2)
            clear hb2
            go_wp2_with fail
            refine (HBo.out _ hbo).mono ?_
            rintro r w3 ⟨rfl, hb3⟩
            clear q0 q1 q2 q3 f0 f1 f2 f3 f4
            have HR3 := Lib.hid (HR2.out.step hb3)
            obtain ⟨q0, q1, q2, q3⟩ := box_rul HR3.out
            have hbp := below_step hbo (Nat.le_refl _) hb3
            obtain ⟨f0, f1, f2, f3, f4⟩ := HEA.out.below hbb hbp
            have HB4 := Lib.hid (HB3.out.step hb3)
            clear hb3
            go_wp2_with fail
            refine (HDe.out _ hbp).mono ?_
            rintro r w4 ⟨rfl, hb4⟩
            by_cases hd30 : D ≤ 30
            · rw [show decide (D ≤ 30) = true from decide_eq_true hd30] at HSN
              have hI : (D : Int) ≤ 30 := by omega
              clear hd30
              go_wp2
              go_roundw
              case rel => exact ⟨⟨k + 1, by show k + 1 ≤ rules.length; omega, by go_num, by show _ = Value.bool (v2 && (rules.take (k + 1)).all ruleOk); rw [HSN.out, HT2.out]; simp⟩, below_step hbp (Nat.le_refl _) hb4, HB4.out.step hb4⟩
              case measure => simp [intOf]; omega
            · rw [show decide (D ≤ 30) = false from decide_eq_false hd30] at HSN
              have hI : ¬ (D : Int) ≤ 30 := by omega
              clear hd30
              go_wp2
              go_roundw
              case rel => exact ⟨⟨k + 1, by show k + 1 ≤ rules.length; omega, by go_num, by show _ = Value.bool (v2 && (rules.take (k + 1)).all ruleOk); rw [HSN.out]; simp; omega⟩, below_step hbp (Nat.le_refl _) hb4, HB4.out.step hb4⟩
              case measure => simp [intOf]; omega
      · obtain rfl : k = rules.length := by omega
        have HF : Hid ((v2 && (rules.take rules.length).all ruleOk) = V) := by unfold Hid; rw [HV.out, List.take_length]
        rw [show ((⟨use, kind, data, rA, rc, rules⟩ : Par).rules) = rules from rfl, HF.out]
        go_wp2
        go_ret
        exact ⟨rfl, hnx⟩

end Go.Proofs.YtogpicfofifbkaaGreatDoor
