/- What the landed rightAction, rightRule, rightPart, rightPolicy, rightDefine and Right give. No condition but sizes. -/
import Derived.Test.YtogpicfofifbkaaDoorTreeCond
import Derived.Test.YtogpicfofifbkaaDoorTreeAllStr
import Derived.Test.YtogpicfofifbkaaDoorTreeAllEx
import Derived.Test.YtogpicfofifbkaaDoorTreeAllRul
import Derived.Test.YtogpicfofifbkaaDoorTreeAllPar
import Derived.Test.YtogpicfofifbkaaDoorTreeAllPol
import Derived.Test.YtogpicfofifbkaaDoorTreeAllDfn
import Derived.Test.YtogpicfofifbkaaDoorCallValL
namespace Go.Proofs.YtogpicfofifbkaaDoor.LandedT
open Go.RowKit

set_option maxRecDepth 100000 in
theorem action_any (k d : Int) (hd : I64 d) (w : World) : Calls Tryd.prog 19 #[.agg #[.int .i64 k, .int .i64 d]] w (Quietly (.bool (valueOf k d).2) w) := by
  have HV : Hid (∀ W, Calls Tryd.prog 36 #[.agg #[.int .i64 k, .int .i64 d]] W (U32Bool (valueOf k d) W)) := fun W => land_value k d W hd.1 hd.2
  obtain ⟨t, ht⟩ : ∃ t, t = valueOf k d := ⟨_, rfl⟩
  rw [← ht] at HV ⊢
  clear ht hd
  obtain ⟨u, b⟩ := t
  go_enter Tryd.func19, Tryd.ntmps19
  go_wp2_with fail
  refine (HV.out _).mono ?_
  rintro r w1 ⟨rfl, hb1⟩
  go_wp2
  go_ret
  exact ⟨rfl, unbox hb1⟩

theorem names_any (l : List ByteArray) (A : Option Addr) (c : Nat) (w : World) (hl : SlIn w w.heap.size 1 strCells StrIn A c l) (hn : l.length ≤ 1048576) :
    Calls Tryd.prog 18 #[.slice A l.length c, .func (.func 10) #[] #[]] w (Quietly (.bool (l.all nameOk)) w) := allStr nameOk l A c w hl hn fun x _ W _ => name_any x W

theorem rule_is (r : Rul) : ruleOk r = (nameOk r.call && (r.params.all nameOk && (decide (r.cond.length ≤ 1) && r.cond.all condOk))) := by
  unfold ruleOk
  congr 1
  congr 1
  match r.cond with
  | [] => rfl
  | [e] => simp [condOk]
  | _ :: _ :: _ => simp

set_option maxRecDepth 100000 in
set_option maxHeartbeats 2000000 in
theorem rule_any (r : Rul) (w : World) (hin : RulIn w w.heap.size r) (hs : RulSmall r) : Calls Tryd.prog 48 #[r.val] w (Quietly (.bool (ruleOk r)) w) := by
  have HN := Lib.hid (fun W => name_any r.call W)
  have HP := Lib.hid (fun W (hW : Below w.heap.size w W) => names_any r.params r.pA r.pc W (hin.params.nextS hW) hs.nparams)
  have HQ := Lib.hid (fun W (hW : Below w.heap.size w W) => allEx condOk r.cond r.cA r.cc W (hin.cond.nextE hW) hs.ncond fun x hx W' hW' => cond_any x W' (((hin.cond.nextE hW).all x hx).next hW') (hs.cond x hx).2)
  rw [rule_is]
  obtain ⟨N, hN⟩ : ∃ N, N = nameOk r.call := ⟨_, rfl⟩
  obtain ⟨P, hP⟩ : ∃ P, P = r.params.all nameOk := ⟨_, rfl⟩
  obtain ⟨Q, hQ⟩ : ∃ Q, Q = r.cond.all condOk := ⟨_, rfl⟩
  rw [← hN] at HN ⊢
  rw [← hP] at HP ⊢
  rw [← hQ] at HQ ⊢
  have HB := Lib.hid (Box.new w 31 #[.string r.call, .slice r.pA r.params.length r.pc, .slice r.cA r.cond.length r.cc])
  clear hN hP hQ hin hs
  unfold Rul.val
  cases N
  · -- no name
    go_enter Tryd.func48, Tryd.ntmps48
    go_wp2_with fail
    refine (HN.out _).mono ?_
    rintro r w1 ⟨rfl, hb1⟩
    have hbw := unbox hb1
    have hx1 := HB.out.step hb1
    have e0 := box_after hx1 0 _ rfl
    have e1 := box_after hx1 1 _ rfl
    have e2 := box_after hx1 2 _ rfl
    have s1 : Below w1.heap.size w1 w1 := Below.refl _ _
    clear hb1 hx1
    go_wp2
    go_ret
    exact ⟨by simp, below_step hbw (Nat.le_refl _) s1⟩
  cases P
  ·
    go_enter Tryd.func48, Tryd.ntmps48
    go_wp2_with fail
    refine (HN.out _).mono ?_
    rintro r w1 ⟨rfl, hb1⟩
    have hbw := unbox hb1
    have hx1 := HB.out.step hb1
    have e0 := box_after hx1 0 _ rfl
    have e1 := box_after hx1 1 _ rfl
    have e2 := box_after hx1 2 _ rfl
    have s1 : Below w1.heap.size w1 w1 := Below.refl _ _
    clear hb1 hx1
    go_wp2_with fail
    refine (HP.out _ (below_step hbw (Nat.le_refl _) s1)).mono ?_
    rintro r w2 ⟨rfl, hb2⟩
    have s2 : Below w1.heap.size w1 w2 := below_step s1 (Nat.le_refl _) hb2
    clear hb2 s1
    go_wp2
    go_ret
    exact ⟨by simp, below_step hbw (Nat.le_refl _) s2⟩
  by_cases hc : r.cond.length ≤ 1
  · have hc2 : (r.cond.length : Int) ≤ 1 := by omega
    rw [decide_eq_true hc]
    go_enter Tryd.func48, Tryd.ntmps48
    go_wp2_with fail
    refine (HN.out _).mono ?_
    rintro r w1 ⟨rfl, hb1⟩
    have hbw := unbox hb1
    have hx1 := HB.out.step hb1
    have e0 := box_after hx1 0 _ rfl
    have e1 := box_after hx1 1 _ rfl
    have e2 := box_after hx1 2 _ rfl
    have s1 : Below w1.heap.size w1 w1 := Below.refl _ _
    clear hb1 hx1
    go_wp2_with fail
    refine (HP.out _ (below_step hbw (Nat.le_refl _) s1)).mono ?_
    rintro r w2 ⟨rfl, hb2⟩
    have s2 : Below w1.heap.size w1 w2 := below_step s1 (Nat.le_refl _) hb2
    clear hb2 s1
    go_wp2_with fail
    refine (HQ.out _ (below_step hbw (Nat.le_refl _) s2)).mono ?_
    rintro r w3 ⟨rfl, hb3⟩
    have s3 : Below w1.heap.size w1 w3 := below_step s2 (Nat.le_refl _) hb3
    clear hb3 s2
    go_wp2
    go_ret
    exact ⟨by simp, below_step hbw (Nat.le_refl _) s3⟩
  · have hc2 : ¬ (r.cond.length : Int) ≤ 1 := by omega
    rw [decide_eq_false hc]
    go_enter Tryd.func48, Tryd.ntmps48
    go_wp2_with fail
    refine (HN.out _).mono ?_
    rintro r w1 ⟨rfl, hb1⟩
    have hbw := unbox hb1
    have hx1 := HB.out.step hb1
    have e0 := box_after hx1 0 _ rfl
    have e1 := box_after hx1 1 _ rfl
    have e2 := box_after hx1 2 _ rfl
    have s1 : Below w1.heap.size w1 w1 := Below.refl _ _
    clear hb1 hx1
    go_wp2_with fail
    refine (HP.out _ (below_step hbw (Nat.le_refl _) s1)).mono ?_
    rintro r w2 ⟨rfl, hb2⟩
    have s2 : Below w1.heap.size w1 w2 := below_step s1 (Nat.le_refl _) hb2
    clear hb2 s1
    go_wp2
    go_ret
    exact ⟨by simp, below_step hbw (Nat.le_refl _) s2⟩

set_option maxRecDepth 100000 in
set_option maxHeartbeats 2000000 in
theorem part_any (p : Par) (w : World) (hin : ParIn w w.heap.size p) (hs : ParSmall p) : Calls Tryd.prog 33 #[p.val] w (Quietly (.bool (partOk p)) w) := by
  have HB := Lib.hid (Box.new w 34 #[.string p.use, .int .i64 p.kind, .int .i64 p.data, .slice p.rA p.rules.length p.rc])
  unfold Par.val
  by_cases hu : emptyB p.use = false
  · have hpo : partOk p = (nameOk p.use && (p.kind == 0 && (p.data == 0 && p.rules.isEmpty))) := by unfold partOk; rw [if_pos hu]
    rw [hpo]
    have hu2 : (p.use.toList == []) = false := hu
    have HN := Lib.hid (fun W => name_any p.use W)
    obtain ⟨N, hN⟩ : ∃ N, N = nameOk p.use := ⟨_, rfl⟩
    rw [← hN] at HN ⊢
    clear hN hpo hin hs hu
    have hk : (((p.rules.length : Int) == 0)) = p.rules.isEmpty := by
      rw [← len_zero]
      by_cases h : p.rules.length = 0
      · simp [h]
      · rw [beq_eq_false_iff_ne.2 h, beq_eq_false_iff_ne.2 (by omega)]
    have HK := Lib.hid hk
    clear hk
    cases N
    ·
      go_enter Tryd.func33, Tryd.ntmps33
      go_wp2_with fail
      refine (HN.out _).mono ?_
      rintro r w1 ⟨rfl, hb1⟩
      have hbw := unbox hb1
      have hx1 := HB.out.step hb1
      have e0 := box_after hx1 0 _ rfl
      have e1 := box_after hx1 1 _ rfl
      have e2 := box_after hx1 2 _ rfl
      have e3 := box_after hx1 3 _ rfl
      have s1 : Below w1.heap.size w1 w1 := Below.refl _ _
      clear hb1 hx1
      go_wp2
      go_ret
      exact ⟨by simp, below_step hbw (Nat.le_refl _) s1⟩
    by_cases h1 : p.kind = 0
    · by_cases h2 : p.data = 0
      · rw [h1, h2] at HB ⊢
        rw [← HK.out]
        clear h1 h2
        go_enter Tryd.func33, Tryd.ntmps33
        go_wp2_with fail
        refine (HN.out _).mono ?_
        rintro r w1 ⟨rfl, hb1⟩
        have hbw := unbox hb1
        have hx1 := HB.out.step hb1
        have e0 := box_after hx1 0 _ rfl
        have e1 := box_after hx1 1 _ rfl
        have e2 := box_after hx1 2 _ rfl
        have e3 := box_after hx1 3 _ rfl
        have s1 : Below w1.heap.size w1 w1 := Below.refl _ _
        clear hb1 hx1
        go_wp2
        go_ret
        exact ⟨by simp, below_step hbw (Nat.le_refl _) s1⟩
      · have h2b : (p.data == 0) = false := beq_eq_false_iff_ne.2 h2
        rw [h2b]
        rw [h1] at HB ⊢
        clear h1
        go_enter Tryd.func33, Tryd.ntmps33
        go_wp2_with fail
        refine (HN.out _).mono ?_
        rintro r w1 ⟨rfl, hb1⟩
        have hbw := unbox hb1
        have hx1 := HB.out.step hb1
        have e0 := box_after hx1 0 _ rfl
        have e1 := box_after hx1 1 _ rfl
        have e2 := box_after hx1 2 _ rfl
        have e3 := box_after hx1 3 _ rfl
        have s1 : Below w1.heap.size w1 w1 := Below.refl _ _
        clear hb1 hx1
        go_wp2
        go_ret
        exact ⟨by simp, below_step hbw (Nat.le_refl _) s1⟩
    · have h1b : (p.kind == 0) = false := beq_eq_false_iff_ne.2 h1
      rw [h1b]
      go_enter Tryd.func33, Tryd.ntmps33
      go_wp2_with fail
      refine (HN.out _).mono ?_
      rintro r w1 ⟨rfl, hb1⟩
      have hbw := unbox hb1
      have hx1 := HB.out.step hb1
      have e0 := box_after hx1 0 _ rfl
      have e1 := box_after hx1 1 _ rfl
      have e2 := box_after hx1 2 _ rfl
      have e3 := box_after hx1 3 _ rfl
      have s1 : Below w1.heap.size w1 w1 := Below.refl _ _
      clear hb1 hx1
      go_wp2
      go_ret
      exact ⟨by simp, below_step hbw (Nat.le_refl _) s1⟩
  · have hpo : partOk p = ((valueOf p.kind p.data).2 && p.rules.all ruleOk) := by unfold partOk; rw [if_neg hu]
    rw [hpo]
    have hu2 : (p.use.toList == []) = true := by
      have : emptyB p.use = true := by cases h : emptyB p.use <;> simp_all
      exact this
    have HV := Lib.hid (fun W => action_any p.kind p.data hin.data W)
    have HR := Lib.hid (fun W (hW : Below w.heap.size w W) => allRul ruleOk p.rules p.rA p.rc W ((hin.rules.mono hW fun _ _ h => h.below hW).wide hW.size fun _ _ h => h.wider hW.size) hs.nrules fun x hx W' hW' => rule_any x W' ((hin.rules.all x hx).next (below_step hW (Nat.le_refl _) hW')) (hs.rules x hx))
    obtain ⟨N, hN⟩ : ∃ N, N = (valueOf p.kind p.data).2 := ⟨_, rfl⟩
    obtain ⟨P, hP⟩ : ∃ P, P = p.rules.all ruleOk := ⟨_, rfl⟩
    rw [← hN] at HV ⊢
    rw [← hP] at HR ⊢
    clear hN hP hpo hin hs hu
    cases N
    ·
      go_enter Tryd.func33, Tryd.ntmps33
      go_wp2_with fail
      refine (HV.out _).mono ?_
      rintro r w1 ⟨rfl, hb1⟩
      have hbw := unbox hb1
      have hx1 := HB.out.step hb1
      have e0 := box_after hx1 0 _ rfl
      have e1 := box_after hx1 1 _ rfl
      have e2 := box_after hx1 2 _ rfl
      have e3 := box_after hx1 3 _ rfl
      have s1 : Below w1.heap.size w1 w1 := Below.refl _ _
      clear hb1 hx1
      go_wp2
      go_ret
      exact ⟨by simp, below_step hbw (Nat.le_refl _) s1⟩
    ·
      go_enter Tryd.func33, Tryd.ntmps33
      go_wp2_with fail
      refine (HV.out _).mono ?_
      rintro r w1 ⟨rfl, hb1⟩
      have hbw := unbox hb1
      have hx1 := HB.out.step hb1
      have e0 := box_after hx1 0 _ rfl
      have e1 := box_after hx1 1 _ rfl
      have e2 := box_after hx1 2 _ rfl
      have e3 := box_after hx1 3 _ rfl
      have s1 : Below w1.heap.size w1 w1 := Below.refl _ _
      clear hb1 hx1
      go_wp2_with fail
      refine (HR.out _ (below_step hbw (Nat.le_refl _) s1)).mono ?_
      rintro r w2 ⟨rfl, hb2⟩
      have s2 : Below w1.heap.size w1 w2 := below_step s1 (Nat.le_refl _) hb2
      clear hb2 s1
      go_wp2
      go_ret
      exact ⟨by simp, below_step hbw (Nat.le_refl _) s2⟩

def polOk (p : Pol) : Bool := nameOk p.name && p.parts.all partOk
def dfnRight (d : Dfn) : Bool := nameOk d.name && numOk d.ex

set_option maxRecDepth 100000 in
theorem policy_any (p : Pol) (w : World) (hin : PolIn w w.heap.size p) (hs : PolSmall p) : Calls Tryd.prog 17 #[p.val] w (Quietly (.bool (polOk p)) w) := by
  have HB := Lib.hid (Box.new w 37 #[.string p.name, .slice p.A p.parts.length p.c])
  have HN := Lib.hid (fun W => name_any p.name W)
  have HR := Lib.hid (fun W (hW : Below w.heap.size w W) => allPar partOk p.parts p.A p.c W ((hin.parts.mono hW fun _ _ h => h.below hW).wide hW.size fun _ _ h => h.wider hW.size) hs.nparts fun x hx W' hW' => part_any x W' ((hin.parts.all x hx).next (below_step hW (Nat.le_refl _) hW')) (hs.parts x hx))
  unfold Pol.val polOk
  obtain ⟨N, hN⟩ : ∃ N, N = nameOk p.name := ⟨_, rfl⟩
  obtain ⟨P, hP⟩ : ∃ P, P = p.parts.all partOk := ⟨_, rfl⟩
  rw [← hN] at HN ⊢
  rw [← hP] at HR ⊢
  clear hN hP hin hs
  cases N
  ·
    go_enter Tryd.func17, Tryd.ntmps17
    go_wp2_with fail
    refine (HN.out _).mono ?_
    rintro r w1 ⟨rfl, hb1⟩
    have hbw := unbox hb1
    have hx1 := HB.out.step hb1
    have e0 := box_after hx1 0 _ rfl
    have e1 := box_after hx1 1 _ rfl
    have s1 : Below w1.heap.size w1 w1 := Below.refl _ _
    clear hb1 hx1
    go_wp2
    go_ret
    exact ⟨by simp, below_step hbw (Nat.le_refl _) s1⟩
  ·
    go_enter Tryd.func17, Tryd.ntmps17
    go_wp2_with fail
    refine (HN.out _).mono ?_
    rintro r w1 ⟨rfl, hb1⟩
    have hbw := unbox hb1
    have hx1 := HB.out.step hb1
    have e0 := box_after hx1 0 _ rfl
    have e1 := box_after hx1 1 _ rfl
    have s1 : Below w1.heap.size w1 w1 := Below.refl _ _
    clear hb1 hx1
    go_wp2_with fail
    refine (HR.out _ (below_step hbw (Nat.le_refl _) s1)).mono ?_
    rintro r w2 ⟨rfl, hb2⟩
    have s2 : Below w1.heap.size w1 w2 := below_step s1 (Nat.le_refl _) hb2
    clear hb2 s1
    go_wp2
    go_ret
    exact ⟨by simp, below_step hbw (Nat.le_refl _) s2⟩

set_option maxRecDepth 100000 in
theorem define_any (d : Dfn) (w : World) (hin : DfnIn w w.heap.size d) : Calls Tryd.prog 15 #[Dfn.val d] w (Quietly (.bool (dfnRight d)) w) := by
  have HN := Lib.hid (fun W => name_any d.name W)
  have HR := Lib.hid (fun W (hW : Below w.heap.size w W) => number_any d.ex W (hin.ex.next hW))
  unfold dfnRight
  obtain ⟨N, hN⟩ : ∃ N, N = nameOk d.name := ⟨_, rfl⟩
  obtain ⟨P, hP⟩ : ∃ P, P = numOk d.ex := ⟨_, rfl⟩
  rw [← hN] at HN ⊢
  rw [← hP] at HR ⊢
  clear hN hP hin
  obtain ⟨name, kd, op, nm, nu, A, c, ks⟩ := d
  have HB := Lib.hid (Box.new w 62 #[.string name, .int .i64 kd, .string op, .string nm, .int .u64 nu, .slice A ks.length c])
  unfold Dfn.val
  unfold Ex.val at HR
  simp only at HN HR ⊢
  cases N
  ·
    go_enter Tryd.func15, Tryd.ntmps15
    go_wp2_with fail
    refine (HN.out _).mono ?_
    rintro r w1 ⟨rfl, hb1⟩
    have hbw := unbox hb1
    have hx1 := HB.out.step hb1
    have e0 := box_after hx1 0 _ rfl
    have e1 := box_after hx1 1 _ rfl
    have e2 := box_after hx1 2 _ rfl
    have e3 := box_after hx1 3 _ rfl
    have e4 := box_after hx1 4 _ rfl
    have e5 := box_after hx1 5 _ rfl
    have s1 : Below w1.heap.size w1 w1 := Below.refl _ _
    clear hb1 hx1
    go_wp2
    go_ret
    exact ⟨by simp, below_step hbw (Nat.le_refl _) s1⟩
  ·
    go_enter Tryd.func15, Tryd.ntmps15
    go_wp2_with fail
    refine (HN.out _).mono ?_
    rintro r w1 ⟨rfl, hb1⟩
    have hbw := unbox hb1
    have hx1 := HB.out.step hb1
    have e0 := box_after hx1 0 _ rfl
    have e1 := box_after hx1 1 _ rfl
    have e2 := box_after hx1 2 _ rfl
    have e3 := box_after hx1 3 _ rfl
    have e4 := box_after hx1 4 _ rfl
    have e5 := box_after hx1 5 _ rfl
    have s1 : Below w1.heap.size w1 w1 := Below.refl _ _
    clear hb1 hx1
    go_wp2_with fail
    refine (HR.out _ (below_step hbw (Nat.le_refl _) s1)).mono ?_
    rintro r w2 ⟨rfl, hb2⟩
    have s2 : Below w1.heap.size w1 w2 := below_step s1 (Nat.le_refl _) hb2
    clear hb2 s1
    go_wp2
    go_ret
    exact ⟨by simp, below_step hbw (Nat.le_refl _) s2⟩

theorem right_is (u : Unt) : rightOk u = (u.defs.all dfnRight && (u.pols.all polOk && (!u.main.isEmpty && (u.main.all nameOk && (valueOf u.kind u.data).2)))) := by
  have e1 : (fun d : Dfn => nameOk d.name && numOk d.ex) = dfnRight := rfl
  have e2 : (fun p : Pol => nameOk p.name && p.parts.all partOk) = polOk := rfl
  unfold rightOk
  rw [e1, e2]
  cases u.defs.all dfnRight <;> cases u.pols.all polOk <;> cases u.main.isEmpty <;> cases u.main.all nameOk <;> cases (valueOf u.kind u.data).2 <;> rfl

set_option maxRecDepth 100000 in
set_option maxHeartbeats 4000000 in
theorem unit_any (u : Unt) (w : World) (hin : UntIn w w.heap.size u) (hs : UntSmall u) : Calls Tryd.prog 8 #[u.val] w (Quietly (.bool (rightOk u)) w) := by
  have HD := Lib.hid (fun W (hW : Below w.heap.size w W) => allDfn dfnRight u.defs u.dA u.dc W ((hin.defs.mono hW fun _ _ h => h.below hW).wide hW.size fun _ _ h => h.wider hW.size) hs.ndefs fun x hx W' hW' => define_any x W' ((hin.defs.all x hx).next (below_step hW (Nat.le_refl _) hW')))
  have HP := Lib.hid (fun W (hW : Below w.heap.size w W) => allPol polOk u.pols u.pA u.pc W ((hin.pols.mono hW fun _ _ h => h.below hW).wide hW.size fun _ _ h => h.wider hW.size) hs.npols fun x hx W' hW' => policy_any x W' ((hin.pols.all x hx).next (below_step hW (Nat.le_refl _) hW')) (hs.pols x hx))
  have HM := Lib.hid (fun W (hW : Below w.heap.size w W) => names_any u.main u.mA u.mc W (hin.main.nextS hW) hs.nmain)
  have HA := Lib.hid (fun W => action_any u.kind u.data hin.data W)
  have HB := Lib.hid (Box.new w 41 #[.slice u.dA u.defs.length u.dc, .slice u.pA u.pols.length u.pc, .slice u.mA u.main.length u.mc, .int .i64 u.kind, .int .i64 u.data])
  rw [right_is]
  have he : u.main.isEmpty = decide (u.main.length = 0) := by cases u.main <;> simp
  rw [he]
  obtain ⟨D, hD⟩ : ∃ D, D = u.defs.all dfnRight := ⟨_, rfl⟩
  obtain ⟨P, hP⟩ : ∃ P, P = u.pols.all polOk := ⟨_, rfl⟩
  obtain ⟨M, hM⟩ : ∃ M, M = u.main.all nameOk := ⟨_, rfl⟩
  obtain ⟨A, hA⟩ : ∃ A, A = (valueOf u.kind u.data).2 := ⟨_, rfl⟩
  rw [← hD] at HD ⊢
  rw [← hP] at HP ⊢
  rw [← hM] at HM ⊢
  rw [← hA] at HA ⊢
  clear hD hP hM hA hin hs he
  unfold Unt.val
  cases D
  ·
    go_enter Tryd.func8, Tryd.ntmps8
    go_wp2_with fail
    refine (HD.out _ (boxed _ _)).mono ?_
    rintro r w1 ⟨rfl, hb1⟩
    have hbw := unbox hb1
    have hx1 := HB.out.step hb1
    have e0 := box_after hx1 0 _ rfl
    have e1 := box_after hx1 1 _ rfl
    have e2 := box_after hx1 2 _ rfl
    have e3 := box_after hx1 3 _ rfl
    have e4 := box_after hx1 4 _ rfl
    have s1 : Below w1.heap.size w1 w1 := Below.refl _ _
    clear hb1 hx1
    go_wp2
    go_ret
    exact ⟨by simp, below_step hbw (Nat.le_refl _) s1⟩
  cases P
  ·
    go_enter Tryd.func8, Tryd.ntmps8
    go_wp2_with fail
    refine (HD.out _ (boxed _ _)).mono ?_
    rintro r w1 ⟨rfl, hb1⟩
    have hbw := unbox hb1
    have hx1 := HB.out.step hb1
    have e0 := box_after hx1 0 _ rfl
    have e1 := box_after hx1 1 _ rfl
    have e2 := box_after hx1 2 _ rfl
    have e3 := box_after hx1 3 _ rfl
    have e4 := box_after hx1 4 _ rfl
    have s1 : Below w1.heap.size w1 w1 := Below.refl _ _
    clear hb1 hx1
    go_wp2_with fail
    refine (HP.out _ (below_step hbw (Nat.le_refl _) s1)).mono ?_
    rintro r w2 ⟨rfl, hb2⟩
    have s2 : Below w1.heap.size w1 w2 := below_step s1 (Nat.le_refl _) hb2
    clear hb2 s1
    go_wp2
    go_ret
    exact ⟨by simp, below_step hbw (Nat.le_refl _) s2⟩
  by_cases h0 : u.main.length = 0
  · rw [decide_eq_true h0]
    rw [h0] at HB ⊢
    clear h0 HM
    go_enter Tryd.func8, Tryd.ntmps8
    go_wp2_with fail
    refine (HD.out _ (boxed _ _)).mono ?_
    rintro r w1 ⟨rfl, hb1⟩
    have hbw := unbox hb1
    have hx1 := HB.out.step hb1
    have e0 := box_after hx1 0 _ rfl
    have e1 := box_after hx1 1 _ rfl
    have e2 := box_after hx1 2 _ rfl
    have e3 := box_after hx1 3 _ rfl
    have e4 := box_after hx1 4 _ rfl
    have s1 : Below w1.heap.size w1 w1 := Below.refl _ _
    clear hb1 hx1
    go_wp2_with fail
    refine (HP.out _ (below_step hbw (Nat.le_refl _) s1)).mono ?_
    rintro r w2 ⟨rfl, hb2⟩
    have s2 : Below w1.heap.size w1 w2 := below_step s1 (Nat.le_refl _) hb2
    clear hb2 s1
    go_wp2
    go_ret
    exact ⟨by simp, below_step hbw (Nat.le_refl _) s2⟩
  have h0i : (0 : Int) < (u.main.length : Int) := by omega
  have h0n : 0 < u.main.length := by omega
  rw [decide_eq_false h0]
  cases M
  ·
    go_enter Tryd.func8, Tryd.ntmps8
    go_wp2_with fail
    refine (HD.out _ (boxed _ _)).mono ?_
    rintro r w1 ⟨rfl, hb1⟩
    have hbw := unbox hb1
    have hx1 := HB.out.step hb1
    have e0 := box_after hx1 0 _ rfl
    have e1 := box_after hx1 1 _ rfl
    have e2 := box_after hx1 2 _ rfl
    have e3 := box_after hx1 3 _ rfl
    have e4 := box_after hx1 4 _ rfl
    have s1 : Below w1.heap.size w1 w1 := Below.refl _ _
    clear hb1 hx1
    go_wp2_with fail
    refine (HP.out _ (below_step hbw (Nat.le_refl _) s1)).mono ?_
    rintro r w2 ⟨rfl, hb2⟩
    have s2 : Below w1.heap.size w1 w2 := below_step s1 (Nat.le_refl _) hb2
    clear hb2 s1
    go_wp2_with fail
    refine (HM.out _ (below_step hbw (Nat.le_refl _) s2)).mono ?_
    rintro r w3 ⟨rfl, hb3⟩
    have s3 : Below w1.heap.size w1 w3 := below_step s2 (Nat.le_refl _) hb3
    clear hb3 s2
    go_wp2
    go_ret
    exact ⟨by simp, below_step hbw (Nat.le_refl _) s3⟩
  ·
    go_enter Tryd.func8, Tryd.ntmps8
    go_wp2_with fail
    refine (HD.out _ (boxed _ _)).mono ?_
    rintro r w1 ⟨rfl, hb1⟩
    have hbw := unbox hb1
    have hx1 := HB.out.step hb1
    have e0 := box_after hx1 0 _ rfl
    have e1 := box_after hx1 1 _ rfl
    have e2 := box_after hx1 2 _ rfl
    have e3 := box_after hx1 3 _ rfl
    have e4 := box_after hx1 4 _ rfl
    have s1 : Below w1.heap.size w1 w1 := Below.refl _ _
    clear hb1 hx1
    go_wp2_with fail
    refine (HP.out _ (below_step hbw (Nat.le_refl _) s1)).mono ?_
    rintro r w2 ⟨rfl, hb2⟩
    have s2 : Below w1.heap.size w1 w2 := below_step s1 (Nat.le_refl _) hb2
    clear hb2 s1
    go_wp2_with fail
    refine (HM.out _ (below_step hbw (Nat.le_refl _) s2)).mono ?_
    rintro r w3 ⟨rfl, hb3⟩
    have s3 : Below w1.heap.size w1 w3 := below_step s2 (Nat.le_refl _) hb3
    clear hb3 s2
    go_wp2_with fail
    refine (HA.out _).mono ?_
    rintro r w4 ⟨rfl, hb4⟩
    have s4 : Below w1.heap.size w1 w4 := below_step s3 (Nat.le_refl _) hb4
    clear hb4 s3
    go_wp2
    go_ret
    exact ⟨by simp, below_step hbw (Nat.le_refl _) s4⟩

end Go.Proofs.YtogpicfofifbkaaDoor.LandedT
