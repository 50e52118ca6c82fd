/- Texts of mine put together (a claim has at most so many files): TreeAllEx, TreeAllRul. -/
import Derived.Test.YtogpicfofifbkaaGreatDoorTreePlain
import Derived.Test.YtogpicfofifbkaaGreatDoorPart3
import Derived.Test.YtogpicfofifbkaaGreatDoorChecked
import Derived.OwnWalk
/- What the landed all gives of a list of api.Expr, given what its function gives of each. No condition but sizes. -/
namespace Go.Proofs.YtogpicfofifbkaaGreatDoor.LandedT
open Go.RowKit


theorem enter_rightEx (args : Array Value) (w : World) : (callFunc 96 args).run Tryz.prog w = .ok (.enter 96 args) w := by kernel_rfl
theorem enter_cloEx (args : Array Value) (w : World) : (callFunc 103 args).run Tryz.prog w = .ok (.enter 103 args) w := by kernel_rfl

theorem cloEx (x : Ex) (g : Nat) (b : Bool) (W : World) (hg : W.cell? ⟨g, 0, none⟩ = some (.func (.func 96) #[] #[])) (hgW : g < W.heap.size) (HR : ∀ W', Below W.heap.size W W' → Calls Tryz.prog 96 #[(Ex.val) x] W' (Quietly (.bool b) W')) :
    Calls Tryz.prog 103 #[(Ex.val) x, .pointer (some ⟨g, 0, none⟩)] W (Quietly (.bool (!b)) W) := by
  have eg := enter_rightEx
  have HC := Lib.hid HR
  clear HR
  obtain ⟨kd0, op0, nm0, nu0, A0, c0, ks0⟩ := x
  unfold Ex.val at *
  simp only at HC ⊢
  go_enter Tryz.func103, Tryz.ntmps103
  go_wp2_with fail
  refine (HC.out _ (boxed _ _)).mono ?_
  rintro r w1 ⟨rfl, hb1⟩
  go_wp2
  go_ret
  exact ⟨rfl, unbox hb1⟩

/-- Where IndexFunc stands. -/
def IdxEx (ok : Ex → Bool) (l : List Ex) (w : World) (i : Value) (wr : World) : Prop :=
  (∃ k : Nat, k ≤ l.length ∧ i = .int .i64 k ∧ ∀ j x, j < k → l[j]? = some x → ok x = true) ∧ Below w.heap.size w wr

set_option maxRecDepth 100000 in
set_option maxHeartbeats 2000000 in
theorem idxEx (ok : Ex → Bool) (g : Nat) (l : List Ex) (A : Option Addr) (c : Nat) (w : World) (hl : SlIn w w.heap.size 5 Ex.cells (ExIn w w.heap.size) A c l) (hn : l.length ≤ 1048576)
    (HR : ∀ x ∈ l, ∀ W, Below w.heap.size w W → Calls Tryz.prog 103 #[(Ex.val) x, .pointer (some ⟨g, 0, none⟩)] W (Quietly (.bool (!ok x)) W)) :
    Calls Tryz.prog 104 #[.slice A l.length c, .func (.func 103) #[] #[.pointer (some ⟨g, 0, none⟩)]] w fun e w' =>
      (∃ v : Int, e = .returned (.int .i64 v) ∧ l.all ok = decide (v < 0)) ∧ Below w.heap.size w w' := by
  have HL := Lib.hid hl
  have HC := Lib.hid HR
  have eg := enter_cloEx
  clear hl HR
  go_enter Tryz.func104, Tryz.ntmps104
  go_wp2_with fail
  go_loopw [8] (fun i wr => IdxEx ok l w i wr) (fun i _ => l.length - (intOf i).toNat)
  case atStart => exact ⟨⟨0, Nat.zero_le _, rfl, fun j x h => absurd h (Nat.not_lt_zero _)⟩, Below.refl _ _⟩
  case round =>
    obtain ⟨⟨k, hk, rfl, hall⟩, hnx⟩ := hrel
    have HA := Lib.hid hall
    clear hall
    by_cases hlt : k < l.length
    · obtain ⟨b, o, kd0, op0, nm0, nu0, A0, c0, ks0, hA, hb, hx, hP, _, e0, e1, e2, e3, e4⟩ := (HL.out.mono hnx (Q := ExIn w w.heap.size) fun _ _ h => h).ex hlt
      subst hA
      have HX := Lib.hid hx
      have HF := Lib.hid (HC.out _ (List.mem_of_getElem? hx) wr hnx)
      have HS : Hid (∀ (h : ok (.node kd0 op0 nm0 nu0 A0 c0 ks0) = true) j x, j < k + 1 → l[j]? = some x → ok x = true) := fun h j y hj hy => by
        rcases Nat.lt_or_ge j k with h1 | h1
        · exact HA.out j y h1 hy
        · obtain rfl : j = k := by omega
          rw [HX.out] at hy
          have he := Option.some.inj hy
          subst he
          exact h
      have HE : Hid (ok (.node kd0 op0 nm0 nu0 A0 c0 ks0) = false → l.all ok = false) := fun h => by
        rw [Bool.eq_false_iff]
        intro h2
        have := List.all_eq_true.1 h2 _ (List.mem_of_getElem? HX.out)
        rw [h] at this
        cases this
      clear hx hP
      unfold Ex.val at HF
      generalize ok (.node kd0 op0 nm0 nu0 A0 c0 ks0) = B at HF HS HE
      cases B
      · have HE2 : Hid (l.all ok = false) := HE.out rfl
        clear HE HS
        go_wp2_with fail
        refine HF.out.mono ?_
        rintro r w1 ⟨rfl, hb1⟩
        go_wp2
        go_ret
        exact ⟨⟨k, rfl, by rw [HE2.out]; symm; rw [decide_eq_false_iff_not]; omega⟩, below_step hnx (Nat.le_refl _) hb1⟩
      · have HS2 := Lib.hid (HS.out rfl)
        clear HE HS
        go_wp2_with fail
        refine HF.out.mono ?_
        rintro r w1 ⟨rfl, hb1⟩
        go_wp2
        go_roundw
        case rel => exact ⟨⟨k + 1, by omega, by go_num, HS2.out⟩, below_step hnx (Nat.le_refl _) hb1⟩
        case measure => simp [intOf]; omega
    · obtain rfl : k = l.length := by omega
      have HE : Hid (l.all ok = true) := by
        unfold Hid
        rw [List.all_eq_true]
        intro x hx
        obtain ⟨j, hj⟩ := List.getElem?_of_mem hx
        exact HA.out j x (List.getElem?_eq_some_iff.1 hj).1 hj
      go_wp2
      go_ret
      exact ⟨⟨-1, rfl, by rw [HE.out]; decide⟩, hnx⟩

set_option maxRecDepth 100000 in
theorem conEx (ok : Ex → Bool) (g : Nat) (l : List Ex) (A : Option Addr) (c : Nat) (w : World) (hl : SlIn w w.heap.size 5 Ex.cells (ExIn w w.heap.size) A c l) (hn : l.length ≤ 1048576)
    (HR : ∀ x ∈ l, ∀ W, Below w.heap.size w W → Calls Tryz.prog 103 #[(Ex.val) x, .pointer (some ⟨g, 0, none⟩)] W (Quietly (.bool (!ok x)) W)) :
    Calls Tryz.prog 102 #[.slice A l.length c, .func (.func 103) #[] #[.pointer (some ⟨g, 0, none⟩)]] w (Quietly (.bool (!l.all ok)) w) := by
  have HC := Lib.hid (idxEx ok g l A c w hl hn HR)
  clear hl HR
  generalize l.all ok = Z at *
  go_enter Tryz.func102, Tryz.ntmps102
  go_wp2_with fail
  refine HC.out.mono ?_
  rintro r w1 ⟨⟨v, rfl, hv⟩, hb1⟩
  have HV := Lib.hid hv
  clear hv
  go_wp2
  go_ret
  refine ⟨?_, hb1⟩
  rw [HV.out]
  by_cases h : v < 0
  · have h2 : ¬ 0 ≤ v := by omega
    simp [h, h2]
  · have h2 : 0 ≤ v := by omega
    simp [h, h2]

set_option maxRecDepth 100000 in
theorem allEx (ok : Ex → Bool) (l : List Ex) (A : Option Addr) (c : Nat) (w : World) (hl : SlIn w w.heap.size 5 Ex.cells (ExIn w w.heap.size) A c l) (hn : l.length ≤ 1048576)
    (HR : ∀ x ∈ l, ∀ W, Below w.heap.size w W → Calls Tryz.prog 96 #[(Ex.val) x] W (Quietly (.bool (ok x)) W)) :
    Calls Tryz.prog 95 #[.slice A l.length c, .func (.func 96) #[] #[]] w (Quietly (.bool (l.all ok)) w) := by
  have HC : Hid (∀ t, Calls Tryz.prog 102 #[.slice A l.length c, .func (.func 103) #[] #[.pointer (some ⟨w.heap.size, 0, none⟩)]] (w.alloc (.cells #[.func (.func 96) #[] #[]] t)) (Quietly (.bool (!l.all ok)) (w.alloc (.cells #[.func (.func 96) #[] #[]] t)))) := fun t => by
    have hb := boxed w (.cells #[.func (.func 96) #[] #[]] t)
    have hw := hb.size
    refine conEx ok w.heap.size l A c _ ((hl.mono hb fun _ _ h => h.keep hb).wide hw fun _ _ h => h.wider hw) hn fun x hx W hW => ?_
    have h := (Box.new w t #[.func (.func 96) #[] #[]]).step hW
    exact cloEx x _ _ W (h.cell 0) h.lt (fun W' hW' => HR x hx W' (below_step (below_step hb (Nat.le_refl _) hW) (Nat.le_refl _) hW'))
  clear HR hl
  go_enter Tryz.func95, Tryz.ntmps95
  go_wp2_with fail
  refine (HC.out _).mono ?_
  rintro r w1 ⟨rfl, hb1⟩
  go_wp2
  go_ret
  exact ⟨ret_bool (by simp), unbox hb1⟩

end Go.Proofs.YtogpicfofifbkaaGreatDoor.LandedT

/- What the landed all gives of a list of api.Rule, given what its function gives of each. No condition but sizes. -/
namespace Go.Proofs.YtogpicfofifbkaaGreatDoor.LandedT
open Go.RowKit


theorem enter_rightRul (args : Array Value) (w : World) : (callFunc 80 args).run Tryz.prog w = .ok (.enter 80 args) w := by kernel_rfl
theorem enter_cloRul (args : Array Value) (w : World) : (callFunc 94 args).run Tryz.prog w = .ok (.enter 94 args) w := by kernel_rfl

theorem cloRul (x : Rul) (g : Nat) (b : Bool) (W : World) (hg : W.cell? ⟨g, 0, none⟩ = some (.func (.func 80) #[] #[])) (hgW : g < W.heap.size) (HR : ∀ W', Below W.heap.size W W' → Calls Tryz.prog 80 #[(Rul.val) x] W' (Quietly (.bool b) W')) :
    Calls Tryz.prog 94 #[(Rul.val) x, .pointer (some ⟨g, 0, none⟩)] W (Quietly (.bool (!b)) W) := by
  have eg := enter_rightRul
  have HC := Lib.hid HR
  clear HR
  unfold Rul.val at *
  go_enter Tryz.func94, Tryz.ntmps94
  go_wp2_with fail
  refine (HC.out _ (boxed _ _)).mono ?_
  rintro r w1 ⟨rfl, hb1⟩
  go_wp2
  go_ret
  exact ⟨rfl, unbox hb1⟩

/-- Where IndexFunc stands. -/
def IdxRul (ok : Rul → Bool) (l : List Rul) (w : World) (i : Value) (wr : World) : Prop :=
  (∃ k : Nat, k ≤ l.length ∧ i = .int .i64 k ∧ ∀ j x, j < k → l[j]? = some x → ok x = true) ∧ Below w.heap.size w wr

set_option maxRecDepth 100000 in
set_option maxHeartbeats 2000000 in
theorem idxRul (ok : Rul → Bool) (g : Nat) (l : List Rul) (A : Option Addr) (c : Nat) (w : World) (hl : SlIn w w.heap.size 3 Rul.cells (RulIn w w.heap.size) A c l) (hn : l.length ≤ 1048576)
    (HR : ∀ x ∈ l, ∀ W, Below w.heap.size w W → Calls Tryz.prog 94 #[(Rul.val) x, .pointer (some ⟨g, 0, none⟩)] W (Quietly (.bool (!ok x)) W)) :
    Calls Tryz.prog 101 #[.slice A l.length c, .func (.func 94) #[] #[.pointer (some ⟨g, 0, none⟩)]] w fun e w' =>
      (∃ v : Int, e = .returned (.int .i64 v) ∧ l.all ok = decide (v < 0)) ∧ Below w.heap.size w w' := by
  have HL := Lib.hid hl
  have HC := Lib.hid HR
  have eg := enter_cloRul
  clear hl HR
  go_enter Tryz.func101, Tryz.ntmps101
  go_wp2_with fail
  go_loopw [8] (fun i wr => IdxRul ok l w i wr) (fun i _ => l.length - (intOf i).toNat)
  case atStart => exact ⟨⟨0, Nat.zero_le _, rfl, fun j x h => absurd h (Nat.not_lt_zero _)⟩, Below.refl _ _⟩
  case round =>
    obtain ⟨⟨k, hk, rfl, hall⟩, hnx⟩ := hrel
    have HA := Lib.hid hall
    clear hall
    by_cases hlt : k < l.length
    · obtain ⟨b, o, r, hA, hb, hx, hP, e0, e1, e2⟩ := (HL.out.mono hnx (Q := RulIn w w.heap.size) fun _ _ h => h).rul hlt
      subst hA
      have HX := Lib.hid hx
      have HF := Lib.hid (HC.out _ (List.mem_of_getElem? hx) wr hnx)
      have HS : Hid (∀ (h : ok (r) = true) j x, j < k + 1 → l[j]? = some x → ok x = true) := fun h j y hj hy => by
        rcases Nat.lt_or_ge j k with h1 | h1
        · exact HA.out j y h1 hy
        · obtain rfl : j = k := by omega
          rw [HX.out] at hy
          have he := Option.some.inj hy
          subst he
          exact h
      have HE : Hid (ok (r) = false → l.all ok = false) := fun h => by
        rw [Bool.eq_false_iff]
        intro h2
        have := List.all_eq_true.1 h2 _ (List.mem_of_getElem? HX.out)
        rw [h] at this
        cases this
      clear hx hP
      unfold Rul.val at HF
      generalize ok (r) = B at HF HS HE
      cases B
      · have HE2 : Hid (l.all ok = false) := HE.out rfl
        clear HE HS
        go_wp2_with fail
        refine HF.out.mono ?_
        rintro r w1 ⟨rfl, hb1⟩
        go_wp2
        go_ret
        exact ⟨⟨k, rfl, by rw [HE2.out]; symm; rw [decide_eq_false_iff_not]; omega⟩, below_step hnx (Nat.le_refl _) hb1⟩
      · have HS2 := Lib.hid (HS.out rfl)
        clear HE HS
        go_wp2_with fail
        refine HF.out.mono ?_
        rintro r w1 ⟨rfl, hb1⟩
        go_wp2
        go_roundw
        case rel => exact ⟨⟨k + 1, by omega, by go_num, HS2.out⟩, below_step hnx (Nat.le_refl _) hb1⟩
        case measure => simp [intOf]; omega
    · obtain rfl : k = l.length := by omega
      have HE : Hid (l.all ok = true) := by
        unfold Hid
        rw [List.all_eq_true]
        intro x hx
        obtain ⟨j, hj⟩ := List.getElem?_of_mem hx
        exact HA.out j x (List.getElem?_eq_some_iff.1 hj).1 hj
      go_wp2
      go_ret
      exact ⟨⟨-1, rfl, by rw [HE.out]; decide⟩, hnx⟩

set_option maxRecDepth 100000 in
theorem conRul (ok : Rul → Bool) (g : Nat) (l : List Rul) (A : Option Addr) (c : Nat) (w : World) (hl : SlIn w w.heap.size 3 Rul.cells (RulIn w w.heap.size) A c l) (hn : l.length ≤ 1048576)
    (HR : ∀ x ∈ l, ∀ W, Below w.heap.size w W → Calls Tryz.prog 94 #[(Rul.val) x, .pointer (some ⟨g, 0, none⟩)] W (Quietly (.bool (!ok x)) W)) :
    Calls Tryz.prog 93 #[.slice A l.length c, .func (.func 94) #[] #[.pointer (some ⟨g, 0, none⟩)]] w (Quietly (.bool (!l.all ok)) w) := by
  have HC := Lib.hid (idxRul ok g l A c w hl hn HR)
  clear hl HR
  generalize l.all ok = Z at *
  go_enter Tryz.func93, Tryz.ntmps93
  go_wp2_with fail
  refine HC.out.mono ?_
  rintro r w1 ⟨⟨v, rfl, hv⟩, hb1⟩
  have HV := Lib.hid hv
  clear hv
  go_wp2
  go_ret
  refine ⟨?_, hb1⟩
  rw [HV.out]
  by_cases h : v < 0
  · have h2 : ¬ 0 ≤ v := by omega
    simp [h, h2]
  · have h2 : 0 ≤ v := by omega
    simp [h, h2]

set_option maxRecDepth 100000 in
theorem allRul (ok : Rul → Bool) (l : List Rul) (A : Option Addr) (c : Nat) (w : World) (hl : SlIn w w.heap.size 3 Rul.cells (RulIn w w.heap.size) A c l) (hn : l.length ≤ 1048576)
    (HR : ∀ x ∈ l, ∀ W, Below w.heap.size w W → Calls Tryz.prog 80 #[(Rul.val) x] W (Quietly (.bool (ok x)) W)) :
    Calls Tryz.prog 79 #[.slice A l.length c, .func (.func 80) #[] #[]] w (Quietly (.bool (l.all ok)) w) := by
  have HC : Hid (∀ t, Calls Tryz.prog 93 #[.slice A l.length c, .func (.func 94) #[] #[.pointer (some ⟨w.heap.size, 0, none⟩)]] (w.alloc (.cells #[.func (.func 80) #[] #[]] t)) (Quietly (.bool (!l.all ok)) (w.alloc (.cells #[.func (.func 80) #[] #[]] t)))) := fun t => by
    have hb := boxed w (.cells #[.func (.func 80) #[] #[]] t)
    have hw := hb.size
    refine conRul ok w.heap.size l A c _ ((hl.mono hb fun _ _ h => h.below hb).wide hw fun _ _ h => h.wider hw) hn fun x hx W hW => ?_
    have h := (Box.new w t #[.func (.func 80) #[] #[]]).step hW
    exact cloRul x _ _ W (h.cell 0) h.lt (fun W' hW' => HR x hx W' (below_step (below_step hb (Nat.le_refl _) hW) (Nat.le_refl _) hW'))
  clear HR hl
  go_enter Tryz.func79, Tryz.ntmps79
  go_wp2_with fail
  refine (HC.out _).mono ?_
  rintro r w1 ⟨rfl, hb1⟩
  go_wp2
  go_ret
  exact ⟨ret_bool (by simp), unbox hb1⟩

end Go.Proofs.YtogpicfofifbkaaGreatDoor.LandedT
