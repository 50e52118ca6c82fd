/- What the landed all gives of a list of api.Rule, given what its function gives of each. No condition but sizes. -/
import Derived.Test.YtogpicfofifbkaaDoorTreePlain
import Derived.Test.YtogpicfofifbkaaDoorLetters
import Derived.Test.YtogpicfofifbkaaDoorChecked
import Derived.OwnWalk
namespace Go.Proofs.YtogpicfofifbkaaDoor.LandedT
open Go.RowKit


theorem enter_rightRul (args : Array Value) (w : World) : (callFunc 48 args).run Tryd.prog w = .ok (.enter 48 args) w := by kernel_rfl
theorem enter_cloRul (args : Array Value) (w : World) : (callFunc 57 args).run Tryd.prog w = .ok (.enter 57 args) w := by kernel_rfl

theorem cloRul (x : Rul) (g : Nat) (b : Bool) (W : World) (hg : W.cell? ⟨g, 0, none⟩ = some (.func (.func 48) #[] #[])) (hgW : g < W.heap.size) (HR : ∀ W', Below W.heap.size W W' → Calls Tryd.prog 48 #[(Rul.val) x] W' (Quietly (.bool b) W')) :
    Calls Tryd.prog 57 #[(Rul.val) x, .pointer (some ⟨g, 0, none⟩)] W (Quietly (.bool (!b)) W) := by
  have eg := enter_rightRul
  have HC := Lib.hid HR
  clear HR
  unfold Rul.val at *
  go_enter Tryd.func57, Tryd.ntmps57
  go_wp2_with fail
  refine (HC.out _ (boxed _ _)).mono ?_
  rintro r w1 ⟨rfl, hb1⟩
  go_wp2
  go_ret
  exact ⟨rfl, unbox hb1⟩

/-- Where IndexFunc stands. -/
def IdxRul (ok : Rul → Bool) (l : List Rul) (w : World) (i : Value) (wr : World) : Prop :=
  (∃ k : Nat, k ≤ l.length ∧ i = .int .i64 k ∧ ∀ j x, j < k → l[j]? = some x → ok x = true) ∧ Below w.heap.size w wr

set_option maxRecDepth 100000 in
set_option maxHeartbeats 2000000 in
theorem idxRul (ok : Rul → Bool) (g : Nat) (l : List Rul) (A : Option Addr) (c : Nat) (w : World) (hl : SlIn w w.heap.size 3 Rul.cells (RulIn w w.heap.size) A c l) (hn : l.length ≤ 1048576)
    (HR : ∀ x ∈ l, ∀ W, Below w.heap.size w W → Calls Tryd.prog 57 #[(Rul.val) x, .pointer (some ⟨g, 0, none⟩)] W (Quietly (.bool (!ok x)) W)) :
    Calls Tryd.prog 66 #[.slice A l.length c, .func (.func 57) #[] #[.pointer (some ⟨g, 0, none⟩)]] w fun e w' =>
      (∃ v : Int, e = .returned (.int .i64 v) ∧ l.all ok = decide (v < 0)) ∧ Below w.heap.size w w' := by
  have HL := Lib.hid hl
  have HC := Lib.hid HR
  have eg := enter_cloRul
  clear hl HR
  go_enter Tryd.func66, Tryd.ntmps66
  go_wp2_with fail
  go_loopw [8] (fun i wr => IdxRul ok l w i wr) (fun i _ => l.length - (intOf i).toNat)
  case atStart => exact ⟨⟨0, Nat.zero_le _, rfl, fun j x h => absurd h (Nat.not_lt_zero _)⟩, Below.refl _ _⟩
  case round =>
    obtain ⟨⟨k, hk, rfl, hall⟩, hnx⟩ := hrel
    have HA := Lib.hid hall
    clear hall
    by_cases hlt : k < l.length
    · obtain ⟨b, o, r, hA, hb, hx, hP, e0, e1, e2⟩ := (HL.out.mono hnx (Q := RulIn w w.heap.size) fun _ _ h => h).rul hlt
      subst hA
      have HX := Lib.hid hx
      have HF := Lib.hid (HC.out _ (List.mem_of_getElem? hx) wr hnx)
      have HS : Hid (∀ (h : ok (r) = true) j x, j < k + 1 → l[j]? = some x → ok x = true) := fun h j y hj hy => by
        rcases Nat.lt_or_ge j k with h1 | h1
        · exact HA.out j y h1 hy
        · obtain rfl : j = k := by omega
          rw [HX.out] at hy
          have he := Option.some.inj hy
          subst he
          exact h
      have HE : Hid (ok (r) = false → l.all ok = false) := fun h => by
        rw [Bool.eq_false_iff]
        intro h2
        have := List.all_eq_true.1 h2 _ (List.mem_of_getElem? HX.out)
        rw [h] at this
        cases this
      clear hx hP
      unfold Rul.val at HF
      generalize ok (r) = B at HF HS HE
      cases B
      · have HE2 : Hid (l.all ok = false) := HE.out rfl
        clear HE HS
        go_wp2_with fail
        refine HF.out.mono ?_
        rintro r w1 ⟨rfl, hb1⟩
        go_wp2
        go_ret
        exact ⟨⟨k, rfl, by rw [HE2.out]; symm; rw [decide_eq_false_iff_not]; omega⟩, below_step hnx (Nat.le_refl _) hb1⟩
      · have HS2 := Lib.hid (HS.out rfl)
        clear HE HS
        go_wp2_with fail
        refine HF.out.mono ?_
        rintro r w1 ⟨rfl, hb1⟩
        go_wp2
        go_roundw
        case rel => exact ⟨⟨k + 1, by omega, by go_num, HS2.out⟩, below_step hnx (Nat.le_refl _) hb1⟩
        case measure => simp [intOf]; omega
    · obtain rfl : k = l.length := by omega
      have HE : Hid (l.all ok = true) := by
        unfold Hid
        rw [List.all_eq_true]
        intro x hx
        obtain ⟨j, hj⟩ := List.getElem?_of_mem hx
        exact HA.out j x (List.getElem?_eq_some_iff.1 hj).1 hj
      go_wp2
      go_ret
      exact ⟨⟨-1, rfl, by rw [HE.out]; decide⟩, hnx⟩

set_option maxRecDepth 100000 in
theorem conRul (ok : Rul → Bool) (g : Nat) (l : List Rul) (A : Option Addr) (c : Nat) (w : World) (hl : SlIn w w.heap.size 3 Rul.cells (RulIn w w.heap.size) A c l) (hn : l.length ≤ 1048576)
    (HR : ∀ x ∈ l, ∀ W, Below w.heap.size w W → Calls Tryd.prog 57 #[(Rul.val) x, .pointer (some ⟨g, 0, none⟩)] W (Quietly (.bool (!ok x)) W)) :
    Calls Tryd.prog 56 #[.slice A l.length c, .func (.func 57) #[] #[.pointer (some ⟨g, 0, none⟩)]] w (Quietly (.bool (!l.all ok)) w) := by
  have HC := Lib.hid (idxRul ok g l A c w hl hn HR)
  clear hl HR
  generalize l.all ok = Z at *
  go_enter Tryd.func56, Tryd.ntmps56
  go_wp2_with fail
  refine HC.out.mono ?_
  rintro r w1 ⟨⟨v, rfl, hv⟩, hb1⟩
  have HV := Lib.hid hv
  clear hv
  go_wp2
  go_ret
  refine ⟨?_, hb1⟩
  rw [HV.out]
  by_cases h : v < 0
  · have h2 : ¬ 0 ≤ v := by omega
    simp [h, h2]
  · have h2 : 0 ≤ v := by omega
    simp [h, h2]

set_option maxRecDepth 100000 in
theorem allRul (ok : Rul → Bool) (l : List Rul) (A : Option Addr) (c : Nat) (w : World) (hl : SlIn w w.heap.size 3 Rul.cells (RulIn w w.heap.size) A c l) (hn : l.length ≤ 1048576)
    (HR : ∀ x ∈ l, ∀ W, Below w.heap.size w W → Calls Tryd.prog 48 #[(Rul.val) x] W (Quietly (.bool (ok x)) W)) :
    Calls Tryd.prog 47 #[.slice A l.length c, .func (.func 48) #[] #[]] w (Quietly (.bool (l.all ok)) w) := by
  have HC : Hid (∀ t, Calls Tryd.prog 56 #[.slice A l.length c, .func (.func 57) #[] #[.pointer (some ⟨w.heap.size, 0, none⟩)]] (w.alloc (.cells #[.func (.func 48) #[] #[]] t)) (Quietly (.bool (!l.all ok)) (w.alloc (.cells #[.func (.func 48) #[] #[]] t)))) := fun t => by
    have hb := boxed w (.cells #[.func (.func 48) #[] #[]] t)
    have hw := hb.size
    refine conRul ok w.heap.size l A c _ ((hl.mono hb fun _ _ h => h.below hb).wide hw fun _ _ h => h.wider hw) hn fun x hx W hW => ?_
    have h := (Box.new w t #[.func (.func 48) #[] #[]]).step hW
    exact cloRul x _ _ W (h.cell 0) h.lt (fun W' hW' => HR x hx W' (below_step (below_step hb (Nat.le_refl _) hW) (Nat.le_refl _) hW'))
  clear HR hl
  go_enter Tryd.func47, Tryd.ntmps47
  go_wp2_with fail
  refine (HC.out _).mono ?_
  rintro r w1 ⟨rfl, hb1⟩
  go_wp2
  go_ret
  exact ⟨ret_bool (by simp), unbox hb1⟩

end Go.Proofs.YtogpicfofifbkaaDoor.LandedT
