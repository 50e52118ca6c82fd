/- What the landed all gives of a list of api.Define, given what its function gives of each. No condition but sizes. -/
import Derived.Test.YtogpicfofifbkaaDoorTreePlain
import Derived.Test.YtogpicfofifbkaaDoorLetters
import Derived.Test.YtogpicfofifbkaaDoorChecked
import Derived.OwnWalk
namespace Go.Proofs.YtogpicfofifbkaaDoor.LandedT
open Go.RowKit

def Dfn.val (d : Dfn) : Value := match d with | ⟨name, .node kd op nm nu A c ks⟩ => .agg #[.string name, .int .i64 kd, .string op, .string nm, .int .u64 nu, .slice A ks.length c]
theorem enter_rightDfn (args : Array Value) (w : World) : (callFunc 15 args).run Tryd.prog w = .ok (.enter 15 args) w := by kernel_rfl
theorem enter_cloDfn (args : Array Value) (w : World) : (callFunc 29 args).run Tryd.prog w = .ok (.enter 29 args) w := by kernel_rfl

theorem cloDfn (x : Dfn) (g : Nat) (b : Bool) (W : World) (hg : W.cell? ⟨g, 0, none⟩ = some (.func (.func 15) #[] #[])) (hgW : g < W.heap.size) (HR : ∀ W', Below W.heap.size W W' → Calls Tryd.prog 15 #[(Dfn.val) x] W' (Quietly (.bool b) W')) :
    Calls Tryd.prog 29 #[(Dfn.val) x, .pointer (some ⟨g, 0, none⟩)] W (Quietly (.bool (!b)) W) := by
  have eg := enter_rightDfn
  have HC := Lib.hid HR
  clear HR
  obtain ⟨name, kd0, op0, nm0, nu0, A0, c0, ks0⟩ := x
  unfold Dfn.val at *
  simp only at HC ⊢
  go_enter Tryd.func29, Tryd.ntmps29
  go_wp2_with fail
  refine (HC.out _ (boxed _ _)).mono ?_
  rintro r w1 ⟨rfl, hb1⟩
  go_wp2
  go_ret
  exact ⟨rfl, unbox hb1⟩

/-- Where IndexFunc stands. -/
def IdxDfn (ok : Dfn → Bool) (l : List Dfn) (w : World) (i : Value) (wr : World) : Prop :=
  (∃ k : Nat, k ≤ l.length ∧ i = .int .i64 k ∧ ∀ j x, j < k → l[j]? = some x → ok x = true) ∧ Below w.heap.size w wr

set_option maxRecDepth 100000 in
set_option maxHeartbeats 2000000 in
theorem idxDfn (ok : Dfn → Bool) (g : Nat) (l : List Dfn) (A : Option Addr) (c : Nat) (w : World) (hl : SlIn w w.heap.size 6 Dfn.cells (DfnIn w w.heap.size) A c l) (hn : l.length ≤ 1048576)
    (HR : ∀ x ∈ l, ∀ W, Below w.heap.size w W → Calls Tryd.prog 29 #[(Dfn.val) x, .pointer (some ⟨g, 0, none⟩)] W (Quietly (.bool (!ok x)) W)) :
    Calls Tryd.prog 43 #[.slice A l.length c, .func (.func 29) #[] #[.pointer (some ⟨g, 0, none⟩)]] w fun e w' =>
      (∃ v : Int, e = .returned (.int .i64 v) ∧ l.all ok = decide (v < 0)) ∧ Below w.heap.size w w' := by
  have HL := Lib.hid hl
  have HC := Lib.hid HR
  have eg := enter_cloDfn
  clear hl HR
  go_enter Tryd.func43, Tryd.ntmps43
  go_wp2_with fail
  go_loopw [8] (fun i wr => IdxDfn ok l w i wr) (fun i _ => l.length - (intOf i).toNat)
  case atStart => exact ⟨⟨0, Nat.zero_le _, rfl, fun j x h => absurd h (Nat.not_lt_zero _)⟩, Below.refl _ _⟩
  case round =>
    obtain ⟨⟨k, hk, rfl, hall⟩, hnx⟩ := hrel
    have HA := Lib.hid hall
    clear hall
    by_cases hlt : k < l.length
    · obtain ⟨b, o, name, kd0, op0, nm0, nu0, A0, c0, ks0, hA, hb, hx, hP, e0, e1, e2, e3, e4, e5⟩ := (HL.out.mono hnx (Q := DfnIn w w.heap.size) fun _ _ h => h).dfn hlt
      subst hA
      have HX := Lib.hid hx
      have HF := Lib.hid (HC.out _ (List.mem_of_getElem? hx) wr hnx)
      have HS : Hid (∀ (h : ok (⟨name, .node kd0 op0 nm0 nu0 A0 c0 ks0⟩) = true) j x, j < k + 1 → l[j]? = some x → ok x = true) := fun h j y hj hy => by
        rcases Nat.lt_or_ge j k with h1 | h1
        · exact HA.out j y h1 hy
        · obtain rfl : j = k := by omega
          rw [HX.out] at hy
          have he := Option.some.inj hy
          subst he
          exact h
      have HE : Hid (ok (⟨name, .node kd0 op0 nm0 nu0 A0 c0 ks0⟩) = false → l.all ok = false) := fun h => by
        rw [Bool.eq_false_iff]
        intro h2
        have := List.all_eq_true.1 h2 _ (List.mem_of_getElem? HX.out)
        rw [h] at this
        cases this
      clear hx hP
      unfold Dfn.val at HF
      generalize ok (⟨name, .node kd0 op0 nm0 nu0 A0 c0 ks0⟩) = B at HF HS HE
      cases B
      · have HE2 : Hid (l.all ok = false) := HE.out rfl
        clear HE HS
        go_wp2_with fail
        refine HF.out.mono ?_
        rintro r w1 ⟨rfl, hb1⟩
        go_wp2
        go_ret
        exact ⟨⟨k, rfl, by rw [HE2.out]; symm; rw [decide_eq_false_iff_not]; omega⟩, below_step hnx (Nat.le_refl _) hb1⟩
      · have HS2 := Lib.hid (HS.out rfl)
        clear HE HS
        go_wp2_with fail
        refine HF.out.mono ?_
        rintro r w1 ⟨rfl, hb1⟩
        go_wp2
        go_roundw
        case rel => exact ⟨⟨k + 1, by omega, by go_num, HS2.out⟩, below_step hnx (Nat.le_refl _) hb1⟩
        case measure => simp [intOf]; omega
    · obtain rfl : k = l.length := by omega
      have HE : Hid (l.all ok = true) := by
        unfold Hid
        rw [List.all_eq_true]
        intro x hx
        obtain ⟨j, hj⟩ := List.getElem?_of_mem hx
        exact HA.out j x (List.getElem?_eq_some_iff.1 hj).1 hj
      go_wp2
      go_ret
      exact ⟨⟨-1, rfl, by rw [HE.out]; decide⟩, hnx⟩

set_option maxRecDepth 100000 in
theorem conDfn (ok : Dfn → Bool) (g : Nat) (l : List Dfn) (A : Option Addr) (c : Nat) (w : World) (hl : SlIn w w.heap.size 6 Dfn.cells (DfnIn w w.heap.size) A c l) (hn : l.length ≤ 1048576)
    (HR : ∀ x ∈ l, ∀ W, Below w.heap.size w W → Calls Tryd.prog 29 #[(Dfn.val) x, .pointer (some ⟨g, 0, none⟩)] W (Quietly (.bool (!ok x)) W)) :
    Calls Tryd.prog 28 #[.slice A l.length c, .func (.func 29) #[] #[.pointer (some ⟨g, 0, none⟩)]] w (Quietly (.bool (!l.all ok)) w) := by
  have HC := Lib.hid (idxDfn ok g l A c w hl hn HR)
  clear hl HR
  generalize l.all ok = Z at *
  go_enter Tryd.func28, Tryd.ntmps28
  go_wp2_with fail
  refine HC.out.mono ?_
  rintro r w1 ⟨⟨v, rfl, hv⟩, hb1⟩
  have HV := Lib.hid hv
  clear hv
  go_wp2
  go_ret
  refine ⟨?_, hb1⟩
  rw [HV.out]
  by_cases h : v < 0
  · have h2 : ¬ 0 ≤ v := by omega
    simp [h, h2]
  · have h2 : 0 ≤ v := by omega
    simp [h, h2]

set_option maxRecDepth 100000 in
theorem allDfn (ok : Dfn → Bool) (l : List Dfn) (A : Option Addr) (c : Nat) (w : World) (hl : SlIn w w.heap.size 6 Dfn.cells (DfnIn w w.heap.size) A c l) (hn : l.length ≤ 1048576)
    (HR : ∀ x ∈ l, ∀ W, Below w.heap.size w W → Calls Tryd.prog 15 #[(Dfn.val) x] W (Quietly (.bool (ok x)) W)) :
    Calls Tryd.prog 14 #[.slice A l.length c, .func (.func 15) #[] #[]] w (Quietly (.bool (l.all ok)) w) := by
  have HC : Hid (∀ t, Calls Tryd.prog 28 #[.slice A l.length c, .func (.func 29) #[] #[.pointer (some ⟨w.heap.size, 0, none⟩)]] (w.alloc (.cells #[.func (.func 15) #[] #[]] t)) (Quietly (.bool (!l.all ok)) (w.alloc (.cells #[.func (.func 15) #[] #[]] t)))) := fun t => by
    have hb := boxed w (.cells #[.func (.func 15) #[] #[]] t)
    have hw := hb.size
    refine conDfn ok w.heap.size l A c _ ((hl.mono hb fun _ _ h => h.below hb).wide hw fun _ _ h => h.wider hw) hn fun x hx W hW => ?_
    have h := (Box.new w t #[.func (.func 15) #[] #[]]).step hW
    exact cloDfn x _ _ W (h.cell 0) h.lt (fun W' hW' => HR x hx W' (below_step (below_step hb (Nat.le_refl _) hW) (Nat.le_refl _) hW'))
  clear HR hl
  go_enter Tryd.func14, Tryd.ntmps14
  go_wp2_with fail
  refine (HC.out _).mono ?_
  rintro r w1 ⟨rfl, hb1⟩
  go_wp2
  go_ret
  exact ⟨ret_bool (by simp), unbox hb1⟩

end Go.Proofs.YtogpicfofifbkaaDoor.LandedT
