/- Texts of mine put together (a claim has at most so many files): TreeAllDfn, CallValL. -/
import Derived.Test.YtogpicfofifbkaaGreatDoorTreePlain
import Derived.Test.YtogpicfofifbkaaGreatDoorPart3
import Derived.Test.YtogpicfofifbkaaGreatDoorChecked
import Derived.OwnWalk
import Derived.Test.YtogpicfofifbkaaGreatDoorCallTab
/- What the landed all gives of a list of api.Define, given what its function gives of each. No condition but sizes. -/
namespace Go.Proofs.YtogpicfofifbkaaGreatDoor.LandedT
open Go.RowKit

def Dfn.val (d : Dfn) : Value := match d with | ⟨name, .node kd op nm nu A c ks⟩ => .agg #[.string name, .int .i64 kd, .string op, .string nm, .int .u64 nu, .slice A ks.length c]
theorem enter_rightDfn (args : Array Value) (w : World) : (callFunc 33 args).run Tryz.prog w = .ok (.enter 33 args) w := by kernel_rfl
theorem enter_cloDfn (args : Array Value) (w : World) : (callFunc 59 args).run Tryz.prog w = .ok (.enter 59 args) w := by kernel_rfl

theorem cloDfn (x : Dfn) (g : Nat) (b : Bool) (W : World) (hg : W.cell? ⟨g, 0, none⟩ = some (.func (.func 33) #[] #[])) (hgW : g < W.heap.size) (HR : ∀ W', Below W.heap.size W W' → Calls Tryz.prog 33 #[(Dfn.val) x] W' (Quietly (.bool b) W')) :
    Calls Tryz.prog 59 #[(Dfn.val) x, .pointer (some ⟨g, 0, none⟩)] W (Quietly (.bool (!b)) W) := by
  have eg := enter_rightDfn
  have HC := Lib.hid HR
  clear HR
  obtain ⟨name, kd0, op0, nm0, nu0, A0, c0, ks0⟩ := x
  unfold Dfn.val at *
  simp only at HC ⊢
  go_enter Tryz.func59, Tryz.ntmps59
  go_wp2_with fail
  refine (HC.out _ (boxed _ _)).mono ?_
  rintro r w1 ⟨rfl, hb1⟩
  go_wp2
  go_ret
  exact ⟨rfl, unbox hb1⟩

/-- Where IndexFunc stands. -/
def IdxDfn (ok : Dfn → Bool) (l : List Dfn) (w : World) (i : Value) (wr : World) : Prop :=
  (∃ k : Nat, k ≤ l.length ∧ i = .int .i64 k ∧ ∀ j x, j < k → l[j]? = some x → ok x = true) ∧ Below w.heap.size w wr

set_option maxRecDepth 100000 in
set_option maxHeartbeats 2000000 in
theorem idxDfn (ok : Dfn → Bool) (g : Nat) (l : List Dfn) (A : Option Addr) (c : Nat) (w : World) (hl : SlIn w w.heap.size 6 Dfn.cells (DfnIn w w.heap.size) A c l) (hn : l.length ≤ 1048576)
    (HR : ∀ x ∈ l, ∀ W, Below w.heap.size w W → Calls Tryz.prog 59 #[(Dfn.val) x, .pointer (some ⟨g, 0, none⟩)] W (Quietly (.bool (!ok x)) W)) :
    Calls Tryz.prog 75 #[.slice A l.length c, .func (.func 59) #[] #[.pointer (some ⟨g, 0, none⟩)]] w fun e w' =>
      (∃ v : Int, e = .returned (.int .i64 v) ∧ l.all ok = decide (v < 0)) ∧ Below w.heap.size w w' := by
  have HL := Lib.hid hl
  have HC := Lib.hid HR
  have eg := enter_cloDfn
  clear hl HR
  go_enter Tryz.func75, Tryz.ntmps75
  go_wp2_with fail
  go_loopw [8] (fun i wr => IdxDfn ok l w i wr) (fun i _ => l.length - (intOf i).toNat)
  case atStart => exact ⟨⟨0, Nat.zero_le _, rfl, fun j x h => absurd h (Nat.not_lt_zero _)⟩, Below.refl _ _⟩
  case round =>
    obtain ⟨⟨k, hk, rfl, hall⟩, hnx⟩ := hrel
    have HA := Lib.hid hall
    clear hall
    by_cases hlt : k < l.length
    · obtain ⟨b, o, name, kd0, op0, nm0, nu0, A0, c0, ks0, hA, hb, hx, hP, e0, e1, e2, e3, e4, e5⟩ := (HL.out.mono hnx (Q := DfnIn w w.heap.size) fun _ _ h => h).dfn hlt
      subst hA
      have HX := Lib.hid hx
      have HF := Lib.hid (HC.out _ (List.mem_of_getElem? hx) wr hnx)
      have HS : Hid (∀ (h : ok (⟨name, .node kd0 op0 nm0 nu0 A0 c0 ks0⟩) = true) j x, j < k + 1 → l[j]? = some x → ok x = true) := fun h j y hj hy => by
        rcases Nat.lt_or_ge j k with h1 | h1
        · exact HA.out j y h1 hy
        · obtain rfl : j = k := by omega
          rw [HX.out] at hy
          have he := Option.some.inj hy
          subst he
          exact h
      have HE : Hid (ok (⟨name, .node kd0 op0 nm0 nu0 A0 c0 ks0⟩) = false → l.all ok = false) := fun h => by
        rw [Bool.eq_false_iff]
        intro h2
        have := List.all_eq_true.1 h2 _ (List.mem_of_getElem? HX.out)
        rw [h] at this
        cases this
      clear hx hP
      unfold Dfn.val at HF
      generalize ok (⟨name, .node kd0 op0 nm0 nu0 A0 c0 ks0⟩) = B at HF HS HE
      cases B
      · have HE2 : Hid (l.all ok = false) := HE.out rfl
        clear HE HS
        go_wp2_with fail
        refine HF.out.mono ?_
        rintro r w1 ⟨rfl, hb1⟩
        go_wp2
        go_ret
        exact ⟨⟨k, rfl, by rw [HE2.out]; symm; rw [decide_eq_false_iff_not]; omega⟩, below_step hnx (Nat.le_refl _) hb1⟩
      · have HS2 := Lib.hid (HS.out rfl)
        clear HE HS
        go_wp2_with fail
        refine HF.out.mono ?_
        rintro r w1 ⟨rfl, hb1⟩
        go_wp2
        go_roundw
        case rel => exact ⟨⟨k + 1, by omega, by go_num, HS2.out⟩, below_step hnx (Nat.le_refl _) hb1⟩
        case measure => simp [intOf]; omega
    · obtain rfl : k = l.length := by omega
      have HE : Hid (l.all ok = true) := by
        unfold Hid
        rw [List.all_eq_true]
        intro x hx
        obtain ⟨j, hj⟩ := List.getElem?_of_mem hx
        exact HA.out j x (List.getElem?_eq_some_iff.1 hj).1 hj
      go_wp2
      go_ret
      exact ⟨⟨-1, rfl, by rw [HE.out]; decide⟩, hnx⟩

set_option maxRecDepth 100000 in
theorem conDfn (ok : Dfn → Bool) (g : Nat) (l : List Dfn) (A : Option Addr) (c : Nat) (w : World) (hl : SlIn w w.heap.size 6 Dfn.cells (DfnIn w w.heap.size) A c l) (hn : l.length ≤ 1048576)
    (HR : ∀ x ∈ l, ∀ W, Below w.heap.size w W → Calls Tryz.prog 59 #[(Dfn.val) x, .pointer (some ⟨g, 0, none⟩)] W (Quietly (.bool (!ok x)) W)) :
    Calls Tryz.prog 58 #[.slice A l.length c, .func (.func 59) #[] #[.pointer (some ⟨g, 0, none⟩)]] w (Quietly (.bool (!l.all ok)) w) := by
  have HC := Lib.hid (idxDfn ok g l A c w hl hn HR)
  clear hl HR
  generalize l.all ok = Z at *
  go_enter Tryz.func58, Tryz.ntmps58
  go_wp2_with fail
  refine HC.out.mono ?_
  rintro r w1 ⟨⟨v, rfl, hv⟩, hb1⟩
  have HV := Lib.hid hv
  clear hv
  go_wp2
  go_ret
  refine ⟨?_, hb1⟩
  rw [HV.out]
  by_cases h : v < 0
  · have h2 : ¬ 0 ≤ v := by omega
    simp [h, h2]
  · have h2 : 0 ≤ v := by omega
    simp [h, h2]

set_option maxRecDepth 100000 in
theorem allDfn (ok : Dfn → Bool) (l : List Dfn) (A : Option Addr) (c : Nat) (w : World) (hl : SlIn w w.heap.size 6 Dfn.cells (DfnIn w w.heap.size) A c l) (hn : l.length ≤ 1048576)
    (HR : ∀ x ∈ l, ∀ W, Below w.heap.size w W → Calls Tryz.prog 33 #[(Dfn.val) x] W (Quietly (.bool (ok x)) W)) :
    Calls Tryz.prog 32 #[.slice A l.length c, .func (.func 33) #[] #[]] w (Quietly (.bool (l.all ok)) w) := by
  have HC : Hid (∀ t, Calls Tryz.prog 58 #[.slice A l.length c, .func (.func 59) #[] #[.pointer (some ⟨w.heap.size, 0, none⟩)]] (w.alloc (.cells #[.func (.func 33) #[] #[]] t)) (Quietly (.bool (!l.all ok)) (w.alloc (.cells #[.func (.func 33) #[] #[]] t)))) := fun t => by
    have hb := boxed w (.cells #[.func (.func 33) #[] #[]] t)
    have hw := hb.size
    refine conDfn ok w.heap.size l A c _ ((hl.mono hb fun _ _ h => h.below hb).wide hw fun _ _ h => h.wider hw) hn fun x hx W hW => ?_
    have h := (Box.new w t #[.func (.func 33) #[] #[]]).step hW
    exact cloDfn x _ _ W (h.cell 0) h.lt (fun W' hW' => HR x hx W' (below_step (below_step hb (Nat.le_refl _) hW) (Nat.le_refl _) hW'))
  clear HR hl
  go_enter Tryz.func32, Tryz.ntmps32
  go_wp2_with fail
  refine (HC.out _).mono ?_
  rintro r w1 ⟨rfl, hb1⟩
  go_wp2
  go_ret
  exact ⟨ret_bool (by simp), unbox hb1⟩

end Go.Proofs.YtogpicfofifbkaaGreatDoor.LandedT

/- What the landed kind and Value give. No condition. -/
namespace Go.Proofs.YtogpicfofifbkaaGreatDoor
open Go.RowKit

/-! ### The actions' values -/
def kindOf (k : Int) : Int × Int × Bool :=
  if k = 1 then (2147483648, 0, true) else if k = 2 then (0, 0, true) else if k = 3 then (196608, 65535, true) else if k = 4 then (327680, 65535, true) else if k = 5 then (2146435072, 65535, true)
  else if k = 6 then (2147221504, 0, true) else if k = 7 then (2147418112, 0, true) else (0, 0, false)

set_option maxRecDepth 100000 in
theorem land_kind (k : Int) (w : World) : Calls Tryz.prog 82 #[.int .i64 k] w fun e w' => e = .returned (.tuple #[.int .u32 (kindOf k).1, .int .i64 (kindOf k).2.1, .bool (kindOf k).2.2]) ∧ w' = w := by
  by_cases h : k = 1 ∨ k = 2 ∨ k = 3 ∨ k = 4 ∨ k = 5 ∨ k = 6 ∨ k = 7
  · rcases h with rfl | rfl | rfl | rfl | rfl | rfl | rfl
    all_goals
      go_enter Tryz.func82, Tryz.ntmps82
      go_wp2
      go_ret3
      exact ⟨rfl, rfl⟩
  · have e : kindOf k = (0, 0, false) := by
      unfold kindOf
      rw [if_neg (by omega), if_neg (by omega), if_neg (by omega), if_neg (by omega), if_neg (by omega), if_neg (by omega), if_neg (by omega)]
    rw [e]
    have h1 : ¬ k = 1 := by omega
    have h2 : ¬ k = 2 := by omega
    have h3 : ¬ k = 3 := by omega
    have h4 : ¬ k = 4 := by omega
    have h5 : ¬ k = 5 := by omega
    have h6 : ¬ k = 6 := by omega
    have h7 : ¬ k = 7 := by omega
    clear h e
    go_enter Tryz.func82, Tryz.ntmps82
    go_wp2
    go_ret3
    exact ⟨rfl, rfl⟩

theorem value_is (k d : Int) : valueOf k d = if (kindOf k).2.2 = true ∧ 0 ≤ d ∧ d ≤ (kindOf k).2.1 then ((kindOf k).1 + d, true) else (0, false) := by
  by_cases h : k = 1 ∨ k = 2 ∨ k = 3 ∨ k = 4 ∨ k = 5 ∨ k = 6 ∨ k = 7
  · rcases h with rfl | rfl | rfl | rfl | rfl | rfl | rfl <;> simp [valueOf, kindOf] <;> (try split) <;> (try split) <;> simp_all <;> omega
  · have e : kindOf k = (0, 0, false) := by
      unfold kindOf
      rw [if_neg (by omega), if_neg (by omega), if_neg (by omega), if_neg (by omega), if_neg (by omega), if_neg (by omega), if_neg (by omega)]
    rw [e]
    unfold valueOf
    rw [if_neg (by omega), if_neg (by omega)]
    simp

theorem kind_bounds (k : Int) : 0 ≤ (kindOf k).1 ∧ (kindOf k).1 ≤ 2147483648 ∧ 0 ≤ (kindOf k).2.1 ∧ (kindOf k).2.1 ≤ 65535 ∧ ((kindOf k).1 + (kindOf k).2.1 ≤ 2147549183) := by
  by_cases h : k = 1 ∨ k = 2 ∨ k = 3 ∨ k = 4 ∨ k = 5 ∨ k = 6 ∨ k = 7
  · rcases h with rfl | rfl | rfl | rfl | rfl | rfl | rfl <;> decide
  · have e : kindOf k = (0, 0, false) := by
      unfold kindOf
      rw [if_neg (by omega), if_neg (by omega), if_neg (by omega), if_neg (by omega), if_neg (by omega), if_neg (by omega), if_neg (by omega)]
    rw [e]
    decide

set_option maxRecDepth 100000 in
set_option maxHeartbeats 1000000 in
theorem land_value (k d : Int) (w : World) (d0 : -9223372036854775808 ≤ d) (d1 : d ≤ 9223372036854775807) : Calls Tryz.prog 66 #[.agg #[.int .i64 k, .int .i64 d]] w (U32Bool (valueOf k d) w) := by
  have HK : Hid (∀ W, Calls Tryz.prog 82 #[.int .i64 k] W fun e w' => e = .returned (.tuple #[.int .u32 (kindOf k).1, .int .i64 (kindOf k).2.1, .bool (kindOf k).2.2]) ∧ w' = W) := fun W => land_kind k W
  have HN : Hid (Below w.heap.size w (w.alloc (.cells #[.int .i64 k, .int .i64 d] 30))) := below_alloc (Below.refl _ _) (Nat.le_refl _) _
  obtain ⟨b0, b1, b2, b3, b4⟩ := kind_bounds k
  rw [value_is]
  obtain ⟨⟨u, m, ok⟩, hU⟩ : ∃ U, U = kindOf k := ⟨_, rfl⟩
  rw [← hU] at HK b0 b1 b2 b3 b4 ⊢
  clear hU
  dsimp only at HK b0 b1 b2 b3 b4 ⊢
  cases ok
  · rw [if_neg (by simp)]
    go_enter Tryz.func66, Tryz.ntmps66
    go_wp2_with fail
    refine (HK.out _).mono ?_
    rintro e w2 ⟨rfl, rfl⟩
    go_wp2
    go_ret2
    exact ⟨rfl, HN.out⟩
  · by_cases h0 : d < 0
    · rw [if_neg (by omega)]
      go_enter Tryz.func66, Tryz.ntmps66
      go_wp2_with fail
      refine (HK.out _).mono ?_
      rintro e w2 ⟨rfl, rfl⟩
      go_wp2
      go_ret2
      exact ⟨rfl, HN.out⟩
    · by_cases h1 : m < d
      · rw [if_neg (by omega)]
        go_enter Tryz.func66, Tryz.ntmps66
        go_wp2_with fail
        refine (HK.out _).mono ?_
        rintro e w2 ⟨rfl, rfl⟩
        go_wp2
        go_ret2
        exact ⟨rfl, HN.out⟩
      · rw [if_pos ⟨rfl, by omega, by omega⟩]
        have e1 : IntKind.u32.wrap d = d := by rw [IntKind.wrap_u32]; omega
        have e2 : IntKind.u32.wrap (u + d) = u + d := by rw [IntKind.wrap_u32]; omega
        go_enter Tryz.func66, Tryz.ntmps66
        go_wp2_with fail
        refine (HK.out _).mono ?_
        rintro e w2 ⟨rfl, rfl⟩
        go_wp2
        go_ret2
        exact ⟨rfl, HN.out⟩

end Go.Proofs.YtogpicfofifbkaaGreatDoor
