/- Texts of mine put together (a claim has at most so many files): TreeCond, TreeAllStr. -/
import Derived.Test.YtogpicfofifbkaaGreatDoorTreeDep
import Derived.Test.YtogpicfofifbkaaGreatDoorTreeBl
import Derived.Test.YtogpicfofifbkaaGreatDoorTreePlain
import Derived.Test.YtogpicfofifbkaaGreatDoorPart3
import Derived.Test.YtogpicfofifbkaaGreatDoorChecked
import Derived.OwnWalk
/- What the landed rightCond gives. No condition but sizes. -/
namespace Go.Proofs.YtogpicfofifbkaaGreatDoor.LandedT
open Go.RowKit

attribute [local go_sem] Oper.semAt_some

/-- May it be a rule's condition? -/
def condOk (e : Ex) : Bool := boolOk e && decide (depthOf e ≤ 30)

/-- Between two rounds of rightCond's loop. -/
def Shallow (e : Ex) (w : World) (pre : List Nat) (W : World) : Prop :=
  Boxed W (w.heap.size + 1) 4 (.bool false) ∧ Box W w.heap.size 25 e.cells.toArray ∧ Below w.heap.size w W ∧ ∀ n ∈ pre, n ≤ 30
def TooDeep (w : World) (c : Code) (pre : List Nat) (W : World) : Prop := c = .ret ∧ Boxed W (w.heap.size + 1) 4 (.bool false) ∧ Below w.heap.size w W ∧ ∃ n ∈ pre, 30 < n

theorem boxed_put {W : World} {b D : Nat} {t : TypeId} {v : Value} (h : Boxed W b t v) (o : Obj) (hD : b < D) : Boxed (W.putObj D o) b t v := boxed_keep h (below_put W D D o (Nat.le_refl _)) hD

set_option maxRecDepth 100000 in
set_option maxHeartbeats 4000000 in
theorem cond_any (e : Ex) (w : World) (hin : ExIn w w.heap.size e) (hd : depthOf e ≤ 1000) : Calls Tryz.prog 96 #[e.val] w (Quietly (.bool (condOk e)) w) := by
  have HC := Lib.hid (fun W => depths_any e W)
  have HBL := Lib.hid (fun W (hW : Below w.heap.size w W) => bool_any e W (hin.next hW) hd)
  obtain ⟨xs, hxs⟩ : ∃ xs, xs = preD 1 e := ⟨_, rfl⟩
  have hdp : depthOf e ≤ 30 ↔ ∀ n ∈ xs, n ≤ 30 := by rw [hxs]; exact depth_all e 30
  obtain ⟨W0, hW0⟩ : ∃ W0, W0 = ((w.alloc (.cells e.cells.toArray 25)).alloc (.cells #[.bool false] 4)).alloc (.cells e.cells.toArray 25) := ⟨_, rfl⟩
  have hz : W0.heap.size = w.heap.size + 3 := by rw [hW0]; simp
  have hb0 : Below w.heap.size w W0 := by rw [hW0]; exact below_alloc (two_below w _ _) (Nat.le_refl _) _
  have q0 : Box W0 w.heap.size 25 e.cells.toArray := by
    rw [hW0]
    exact ((Box.new w _ _).alloc _).alloc _
  have q1 : Boxed W0 (w.heap.size + 1) 4 (.bool false) := by
    rw [hW0]
    have h := Boxed.new (w.alloc (.cells e.cells.toArray 25)) 4 (.bool false)
    rw [World.size_alloc] at h
    exact h.alloc _
  have q2 : Box W0 (w.heap.size + 2) 25 e.cells.toArray := by
    rw [hW0]
    have h := Box.new ((w.alloc (.cells e.cells.toArray 25)).alloc (.cells #[.bool false] 4)) 25 e.cells.toArray
    simp only [World.size_alloc] at h
    exact h
  have hG := depths_give (9 - 1) (by omega) w.heap.size (w.heap.size + 2) e w W0 hin hb0 (by omega) hd q2
  rw [← hxs] at hG
  have hbd : ∀ pre x r, xs = pre ++ x :: r → x ≤ 1000 := fun pre x r h => by
    have h2 := (depth_all e 1000).1 hd
    rw [← hxs] at h2
    exact h2 x (by rw [h]; simp)
  have HR : Hid (condOk e = (boolOk e && decide (∀ n ∈ xs, n ≤ 30))) := by
    unfold Hid condOk
    congr 1
    rw [decide_eq_decide]
    exact hdp
  obtain ⟨R, hR⟩ : ∃ R, R = condOk e := ⟨_, rfl⟩
  obtain ⟨B, hB⟩ : ∃ B, B = boolOk e := ⟨_, rfl⟩
  rw [← hR] at HR ⊢
  rw [← hB] at HR HBL
  have HW0 := Lib.hid hW0
  have hI0 : Shallow e w [] W0 := ⟨q1, q0, hb0, fun n hn => absurd hn (by simp)⟩
  clear hin hd q2 hW0 hR hB hxs hdp q0 q1
  obtain ⟨kd, op, nm, nu, A, c, ks⟩ := e
  unfold Ex.val at *
  unfold Ex.cells at HW0 HC
  simp only at HC HW0 HBL ⊢
  refine (callsIn_wide (n := 9)).1 ?_
  refine callsIn_of_wp_marks Tryz.func96 rfl trivial ?_ rfl
  simp only [Tryz.ntmps96, List.size_toArray, List.length_cons, List.length_nil, Nat.reduceAdd, Nat.reduceSub, Array.replicate_succ, Array.replicate_zero, List.push_toArray, List.append_toArray, List.nil_append, List.cons_append]
  gi_wp2_with (refine ⟨trivial, ?_⟩; gi_at_call 31; refine (callsIn_wide.2 (HC.out _)).mono ?_; rintro e' w' ⟨rfl, rfl⟩)
  rw [← HW0.out]
  refine wpIn_seqFree rfl (by omega) (gf := 57) (lb := #[.pointer (some ⟨w.heap.size + 2, 0, none⟩)]) rfl trivial (enters_of Tryz.func57 (by kernel_rfl) rfl)
    hG (by omega) (fun _ => rfl) (Shallow (.node kd op nm nu A c ks) w) (TooDeep w) (fun pre X Y hs hx hb => ⟨boxed_keep hs.1 hb (by omega), hs.2.1.below hb (by omega), hs.2.2.1.trans (hb.mono (by omega)), hs.2.2.2⟩)
    (fun c pre X Y hs hx hb => ⟨hs.1, boxed_keep hs.2.1 hb (by omega), hs.2.2.1.trans (hb.mono (by omega)), hs.2.2.2⟩) hI0
    (fun x => { tmps := #[.agg #[.int .i64 kd, .string op, .string nm, .int .u64 nu, .slice A ks.length c], .pointer (some ⟨w.heap.size, 0, none⟩), .pointer (some ⟨w.heap.size + 1, 0, none⟩), .int .i64 (x : Int),
      .agg #[.int .i64 kd, .string op, .string nm, .int .u64 nu, .slice A ks.length c], .func (.func 57) #[] #[.pointer (some ⟨w.heap.size + 1 + 1, 0, none⟩)], .int .i64 (x : Int), undef, undef, undef, undef], defers := [] }) ?assign ?body ?done ?stop
  case assign =>
    intro l x W K hK
    gi_wp2
    exact hK
  case body =>
    rintro l pre x W ⟨hm, hbx, hb, hpre⟩ hsz ⟨r, hr⟩
    have d2 := hbd pre x r hr
    have HS : Hid (∀ v, Spares w.heap.size W0.heap.size W (W.setCell ⟨w.heap.size + 1, 0, none⟩ v)) := fun v => .set _ _ _ (by omega) (by omega)
    have HB : Hid (∀ v, Below w.heap.size w (W.setCell ⟨w.heap.size + 1, 0, none⟩ v)) := fun v => hb.trans (Below.setCell (Below.refl _ W) (by simp) v)
    have HM : Hid (∀ v, Boxed (W.setCell ⟨w.heap.size + 1, 0, none⟩ v) (w.heap.size + 1) 4 v) := fun v => hm.set v
    have HI : Hid (x ≤ 30 → Shallow (.node kd op nm nu A c ks) w (pre ++ [x]) W) := fun h => ⟨hm, hbx, hb, fun n hn => by
      rcases List.mem_append.1 hn with hn | hn
      · exact hpre n hn
      · have : n = x := by simpa using hn
        omega⟩
    have c1 := hm.cell
    have f1 := hm.frozen
    clear hG hbd hr hb hm hbx hpre HC HW0 HR HBL hI0
    by_cases h30 : x ≤ 30
    · have h31 : ¬ (30 : Int) < (x : Int) := by omega
      gi_wp2
      exact ⟨.refl _ _ _, HI.out h30⟩
    · have h31 : (30 : Int) < (x : Int) := by omega
      gi_wp2
      exact ⟨HS.out _, rfl, HM.out _, HB.out _, x, by simp, by omega⟩
  case done =>
    rintro D W hD hlt ⟨hm, hbx, hb, hall⟩ hK
    have HRB : Hid (R = B) := by
      unfold Hid
      rw [HR.out, decide_eq_true hall, Bool.and_true]
    obtain ⟨e0, e1, e2, e3, e4, e5⟩ := box_ex (show Box W w.heap.size 25 #[.int .i64 kd, .string op, .string nm, .int .u64 nu, .slice A ks.length c] from hbx)
    have HM := Lib.hid hm
    have HK := Lib.hid hK
    clear hG hbd HC HW0 HR hI0 hall hbx hm hK
    have HBW := HBL.out W hb
    gi_wp2_with (refine ⟨trivial, ?_⟩; gi_at_call 11; refine (callsIn_wide.2 HBW).mono ?_; rintro e' w2 ⟨rfl, hb2⟩; have hm2 := boxed_keep HM.out hb2 (by omega); have c1 := hm2.cell; have f1 := hm2.frozen)
    have hK3 : (w2.setCell ⟨w.heap.size + 1, 0, none⟩ (.bool B)).heap[D]? = some (.deferred (some [])) := (Below.heap_setCell _ _ _ _ (by simp only; omega)).trans ((hb2.block D hlt).trans HK.out)
    have c3 := (boxed_put (hm2.set (.bool B)) (.deferred none) (show w.heap.size + 1 < D by omega)).cell
    have hb3 : Below w.heap.size w (w2.setCell ⟨w.heap.size + 1, 0, none⟩ (.bool B)) := (below_step hb (Nat.le_refl _) hb2).setCell (by simp) _
    refine ⟨by simp, .inl ⟨_, _, rfl, run_takeDeferred hK3, ?_⟩⟩
    refine ⟨.bool B, ?_, by rw [HRB.out], hb3.trans (below_put _ D w.heap.size _ (by omega))⟩
    simp [results, Tryz.f96, go_sem, c3]
  case stop =>
    rintro D c pre W hD hlt ⟨t, ht⟩ ⟨rfl, hm, hb, n, hn, h30⟩ hK
    have HRF : Hid (R = false) := by
      unfold Hid
      rw [HR.out]
      have : decide (∀ n ∈ xs, n ≤ 30) = false := by
        rw [decide_eq_false_iff_not]
        intro h
        have := h n (by rw [← ht]; simp [hn])
        omega
      rw [this, Bool.and_false]
    clear hG hbd HC HW0 HR hI0 ht hn h30
    gi_wp2
    have c1 := (boxed_put hm (.deferred none) (show w.heap.size + 1 < D by omega)).cell
    refine ⟨by simp, .inl ⟨_, _, rfl, run_takeDeferred hK, ?_⟩⟩
    refine ⟨.bool false, ?_, by rw [HRF.out], hb.trans (below_put W D w.heap.size _ (by omega))⟩
    simp [results, Tryz.f96, go_sem, c1]

end Go.Proofs.YtogpicfofifbkaaGreatDoor.LandedT

/- What the landed all gives of a list of string, given what its function gives of each. No condition but sizes. -/
namespace Go.Proofs.YtogpicfofifbkaaGreatDoor.LandedT
open Go.RowKit


theorem enter_rightStr (args : Array Value) (w : World) : (callFunc 7 args).run Tryz.prog w = .ok (.enter 7 args) w := by kernel_rfl
theorem enter_cloStr (args : Array Value) (w : World) : (callFunc 65 args).run Tryz.prog w = .ok (.enter 65 args) w := by kernel_rfl

theorem cloStr (x : ByteArray) (g : Nat) (b : Bool) (W : World) (hg : W.cell? ⟨g, 0, none⟩ = some (.func (.func 7) #[] #[])) (_hgW : g < W.heap.size) (HR : ∀ W', Below W.heap.size W W' → Calls Tryz.prog 7 #[(fun s : ByteArray => Value.string s) x] W' (Quietly (.bool b) W')) :
    Calls Tryz.prog 65 #[(fun s : ByteArray => Value.string s) x, .pointer (some ⟨g, 0, none⟩)] W (Quietly (.bool (!b)) W) := by
  have eg := enter_rightStr
  have HC := Lib.hid HR
  clear HR
  skip
  go_enter Tryz.func65, Tryz.ntmps65
  go_wp2_with fail
  refine (HC.out _ (Below.refl _ _)).mono ?_
  rintro r w1 ⟨rfl, hb1⟩
  go_wp2
  go_ret
  exact ⟨rfl, hb1⟩

/-- Where IndexFunc stands. -/
def IdxStr (ok : ByteArray → Bool) (l : List ByteArray) (w : World) (i : Value) (wr : World) : Prop :=
  (∃ k : Nat, k ≤ l.length ∧ i = .int .i64 k ∧ ∀ j x, j < k → l[j]? = some x → ok x = true) ∧ Below w.heap.size w wr

set_option maxRecDepth 100000 in
set_option maxHeartbeats 2000000 in
theorem idxStr (ok : ByteArray → Bool) (g : Nat) (l : List ByteArray) (A : Option Addr) (c : Nat) (w : World) (hl : SlIn w w.heap.size 1 strCells (StrIn) A c l) (hn : l.length ≤ 1048576)
    (HR : ∀ x ∈ l, ∀ W, Below w.heap.size w W → Calls Tryz.prog 65 #[(fun s : ByteArray => Value.string s) x, .pointer (some ⟨g, 0, none⟩)] W (Quietly (.bool (!ok x)) W)) :
    Calls Tryz.prog 81 #[.slice A l.length c, .func (.func 65) #[] #[.pointer (some ⟨g, 0, none⟩)]] w fun e w' =>
      (∃ v : Int, e = .returned (.int .i64 v) ∧ l.all ok = decide (v < 0)) ∧ Below w.heap.size w w' := by
  have HL := Lib.hid hl
  have HC := Lib.hid HR
  have eg := enter_cloStr
  clear hl HR
  go_enter Tryz.func81, Tryz.ntmps81
  go_wp2_with fail
  go_loopw [8] (fun i wr => IdxStr ok l w i wr) (fun i _ => l.length - (intOf i).toNat)
  case atStart => exact ⟨⟨0, Nat.zero_le _, rfl, fun j x h => absurd h (Nat.not_lt_zero _)⟩, Below.refl _ _⟩
  case round =>
    obtain ⟨⟨k, hk, rfl, hall⟩, hnx⟩ := hrel
    have HA := Lib.hid hall
    clear hall
    by_cases hlt : k < l.length
    · obtain ⟨b, o, s, hA, hb, hx, hP, e0⟩ := (HL.out.mono hnx (Q := StrIn) fun _ _ h => h).str hlt
      subst hA
      have HX := Lib.hid hx
      have HF := Lib.hid (HC.out _ (List.mem_of_getElem? hx) wr hnx)
      have HS : Hid (∀ (h : ok (s) = true) j x, j < k + 1 → l[j]? = some x → ok x = true) := fun h j y hj hy => by
        rcases Nat.lt_or_ge j k with h1 | h1
        · exact HA.out j y h1 hy
        · obtain rfl : j = k := by omega
          rw [HX.out] at hy
          have he := Option.some.inj hy
          subst he
          exact h
      have HE : Hid (ok (s) = false → l.all ok = false) := fun h => by
        rw [Bool.eq_false_iff]
        intro h2
        have := List.all_eq_true.1 h2 _ (List.mem_of_getElem? HX.out)
        rw [h] at this
        cases this
      clear hx hP
      generalize ok (s) = B at HF HS HE
      cases B
      · have HE2 : Hid (l.all ok = false) := HE.out rfl
        clear HE HS
        go_wp2_with fail
        refine HF.out.mono ?_
        rintro r w1 ⟨rfl, hb1⟩
        go_wp2
        go_ret
        exact ⟨⟨k, rfl, by rw [HE2.out]; symm; rw [decide_eq_false_iff_not]; omega⟩, below_step hnx (Nat.le_refl _) hb1⟩
      · have HS2 := Lib.hid (HS.out rfl)
        clear HE HS
        go_wp2_with fail
        refine HF.out.mono ?_
        rintro r w1 ⟨rfl, hb1⟩
        go_wp2
        go_roundw
        case rel => exact ⟨⟨k + 1, by omega, by go_num, HS2.out⟩, below_step hnx (Nat.le_refl _) hb1⟩
        case measure => simp [intOf]; omega
    · obtain rfl : k = l.length := by omega
      have HE : Hid (l.all ok = true) := by
        unfold Hid
        rw [List.all_eq_true]
        intro x hx
        obtain ⟨j, hj⟩ := List.getElem?_of_mem hx
        exact HA.out j x (List.getElem?_eq_some_iff.1 hj).1 hj
      go_wp2
      go_ret
      exact ⟨⟨-1, rfl, by rw [HE.out]; decide⟩, hnx⟩

set_option maxRecDepth 100000 in
theorem conStr (ok : ByteArray → Bool) (g : Nat) (l : List ByteArray) (A : Option Addr) (c : Nat) (w : World) (hl : SlIn w w.heap.size 1 strCells (StrIn) A c l) (hn : l.length ≤ 1048576)
    (HR : ∀ x ∈ l, ∀ W, Below w.heap.size w W → Calls Tryz.prog 65 #[(fun s : ByteArray => Value.string s) x, .pointer (some ⟨g, 0, none⟩)] W (Quietly (.bool (!ok x)) W)) :
    Calls Tryz.prog 64 #[.slice A l.length c, .func (.func 65) #[] #[.pointer (some ⟨g, 0, none⟩)]] w (Quietly (.bool (!l.all ok)) w) := by
  have HC := Lib.hid (idxStr ok g l A c w hl hn HR)
  clear hl HR
  generalize l.all ok = Z at *
  go_enter Tryz.func64, Tryz.ntmps64
  go_wp2_with fail
  refine HC.out.mono ?_
  rintro r w1 ⟨⟨v, rfl, hv⟩, hb1⟩
  have HV := Lib.hid hv
  clear hv
  go_wp2
  go_ret
  refine ⟨?_, hb1⟩
  rw [HV.out]
  by_cases h : v < 0
  · have h2 : ¬ 0 ≤ v := by omega
    simp [h, h2]
  · have h2 : 0 ≤ v := by omega
    simp [h, h2]

set_option maxRecDepth 100000 in
theorem allStr (ok : ByteArray → Bool) (l : List ByteArray) (A : Option Addr) (c : Nat) (w : World) (hl : SlIn w w.heap.size 1 strCells (StrIn) A c l) (hn : l.length ≤ 1048576)
    (HR : ∀ x ∈ l, ∀ W, Below w.heap.size w W → Calls Tryz.prog 7 #[(fun s : ByteArray => Value.string s) x] W (Quietly (.bool (ok x)) W)) :
    Calls Tryz.prog 36 #[.slice A l.length c, .func (.func 7) #[] #[]] w (Quietly (.bool (l.all ok)) w) := by
  have HC : Hid (∀ t, Calls Tryz.prog 64 #[.slice A l.length c, .func (.func 65) #[] #[.pointer (some ⟨w.heap.size, 0, none⟩)]] (w.alloc (.cells #[.func (.func 7) #[] #[]] t)) (Quietly (.bool (!l.all ok)) (w.alloc (.cells #[.func (.func 7) #[] #[]] t)))) := fun t => by
    have hb := boxed w (.cells #[.func (.func 7) #[] #[]] t)
    have hw := hb.size
    refine conStr ok w.heap.size l A c _ ((hl.mono hb fun _ _ h => h).wide hw fun _ _ h => h) hn fun x hx W hW => ?_
    have h := (Box.new w t #[.func (.func 7) #[] #[]]).step hW
    exact cloStr x _ _ W (h.cell 0) h.lt (fun W' hW' => HR x hx W' (below_step (below_step hb (Nat.le_refl _) hW) (Nat.le_refl _) hW'))
  clear HR hl
  go_enter Tryz.func36, Tryz.ntmps36
  go_wp2_with fail
  refine (HC.out _).mono ?_
  rintro r w1 ⟨rfl, hb1⟩
  go_wp2
  go_ret
  exact ⟨ret_bool (by simp), unbox hb1⟩

end Go.Proofs.YtogpicfofifbkaaGreatDoor.LandedT
