/- Texts of mine put together (a claim has at most so many files): TreeSame, TreeBool, TreeDepth, CallVal, TreePart, TreeAlike. -/
import Derived.Test.YtfklajkmikanbaaGreatDoorPart11
import Derived.StillTailTactics
import Derived.Test.YtfklajkmikanbaaGreatDoorPart3
import Derived.Test.YtfklajkmikanbaaGreatDoorPart4
import Derived.Test.YtfklajkmikanbaaGreatDoorChecked
import Derived.Test.YtfklajkmikanbaaGreatDoorPart2
import Derived.Laws.StructEq
/- What the document's own SameExpr and same give. -/
namespace Go.Proofs.YtfklajkmikanbaaGreatDoor
open Go.RowKit

theorem sames_at : ∀ (l m : List Ex) (k : Nat) (x y : Ex), l[k]? = some x → m[k]? = some y → sameEx x y = false → samesEx l m = false
  | [], _, k, x, y, h, _, _ => by simp at h
  | a :: l, [], k, x, y, _, h, _ => by simp at h
  | a :: l, b :: m, 0, x, y, h1, h2, h => by
    have e1 : a = x := by simpa using h1
    have e2 : b = y := by simpa using h2
    unfold samesEx
    rw [e1, e2, h]
    rfl
  | a :: l, b :: m, k + 1, x, y, h1, h2, h => by
    unfold samesEx
    rw [sames_at l m k x y (by simpa using h1) (by simpa using h2) h]
    simp
theorem sames_all : ∀ (l m : List Ex), (∀ (k : Nat) (x y : Ex), l[k]? = some x → m[k]? = some y → sameEx x y = true) → samesEx l m = true
  | [], _, _ => by unfold samesEx; rfl
  | a :: l, [], _ => by unfold samesEx; rfl
  | a :: l, b :: m, h => by
    unfold samesEx
    rw [h 0 a b rfl rfl, sames_all l m (fun k x y h1 h2 => h (k + 1) x y (by simpa using h1) (by simpa using h2))]
    rfl
theorem same_node {kd nu kd' nu' : Int} {op nm op' nm' : ByteArray} {A A' : Option Addr} {c c' : Nat} {ks ks' : List Ex} :
    sameEx (.node kd op nm nu A c ks) (.node kd' op' nm' nu' A' c' ks') = (kd == kd' && (op.toList == op'.toList && (nm.toList == nm'.toList && (nu == nu' && (ks.length == ks'.length && samesEx ks ks'))))) := by
  conv => lhs; unfold sameEx

def Sames (e f : Ex) (ks ks' : List Ex) (w : World) (i : Value) (wr : World) : Prop :=
  (∃ k : Nat, k ≤ ks.length ∧ i = .int .i64 k ∧ ∀ j x y, j < k → ks[j]? = some x → ks'[j]? = some y → sameEx x y = true) ∧ Below w.heap.size w wr ∧ Box wr w.heap.size 48 e.cells.toArray ∧ Box wr (w.heap.size + 1) 48 f.cells.toArray

set_option maxRecDepth 100000 in
set_option maxHeartbeats 4000000 in
theorem refSameEx_any (e : Ex) (hs : ExSmall e) : ∀ (f : Ex) (w : World), ExIn w w.heap.size e → ExIn w w.heap.size f → Calls Tryz.prog 12 #[e.val, f.val] w (Quietly (.bool (sameEx e f)) w) := by
  induction hs with
  | @mk kd op nm nu A c ks ho hn hk all ih =>
  intro f w hin hif
  obtain ⟨kd', op', nm', nu', A', c', ks'⟩ := f
  have hks := hin.kids
  have hks' := hif.kids
  obtain ⟨V, hV⟩ : ∃ V, V = sameEx (.node kd op nm nu A c ks) (.node kd' op' nm' nu' A' c' ks') := ⟨_, rfl⟩
  rw [← hV]
  rw [same_node] at hV
  have HV := Lib.hid hV
  unfold Ex.val
  simp only
  have hbb : ∀ a b, Below w.heap.size w ((w.alloc a).alloc b) := fun a b => below_alloc (boxed w a) (Nat.le_refl _) b
  by_cases hq : (kd == kd' && (op.toList == op'.toList && (nm.toList == nm'.toList && (nu == nu' && ks.length == ks'.length)))) = true
  · simp only [Bool.and_eq_true, beq_iff_eq] at hq
    obtain ⟨rfl, g1, g2, rfl, hlen⟩ := hq
    have HV2 : Hid (V = samesEx ks ks') := by
      unfold Hid
      rw [hV, g1, g2, hlen]
      simp
    have HLEN := Lib.hid hlen
    have g1' : (op.toList == op'.toList) = true := beq_iff_eq.2 g1
    have g2' : (nm.toList == nm'.toList) = true := beq_iff_eq.2 g2
    clear hV HV g1 g2
    have hkk : ((kd != kd) = false) := by simp
    have hnn : ((nu != nu) = false) := by simp
    have hll : (((ks.length : Int) != (ks'.length : Int)) = false) := by simp [hlen]
    clear hlen
    go_enter Tryz.func12, Tryz.ntmps12
    go_wp2
    go_loopw [5] (fun i wr => Sames (.node kd op nm nu A c ks) (.node kd op' nm' nu A' c' ks') ks ks' w i wr) (fun i _ => ks.length - (intOf i).toNat)
    case atStart => exact ⟨⟨0, Nat.zero_le _, rfl, fun j x y h => absurd h (by omega)⟩, hbb _ _, (Box.new _ _ _).alloc _, box_two _ _ _ _⟩
    case round =>
      obtain ⟨⟨k, hkl, rfl, hall⟩, hnx, hbx, hby⟩ := hrel
      have HB := Lib.hid hbx
      have HC := Lib.hid hby
      have HALL := Lib.hid hall
      clear hall
      obtain ⟨p0, p1, p2, p3, p4, p5⟩ := box_ex (show Box wr w.heap.size 48 #[.int .i64 kd, .string op, .string nm, .int .u64 nu, .slice A ks.length c] from hbx)
      obtain ⟨q0, q1, q2, q3, q4, q5⟩ := box_ex (show Box wr (w.heap.size + 1) 48 #[.int .i64 kd, .string op', .string nm', .int .u64 nu, .slice A' ks'.length c'] from hby)
      clear hbx hby
      by_cases hlt : k < ks.length
      · have hlt' : k < ks'.length := by have := HLEN.out; omega
        obtain ⟨b, o, kd0, op0, nm0, nu0, A0, c0, ks0, rfl, hb, hx, hin0, hm, e0, e1, e2, e3, e4⟩ := (hks.mono hnx (Q := ExIn w w.heap.size) fun _ _ h => h).ex hlt
        obtain ⟨b', o', kd1, op1, nm1, nu1, A1, c1, ks1, rfl, hb', hx', hin1, hm', f0, f1, f2, f3, f4⟩ := (hks'.mono hnx (Q := ExIn w w.heap.size) fun _ _ h => h).ex hlt'
        have HI := Lib.hid (fun W (hW : Below w.heap.size w W) => ih _ hm (.node kd1 op1 nm1 nu1 A1 c1 ks1) W (hin0.next hW) (hin1.next hW))
        unfold Ex.val at HI
        simp only at HI
        cases hs : sameEx (.node kd0 op0 nm0 nu0 A0 c0 ks0) (.node kd1 op1 nm1 nu1 A1 c1 ks1) with
        | false =>
          rw [hs] at HI
          have HF : Hid (V = false) := by rw [HV2.out]; exact sames_at ks ks' k _ _ hx hx' hs
          clear hs hx hx' hin0 hin1 hm hm' hks hks' hin hif ih all
          go_wp2_with fail
          refine wp_region_still_tail 10 (by kernel_rfl) (by kernel_rfl) ?_
          simp only [List.take_succ_cons, List.take_zero, List.drop_succ_cons, List.drop_zero]
          change wpStill _ _ (World.drew _) _ _ _
          repeat still_step
          refine wpStill_nil ?_
          change wpList _ _ _ _ _ (World.drew _)
          go_wp2_with fail
          refine (HI.out _ hnx.drew).mono ?_
          rintro r w2 ⟨rfl, hb2⟩
          go_wp2
          go_ret
          exact ⟨by rw [HF.out]; rfl, below_step hnx.drew (Nat.le_refl _) hb2⟩
        | true =>
          rw [hs] at HI
          have HALL2 : Hid (∀ j x y, j < k + 1 → ks[j]? = some x → ks'[j]? = some y → sameEx x y = true) := fun j x y hj h1 h2 => by
            by_cases e : j = k
            · rw [e] at h1 h2
              rw [hx] at h1
              rw [hx'] at h2
              rw [← Option.some.inj h1, ← Option.some.inj h2]
              exact hs
            · exact HALL.out j x y (by omega) h1 h2
          clear hs hx hx' hin0 hin1 hm hm' hks hks' hin hif ih all
          go_wp2_with fail
          refine wp_region_still_tail 10 (by kernel_rfl) (by kernel_rfl) ?_
          simp only [List.take_succ_cons, List.take_zero, List.drop_succ_cons, List.drop_zero]
          change wpStill _ _ (World.drew _) _ _ _
          repeat still_step
          refine wpStill_nil ?_
          change wpList _ _ _ _ _ (World.drew _)
          go_wp2_with fail
          refine (HI.out _ hnx.drew).mono ?_
          rintro r w2 ⟨rfl, hb2⟩
          go_wp2
          go_roundw
          case rel => exact ⟨⟨k + 1, by omega, by go_num, HALL2.out⟩, below_step hnx.drew (Nat.le_refl _) hb2, HB.out.drew.step hb2, HC.out.drew.step hb2⟩
          case measure => simp [intOf]; omega
      · obtain rfl : k = ks.length := by omega
        have HF : Hid (V = true) := by
          rw [HV2.out]
          exact sames_all ks ks' fun j x y h1 h2 => HALL.out j x y (List.getElem?_eq_some_iff.1 h1).1 h1 h2
        clear hks hks' hin hif ih all
        go_wp2
        go_ret
        exact ⟨by rw [HF.out]; rfl, hnx⟩
  · have HF : Hid (V = false) := by
      unfold Hid
      rw [hV]
      rw [Bool.not_eq_true] at hq
      cases h1 : kd == kd' <;> cases h2 : op.toList == op'.toList <;> cases h3 : nm.toList == nm'.toList <;> cases h4 : nu == nu' <;> cases h5 : ks.length == ks'.length <;> simp [h1, h2, h3, h4, h5] at hq ⊢
    have hq' : (kd == kd') = false ∨ ((kd == kd') = true ∧ (op.toList == op'.toList) = false) ∨ ((kd == kd') = true ∧ (op.toList == op'.toList) = true ∧ (nm.toList == nm'.toList) = false) ∨
        ((kd == kd') = true ∧ (op.toList == op'.toList) = true ∧ (nm.toList == nm'.toList) = true ∧ (nu == nu') = false) ∨
        ((kd == kd') = true ∧ (op.toList == op'.toList) = true ∧ (nm.toList == nm'.toList) = true ∧ (nu == nu') = true ∧ (ks.length == ks'.length) = false) := by
      cases h1 : kd == kd' <;> cases h2 : op.toList == op'.toList <;> cases h3 : nm.toList == nm'.toList <;> cases h4 : nu == nu' <;> cases h5 : ks.length == ks'.length <;> simp_all
    clear hV HV hq ih all hks hks' hin hif
    rcases hq' with h1 | ⟨h1, h2⟩ | ⟨h1, h2, h3⟩ | ⟨h1, h2, h3, h4⟩ | ⟨h1, h2, h3, h4, h5⟩
    · have g1 : (kd != kd') = true := by rw [bne, h1]; rfl
      clear h1
      go_enter Tryz.func12, Tryz.ntmps12
      go_wp2
      go_ret
      exact ⟨by rw [HF.out]; rfl, hbb _ _⟩
    · have g1 : (kd != kd') = false := by rw [bne, h1]; rfl
      clear h1
      go_enter Tryz.func12, Tryz.ntmps12
      go_wp2
      go_ret
      exact ⟨by rw [HF.out]; rfl, hbb _ _⟩
    · have g1 : (kd != kd') = false := by rw [bne, h1]; rfl
      clear h1
      go_enter Tryz.func12, Tryz.ntmps12
      go_wp2
      go_ret
      exact ⟨by rw [HF.out]; rfl, hbb _ _⟩
    · have g1 : (kd != kd') = false := by rw [bne, h1]; rfl
      have g4 : (nu != nu') = true := by rw [bne, h4]; rfl
      clear h1 h4
      go_enter Tryz.func12, Tryz.ntmps12
      go_wp2
      go_ret
      exact ⟨by rw [HF.out]; rfl, hbb _ _⟩
    · have g1 : (kd != kd') = false := by rw [bne, h1]; rfl
      have g4 : (nu != nu') = false := by rw [bne, h4]; rfl
      have g5 : ((ks.length : Int) != (ks'.length : Int)) = true := by
        have := beq_eq_false_iff_ne.1 h5
        simp
        omega
      clear h1 h4 h5
      go_enter Tryz.func12, Tryz.ntmps12
      go_wp2
      go_ret
      exact ⟨by rw [HF.out]; rfl, hbb _ _⟩

end Go.Proofs.YtfklajkmikanbaaGreatDoor

/- What the document's own Bool gives. -/
namespace Go.Proofs.YtfklajkmikanbaaGreatDoor
open Go.RowKit

theorem small_kids {kd nu : Int} {op nm : ByteArray} {A : Option Addr} {c : Nat} {ks : List Ex} (h : ExSmall (.node kd op nm nu A c ks)) : nm.size ≤ 1048576 ∧ ∀ k ∈ ks, ExSmall k := by cases h with | mk _ h2 _ h4 => exact ⟨h2, h4⟩

end Go.Proofs.YtfklajkmikanbaaGreatDoor

/- What the document's own Depth gives. -/
namespace Go.Proofs.YtfklajkmikanbaaGreatDoor
open Go.RowKit

def Deeper (e : Ex) (ks : List Ex) (w : World) (n i : Value) (wr : World) : Prop :=
  (∃ k : Nat, k ≤ ks.length ∧ i = .int .i64 k ∧ n = .int .i64 (depthsOf 0 (ks.take k) : Nat)) ∧ Below w.heap.size w wr ∧ Box wr w.heap.size 48 e.cells.toArray

end Go.Proofs.YtfklajkmikanbaaGreatDoor

/- What the document's own Value gives. -/
namespace Go.Proofs.YtfklajkmikanbaaGreatDoor
open Go.RowKit

end Go.Proofs.YtfklajkmikanbaaGreatDoor

/- What the document's own names and part give. -/
namespace Go.Proofs.YtfklajkmikanbaaGreatDoor
open Go.RowKit

theorem eq_act (k d k' d' : Int) (w : World) : (Op.equalIn 10000 27 (.agg #[.int .i64 k, .int .i64 d]) (.agg #[.int .i64 k', .int .i64 d'])).run Tryz.prog w = .ok (k == k' && d == d') w := by
  have u3 := Tryz.underlying3
  have a3 := Tryz.isAgg3
  have z3 := Tryz.sizeOf3
  have hS : Tryz.prog.underlying 27 = some (.struct (Tryz.prog.fieldsOf 27)) := by kernel_rfl
  rw [show (10000 : Nat) = 9999 + 1 from rfl, run_equalIn_agg w 9999 27 _ _ hS Tryz.stoodInHeld27]
  simp only [Program.fieldsOf, Tryz.underlying27]
  go_simp
  by_cases h1 : k = k' <;> by_cases h2 : d = d' <;> simp [h1, h2]

/-- The ways of a rule. -/
theorem rule_ways (r : Rul) : (nameOk r.call = false ∧ ruleOk r = false) ∨ (nameOk r.call = true ∧ r.params.all nameOk = false ∧ ruleOk r = false) ∨
    (nameOk r.call = true ∧ r.params.all nameOk = true ∧ 1 < r.cond.length ∧ ruleOk r = false) ∨ (nameOk r.call = true ∧ r.params.all nameOk = true ∧ r.cond = [] ∧ ruleOk r = true) ∨
    (∃ e, nameOk r.call = true ∧ r.params.all nameOk = true ∧ r.cond = [e] ∧ boolOk e = false ∧ ruleOk r = false) ∨
    (∃ e, nameOk r.call = true ∧ r.params.all nameOk = true ∧ r.cond = [e] ∧ boolOk e = true ∧ ruleOk r = decide (depthOf e ≤ 30)) := by
  obtain ⟨call, pA, pc, params, cA, cc, cond⟩ := r
  unfold ruleOk
  simp only
  cases h1 : nameOk call with
  | false => exact .inl ⟨rfl, rfl⟩
  | true =>
    cases h2 : params.all nameOk with
    | false => exact .inr (.inl ⟨rfl, rfl, rfl⟩)
    | true =>
      match cond with
      | [] => exact .inr (.inr (.inr (.inl ⟨rfl, rfl, rfl, rfl⟩)))
      | [e] =>
        cases h3 : boolOk e with
        | false => exact .inr (.inr (.inr (.inr (.inl ⟨e, rfl, rfl, rfl, h3, by simp [h3]⟩))))
        | true => exact .inr (.inr (.inr (.inr (.inr ⟨e, rfl, rfl, rfl, h3, by simp [h3]⟩))))
      | _ :: _ :: _ => exact .inr (.inr (.inl ⟨rfl, rfl, by simp, rfl⟩))

theorem all_take_no {α : Type} {p : α → Bool} {l : List α} {k : Nat} (h : (l.take k).all p = false) : l.all p = false := by
  cases ha : l.all p with
  | false => rfl
  | true =>
    have : (l.take k).all p = true := by
      rw [List.all_eq_true] at ha ⊢
      exact fun x hx => ha x (List.mem_of_mem_take hx)
    rw [this] at h
    cases h
theorem all_take_snoc {α : Type} {p : α → Bool} {l : List α} {k : Nat} {x : α} (h : l[k]? = some x) : (l.take (k + 1)).all p = ((l.take k).all p && p x) := by
  rw [take_one h, List.all_append]
  simp

def Parting (p : Par) (v : Bool) (w : World) (ok i : Value) (wr : World) : Prop :=
  (∃ k : Nat, k ≤ p.rules.length ∧ i = .int .i64 k ∧ ok = .bool (v && (p.rules.take k).all ruleOk)) ∧ Below w.heap.size w wr ∧ Box wr w.heap.size 73 p.cells.toArray

end Go.Proofs.YtfklajkmikanbaaGreatDoor

/- Plain facts on two lists that are alike; what the document's own same gives. -/
namespace Go.Proofs.YtfklajkmikanbaaGreatDoor
open Go.RowKit

section
variable {α : Type} {f : α → α → Bool}
theorem alikes_len : ∀ (l m : List α), l.length ≠ m.length → alikes f l m = false
  | [], [], h => absurd rfl h
  | [], _ :: _, _ => rfl
  | _ :: _, [], _ => rfl
  | a :: l, b :: m, h => by
    unfold alikes
    rw [alikes_len l m (fun e => h (by simp [e]))]
    simp
theorem alikes_at : ∀ (l m : List α) (k : Nat) (x y : α), l[k]? = some x → m[k]? = some y → f x y = false → alikes f l m = false
  | [], _, k, x, y, h, _, _ => by simp at h
  | a :: l, [], k, x, y, _, h, _ => by simp at h
  | a :: l, b :: m, 0, x, y, h1, h2, h => by
    have e1 : a = x := by simpa using h1
    have e2 : b = y := by simpa using h2
    unfold alikes
    rw [e1, e2, h]
    rfl
  | a :: l, b :: m, k + 1, x, y, h1, h2, h => by
    unfold alikes
    rw [alikes_at l m k x y (by simpa using h1) (by simpa using h2) h]
    simp
theorem alikes_all : ∀ (l m : List α), l.length = m.length → (∀ (k : Nat) (x y : α), k < l.length → l[k]? = some x → m[k]? = some y → f x y = true) → alikes f l m = true
  | [], [], _, _ => rfl
  | [], _ :: _, h, _ => by cases h
  | _ :: _, [], h, _ => by cases h
  | a :: l, b :: m, hl, h => by
    unfold alikes
    rw [h 0 a b (by simp) rfl rfl, alikes_all l m (by simpa using hl) (fun k x y hk h1 h2 => h (k + 1) x y (by simp; omega) (by simpa using h1) (by simpa using h2))]
    rfl
end
theorem sames_alikes : ∀ (l m : List Ex), l.length = m.length → samesEx l m = alikes sameEx l m
  | [], [], _ => by unfold samesEx; rfl
  | [], _ :: _, h => by cases h
  | _ :: _, [], h => by cases h
  | a :: l, b :: m, h => by
    unfold samesEx alikes
    rw [sames_alikes l m (by simpa using h)]

def Alikes {α : Type} (f : α → α → Bool) (l m : List α) (w : World) (i : Value) (wr : World) : Prop :=
  (∃ k : Nat, k ≤ l.length ∧ i = .int .i64 k ∧ ∀ (j : Nat) (x y : α), j < k → l[j]? = some x → m[j]? = some y → f x y = true) ∧ Below w.heap.size w wr

set_option maxRecDepth 100000 in
set_option maxHeartbeats 1000000 in
theorem refSameL_any (A B : Option Addr) (c d : Nat) (l m : List ByteArray) (w : World) (hl : SlIn w w.heap.size 1 strCells StrIn A c l) (hm : SlIn w w.heap.size 1 strCells StrIn B d m) (hn : l.length ≤ 1099511627776) :
    Calls Tryz.prog 11 #[.slice A l.length c, .slice B m.length d] w (Quietly (.bool (alikes sameStr l m)) w) := by
  by_cases hlen : l.length = m.length
  · have HA : Hid (∀ (k : Nat) (x y : ByteArray), l[k]? = some x → m[k]? = some y → (x.toList == y.toList) = false → alikes sameStr l m = false) := fun k x y h1 h2 h3 => alikes_at l m k x y h1 h2 h3
    have HY : Hid ((∀ (k : Nat) (x y : ByteArray), k < l.length → l[k]? = some x → m[k]? = some y → sameStr x y = true) → alikes sameStr l m = true) := fun h => alikes_all l m hlen h
    obtain ⟨V, hV⟩ : ∃ V, V = alikes sameStr l m := ⟨_, rfl⟩
    rw [← hV] at HA HY ⊢
    clear hV
    rw [← hlen]
    have HLEN := Lib.hid hlen
    clear hlen
    have hnn : (((l.length : Int) != (l.length : Int)) = false) := by simp
    go_enter Tryz.func11, Tryz.ntmps11
    go_wp2
    go_loopw [5] (fun i wr => Alikes sameStr l m w i wr) (fun i _ => l.length - (intOf i).toNat)
    case atStart => exact ⟨⟨0, Nat.zero_le _, rfl, fun j x y h => absurd h (by omega)⟩, Below.refl _ _⟩
    case round =>
      obtain ⟨⟨k, hk, rfl, hall⟩, hnx⟩ := hrel
      have HALL := Lib.hid hall
      clear hall
      by_cases hlt : k < l.length
      · obtain ⟨b, o, x, rfl, hb, hx, _, e0⟩ := (hl.mono hnx (Q := StrIn) fun _ _ h => h).str hlt
        obtain ⟨b', o', y, rfl, hb', hy, _, f0⟩ := (hm.mono hnx (Q := StrIn) fun _ _ h => h).str (k := k) (by have := HLEN.out; omega)
        have p0 : (0 : Int) ≤ (k : Int) := by omega
        have p1 : (k : Int) < (l.length : Int) := by omega
        cases hq : (x.toList == y.toList) with
        | false =>
          have HF := Lib.hid (HA.out k x y hx hy hq)
          clear hx hy
          go_wp2
          go_quiet (fail)
          go_wp2
          go_ret
          exact ⟨by rw [HF.out]; rfl, below_drewN hnx _⟩
        | true =>
          have HALL2 : Hid (∀ (j : Nat) (x y : ByteArray), j < k + 1 → l[j]? = some x → m[j]? = some y → sameStr x y = true) := fun j x' y' hj h1 h2 => by
            by_cases e : j = k
            · rw [e, hx] at h1
              rw [e, hy] at h2
              rw [← Option.some.inj h1, ← Option.some.inj h2]
              exact hq
            · exact HALL.out j x' y' (by omega) h1 h2
          clear hx hy
          go_wp2
          go_quiet (fail)
          go_wp2
          go_roundw
          case rel => exact ⟨⟨k + 1, by omega, by go_num, HALL2.out⟩, below_drewN hnx _⟩
          case measure => simp [intOf]; omega
      · obtain rfl : k = l.length := by omega
        have HF := Lib.hid (HY.out HALL.out)
        go_wp2
        go_ret
        exact ⟨by rw [HF.out]; rfl, hnx⟩
  · rw [alikes_len l m hlen]
    have hnn : (((l.length : Int) != (m.length : Int)) = true) := by simp; omega
    clear hlen
    go_enter Tryz.func11, Tryz.ntmps11
    go_wp2
    go_ret
    exact ⟨rfl, Below.refl _ _⟩

end Go.Proofs.YtfklajkmikanbaaGreatDoor
