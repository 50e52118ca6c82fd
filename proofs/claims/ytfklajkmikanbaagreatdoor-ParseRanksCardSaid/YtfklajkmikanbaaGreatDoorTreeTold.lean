/- What an expression is, by its own fields and the number of its kids alone; how the plain functions hang on that; depths one by one. No program. -/
import Derived.Test.YtfklajkmikanbaaGreatDoorPart3
namespace Go.Proofs.YtfklajkmikanbaaGreatDoor
open Go.RowKit

/-- 1: joined; 2: a comparison; 3: masked; 4: bits; 5: a name; 6: a number; 0: nothing. -/
def toldN : Ex → Nat
  | .node kd op nm nu _ _ ks =>
    if kd = 1 ∨ kd = 2 then if (emptyB op && (emptyB nm && (nu == 0 && ks.length == 2))) = true then 1 else 0
    else if kd = 3 then if (emptyB op && (emptyB nm && (nu == 0 && ks.length == 1))) = true then 1 else 0
    else if kd = 4 then if (emptyB nm && (nu == 0 && (ks.length == 2 && opOf op.data.toList != 0))) = true then 2 else 0
    else if kd = 6 then if (emptyB op && (nu == 0 && (ks.length == 1 && nameOk nm))) = true then 3 else 0
    else if kd = 8 then if (emptyB op && (emptyB nm && (nu == 0 && ks.length == 2))) = true then 4 else 0
    else if kd = 5 then if (emptyB op && (nu == 0 && (ks.length == 0 && nameOk nm))) = true then 5 else 0
    else if kd = 7 then if (emptyB op && (emptyB nm && ks.length == 0)) = true then 6 else 0
    else 0

theorem len_zero {α : Type} (l : List α) : (l.length == 0) = l.isEmpty := by cases l <;> simp

section
variable {kd nu : Int} {op nm : ByteArray} {A : Option Addr} {c : Nat} {ks : List Ex}
theorem told_kind (h : toldN (.node kd op nm nu A c ks) ≠ 0) : (toldN (.node kd op nm nu A c ks) = 1 ∧ (kd = 1 ∨ kd = 2 ∨ kd = 3)) ∨ (toldN (.node kd op nm nu A c ks) = 2 ∧ kd = 4) ∨ (toldN (.node kd op nm nu A c ks) = 3 ∧ kd = 6) ∨
    (toldN (.node kd op nm nu A c ks) = 4 ∧ kd = 8) ∨ (toldN (.node kd op nm nu A c ks) = 5 ∧ kd = 5) ∨ (toldN (.node kd op nm nu A c ks) = 6 ∧ kd = 7) := by
  obtain ⟨n, hn⟩ : ∃ n, n = toldN (.node kd op nm nu A c ks) := ⟨_, rfl⟩
  rw [← hn] at h ⊢
  unfold toldN at hn
  simp only at hn
  repeat' split at hn
  all_goals omega

theorem told_prim (e : Ex) : primOk e = (toldN e == 5 || toldN e == 6) := by
  obtain ⟨kd, op, nm, nu, A, c, ks⟩ := e
  unfold primOk toldN
  simp only
  by_cases h7 : kd = 7
  · subst h7
    simp only [if_true, Int.reduceEq, or_self, if_false, len_zero]
    cases emptyB op <;> cases emptyB nm <;> cases ks.isEmpty <;> simp
  · by_cases h5 : kd = 5
    · subst h5
      simp only [if_true, Int.reduceEq, or_self, if_false, len_zero]
      cases emptyB op <;> cases nameOk nm <;> cases ks.isEmpty <;> cases (nu == 0) <;> simp
    · rw [if_neg h7, if_neg h5]
      have hk := told_kind (kd := kd) (op := op) (nm := nm) (nu := nu) (A := A) (c := c) (ks := ks)
      unfold toldN at hk
      simp only at hk
      generalize (if kd = 1 ∨ kd = 2 then _ else _ : Nat) = n at hk ⊢
      have h1 : n ≠ 5 := by omega
      have h2 : n ≠ 6 := by omega
      rw [beq_eq_false_iff_ne.2 h1, beq_eq_false_iff_ne.2 h2]
      rfl

theorem told_bits (h : toldN (.node kd op nm nu A c ks) = 4) : ∃ a b, ks = [a, b] ∧ numOk (.node kd op nm nu A c ks) = (numOk a && primOk b) := by
  have hh := h
  unfold toldN at h
  simp only at h
  by_cases h8 : kd = 8
  · subst h8
    simp only [if_true, Int.reduceEq, or_self, if_false] at h
    by_cases hq : (emptyB op && (emptyB nm && (nu == 0 && ks.length == 2))) = true
    · simp only [Bool.and_eq_true, beq_iff_eq] at hq
      obtain ⟨q1, q2, rfl, q4⟩ := hq
      match ks, q4 with
      | [a, b], _ => exact ⟨a, b, rfl, num_two q1 q2⟩
    · rw [if_neg hq] at h
      cases h
  · exfalso
    have hk := told_kind (kd := kd) (op := op) (nm := nm) (nu := nu) (A := A) (c := c) (ks := ks)
    rw [hh] at hk
    omega

theorem told_nobits (h : toldN (.node kd op nm nu A c ks) ≠ 4) : numOk (.node kd op nm nu A c ks) = primOk (.node kd op nm nu A c ks) := by
  by_cases h8 : kd = 8
  · subst h8
    have hp : primOk (.node 8 op nm nu A c ks) = false := by
      unfold primOk
      simp
    rw [hp]
    refine num_no ?_
    unfold toldN at h
    simp only [if_true, Int.reduceEq, or_self, if_false] at h
    cases h1 : emptyB op
    · exact .inl rfl
    cases h2 : emptyB nm
    · exact .inr (.inl rfl)
    by_cases h3 : nu = 0
    · by_cases h4 : ks.length = 2
      · simp [h1, h2, h3, h4] at h
      · exact .inr (.inr (.inr h4))
    · exact .inr (.inr (.inl h3))
  · exact num_prim h8

theorem told_joined (h : toldN (.node kd op nm nu A c ks) = 1) : boolOk (.node kd op nm nu A c ks) = ks.all boolOk ∧ ks.length ≤ 2 := by
  have hh := h
  unfold toldN at h
  simp only at h
  by_cases h1 : kd = 1 ∨ kd = 2
  · rw [if_pos h1] at h
    by_cases hq : (emptyB op && (emptyB nm && (nu == 0 && ks.length == 2))) = true
    · simp only [Bool.and_eq_true, beq_iff_eq] at hq
      obtain ⟨q1, q2, rfl, q4⟩ := hq
      match ks, q4 with
      | [a, b], _ => exact ⟨by rw [bool_or q2 h1 q1]; simp, by simp⟩
    · rw [if_neg hq] at h
      cases h
  · rw [if_neg h1] at h
    by_cases h3 : kd = 3
    · subst h3
      simp only [if_true] at h
      by_cases hq : (emptyB op && (emptyB nm && (nu == 0 && ks.length == 1))) = true
      · simp only [Bool.and_eq_true, beq_iff_eq] at hq
        obtain ⟨q1, q2, rfl, q4⟩ := hq
        match ks, q4 with
        | [a], _ => exact ⟨by rw [bool_not q2 q1]; simp, by simp⟩
      · rw [if_neg hq] at h
        cases h
    · exfalso
      have hk := told_kind (kd := kd) (op := op) (nm := nm) (nu := nu) (A := A) (c := c) (ks := ks)
      rw [hh] at hk
      omega

theorem told_cmp (h : toldN (.node kd op nm nu A c ks) = 2) : ∃ a b, ks = [a, b] ∧ boolOk (.node kd op nm nu A c ks) = (maskOk a && numOk b) := by
  have hh := h
  unfold toldN at h
  simp only at h
  by_cases h4 : kd = 4
  · subst h4
    simp only [if_true, Int.reduceEq, or_self, if_false] at h
    by_cases hq : (emptyB nm && (nu == 0 && (ks.length == 2 && opOf op.data.toList != 0))) = true
    · simp only [Bool.and_eq_true, beq_iff_eq, bne_iff_ne] at hq
      obtain ⟨q1, rfl, q3, q4⟩ := hq
      match ks, q3 with
      | [a, b], _ => exact ⟨a, b, rfl, by rw [bool_cmp q1 q4, Bool.and_comm]⟩
    · rw [if_neg hq] at h
      cases h
  · exfalso
    have hk := told_kind (kd := kd) (op := op) (nm := nm) (nu := nu) (A := A) (c := c) (ks := ks)
    rw [hh] at hk
    omega

theorem told_nobool (h1 : toldN (.node kd op nm nu A c ks) ≠ 1) (h2 : toldN (.node kd op nm nu A c ks) ≠ 2) : boolOk (.node kd op nm nu A c ks) = false := by
  by_cases hz : emptyB nm = false ∨ nu ≠ 0
  · exact bool_none hz
  have hn : emptyB nm = true := by cases h : emptyB nm <;> simp_all
  have hu : nu = 0 := by
    by_cases h : nu = 0
    · exact h
    · exact absurd (.inr h) hz
  subst hu
  unfold toldN at h1 h2
  simp only [hn] at h1 h2
  by_cases k1 : kd = 1 ∨ kd = 2
  · refine bool_or_no hn k1 ?_
    rw [if_pos k1] at h1
    cases q : emptyB op
    · exact .inl rfl
    · by_cases h4 : ks.length = 2
      · simp [q, h4] at h1
      · exact .inr h4
  by_cases k3 : kd = 3
  · subst k3
    refine bool_not_no hn ?_
    rw [if_neg k1, if_pos rfl] at h1
    cases q : emptyB op
    · exact .inl rfl
    · by_cases h4 : ks.length = 1
      · simp [q, h4] at h1
      · exact .inr h4
  by_cases k4 : kd = 4
  · subst k4
    refine bool_cmp_no hn ?_
    rw [if_neg k1, if_neg k3, if_pos rfl] at h2
    by_cases h4 : ks.length = 2
    · by_cases h5 : opOf op.data.toList = 0
      · exact .inr h5
      · simp [h4, h5] at h2
    · exact .inl h4
  · exact bool_kind hn ⟨fun e => k1 (.inl e), fun e => k1 (.inr e), k3, k4⟩

theorem told_mask (h : toldN (.node kd op nm nu A c ks) = 3) : ∃ a, ks = [a] ∧ maskOk (.node kd op nm nu A c ks) = primOk a := by
  have hh := h
  unfold toldN at h
  simp only at h
  by_cases h6 : kd = 6
  · subst h6
    simp only [if_true, Int.reduceEq, or_self, if_false] at h
    by_cases hq : (emptyB op && (nu == 0 && (ks.length == 1 && nameOk nm))) = true
    · simp only [Bool.and_eq_true, beq_iff_eq] at hq
      obtain ⟨q1, rfl, q3, q4⟩ := hq
      match ks, q3 with
      | [a], _ => exact ⟨a, rfl, mask_one q1 q4⟩
    · rw [if_neg hq] at h
      cases h
  · exfalso
    have hk := told_kind (kd := kd) (op := op) (nm := nm) (nu := nu) (A := A) (c := c) (ks := ks)
    rw [hh] at hk
    omega

theorem told_nomask (h : toldN (.node kd op nm nu A c ks) ≠ 3) : maskOk (.node kd op nm nu A c ks) = (toldN (.node kd op nm nu A c ks) == 5) := by
  by_cases h5 : kd = 5
  · subst h5
    rw [mask_name, told_prim]
    have : toldN (.node 5 op nm nu A c ks) ≠ 6 := by
      unfold toldN
      simp only [if_true, Int.reduceEq, or_self, if_false]
      split <;> simp
    rw [beq_eq_false_iff_ne.2 this, Bool.or_false]
  · have h5' : toldN (.node kd op nm nu A c ks) ≠ 5 := fun e => by
      have hk := told_kind (kd := kd) (op := op) (nm := nm) (nu := nu) (A := A) (c := c) (ks := ks)
      rw [e] at hk
      omega
    rw [beq_eq_false_iff_ne.2 h5']
    refine mask_no h5 ?_
    by_cases h6 : kd = 6
    · subst h6
      unfold toldN at h
      simp only [if_true, Int.reduceEq, or_self, if_false] at h
      cases q1 : emptyB op
      · exact .inr (.inl rfl)
      cases q2 : nameOk nm
      · exact .inr (.inr (.inl rfl))
      by_cases q3 : nu = 0
      · by_cases q4 : ks.length = 1
        · simp [q1, q2, q3, q4] at h
        · exact .inr (.inr (.inr (.inr q4)))
      · exact .inr (.inr (.inr (.inl q3)))
    · exact .inl h6
end

/-! ### How deep each expression stands, in the order in which they are met -/
mutual
def preD (d : Nat) : Ex → List Nat
  | .node _ _ _ _ _ _ ks => d :: presD (d + 1) ks
def presD (d : Nat) : List Ex → List Nat
  | [] => []
  | k :: r => preD d k ++ presD d r
end
theorem pres_nil (d : Nat) : presD d [] = [] := by unfold presD; rfl
theorem pres_cons (d : Nat) (kd nu : Int) (op nm : ByteArray) (A : Option Addr) (c : Nat) (ks r : List Ex) : presD d (.node kd op nm nu A c ks :: r) = d :: (presD (d + 1) ks ++ presD d r) := by
  conv => lhs; unfold presD
  unfold preD
  rfl
theorem depths_max : ∀ (l : List Ex) (n : Nat), depthsOf n l = max n (depthsOf 0 l)
  | [], n => by unfold depthsOf; omega
  | k :: r, n => by
    unfold depthsOf
    rw [depths_max r (if n < depthOf k then depthOf k else n), depths_max r (if 0 < depthOf k then depthOf k else 0)]
    split <;> split <;> omega
mutual
theorem max_pre : ∀ (e : Ex) (d m : Nat), (preD (d + 1) e).foldl max m = max m (d + depthOf e)
  | .node kd op nm nu A c ks, d, m => by
    unfold preD
    rw [List.foldl_cons, max_pres ks (d + 1) (max m (d + 1)) (by omega), depth_node]
    omega
theorem max_pres : ∀ (l : List Ex) (d m : Nat), d ≤ m → (presD (d + 1) l).foldl max m = max m (d + depthsOf 0 l)
  | [], d, m, h => by rw [pres_nil]; unfold depthsOf; simp; omega
  | k :: r, d, m, h => by
    unfold presD
    rw [List.foldl_append, max_pre k d m, max_pres r d _ (by omega)]
    have h2 := depths_max r (depthOf k)
    have h3 : depthsOf 0 (k :: r) = depthsOf (depthOf k) r := by
      conv => lhs; unfold depthsOf
      by_cases h : 0 < depthOf k
      · rw [if_pos h]
      · rw [if_neg h]; congr 1; omega
    rw [h3, h2]
    omega
end
theorem max_all (B : Nat) : ∀ (l : List Nat) (m : Nat), l.foldl max m ≤ B ↔ m ≤ B ∧ ∀ n ∈ l, n ≤ B
  | [], m => by simp
  | a :: l, m => by
    rw [List.foldl_cons, max_all B l (max m a)]
    constructor
    · rintro ⟨h1, h2⟩
      refine ⟨by omega, fun n hn => ?_⟩
      rcases List.mem_cons.1 hn with rfl | hn
      · omega
      · exact h2 n hn
    · rintro ⟨h1, h2⟩
      exact ⟨by have := h2 a (by simp); omega, fun n hn => h2 n (List.mem_cons_of_mem _ hn)⟩
theorem depth_all (e : Ex) (B : Nat) : depthOf e ≤ B ↔ ∀ n ∈ preD 1 e, n ≤ B := by
  have h := max_pre e 0 0
  have h2 := max_all B (preD (0 + 1) e) 0
  rw [h] at h2
  simp only [Nat.zero_add, Nat.zero_le, true_and] at h2
  rw [← h2]
  omega

/-! ### Of a kid -/
theorem depth_kid {e : Ex} {l : List Ex} (h : e ∈ l) : depthOf e ≤ depthsOf 0 l := (depths_ge l 0).2 e h

/-! How many expressions there are. -/
mutual
def weigh : Ex → Nat
  | .node _ _ _ _ _ _ ks => weighs ks + 2
def weighs : List Ex → Nat
  | [] => 0
  | k :: r => weigh k + weighs r
end
theorem weigh_node {kd nu : Int} {op nm : ByteArray} {A : Option Addr} {c : Nat} {ks : List Ex} : weigh (.node kd op nm nu A c ks) = weighs ks + 2 := by conv => lhs; unfold weigh
theorem weighs_cons (k : Ex) (r : List Ex) : weighs (k :: r) = weigh k + weighs r := by conv => lhs; unfold weighs
theorem weighs_nil : weighs [] = 0 := by unfold weighs; rfl

end Go.Proofs.YtfklajkmikanbaaGreatDoor
