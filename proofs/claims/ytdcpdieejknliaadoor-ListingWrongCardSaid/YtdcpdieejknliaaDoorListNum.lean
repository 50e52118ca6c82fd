/- Plain facts: the landed reading of a number, of a code and of a line is the document's. -/
import Derived.Test.YtdcpdieejknliaaDoorListLib
import Derived.Test.YtdcpdieejknliaaDoorListPlain
namespace Go.Proofs.YtdcpdieejknliaaDoor
open Go.RowKit

/-! ### Numbers -/
def valFrom (a : Nat) (l : List UInt8) : Nat := l.foldl (fun n b => 10 * n + (b.toNat - 48)) a
theorem valFrom_zero (l : List UInt8) : valFrom 0 l = valOf l := rfl
theorem valFrom_cons (a : Nat) (x : UInt8) (r : List UInt8) : valFrom a (x :: r) = valFrom (10 * a + (x.toNat - 48)) r := by unfold valFrom; rw [List.foldl_cons]
theorem valFrom_ge (l : List UInt8) : ∀ a : Nat, a ≤ valFrom a l := by
  induction l with
  | nil => intro a; simp [valFrom]
  | cons x r ih =>
    intro a
    rw [valFrom_cons]
    exact Nat.le_trans (by omega) (ih _)
theorem valFrom_pow : ∀ (l : List UInt8) (a : Nat), a * 10 ^ l.length ≤ valFrom a l
  | [], a => by simp [valFrom]
  | x :: r, a => by
    rw [valFrom_cons, List.length_cons, Nat.pow_succ]
    have h1 := valFrom_pow r (10 * a + (x.toNat - 48))
    have h2 : a * (10 ^ r.length * 10) = (10 * a) * 10 ^ r.length := by rw [Nat.mul_comm (10 ^ r.length) 10, ← Nat.mul_assoc, Nat.mul_comm a 10]
    have h3 : (10 * a) * 10 ^ r.length ≤ (10 * a + (x.toNat - 48)) * 10 ^ r.length := Nat.mul_le_mul_right _ (by omega)
    omega

theorem isDig_iff (x : UInt8) : isDig x = true ↔ 48 ≤ x.toNat ∧ x.toNat ≤ 57 := by
  simp only [isDig, Bool.and_eq_true, decide_eq_true_eq]
  omega

theorem parseM_iff (M : Nat) (hM : M < 1844674407370955162) (u : Nat) : ∀ (l : List UInt8) (a : Nat), a ≤ M → (Lib.parseUintM M a l = .ok u ↔ l.all isDig = true ∧ u = valFrom a l ∧ u ≤ M)
  | [], a, ha => by
    simp only [Lib.parseUintM, Lib.NumEnd.ok.injEq, List.all_nil, true_and, valFrom, List.foldl_nil]
    constructor
    · rintro rfl; exact ⟨rfl, ha⟩
    · rintro ⟨h, _⟩; exact h.symm
  | x :: r, a, ha => by
    have hg := valFrom_ge r (10 * a + (x.toNat - 48))
    rw [Lib.parseUintM, List.all_cons, valFrom_cons]
    have e : a * 10 + (x.toNat - 48) = 10 * a + (x.toNat - 48) := by omega
    rw [e]
    by_cases hd : 48 ≤ x.toNat ∧ x.toNat ≤ 57
    · have hd' : isDig x = true := (isDig_iff x).2 hd
      rw [if_pos hd, if_neg (by omega), hd', Bool.true_and]
      by_cases hm : M < 10 * a + (x.toNat - 48)
      · rw [if_pos hm]
        constructor
        · intro h; cases h
        · rintro ⟨_, h, h2⟩; omega
      · rw [if_neg hm]
        exact parseM_iff M hM u r _ (by omega)
    · have hd' : isDig x = false := by
        cases h : isDig x
        · rfl
        · exact absurd ((isDig_iff x).1 h) hd
      rw [if_neg hd, hd']
      simp

/-- What the landed code reads of a text that begins with no 0 ahead of a digit is the document's. -/
theorem parse_iff (B M : Nat) (hB : (B = 8 ∧ M = 255) ∨ (B = 16 ∧ M = 65535) ∨ (B = 32 ∧ M = 4294967295)) (l : List UInt8) (hz : l.length ≤ 1 ∨ l.head? ≠ some 48) (u : Nat) :
    Lib.parseUintB B l = .ok u ↔ numOf l M = ((u : Int), true) := by
  have hM : M ≤ 4294967295 ∧ 2 ^ B - 1 = M := by
    rcases hB with ⟨rfl, rfl⟩ | ⟨rfl, rfl⟩ | ⟨rfl, rfl⟩ <;> decide
  unfold Lib.parseUintB
  rw [hM.2]
  by_cases h0 : l = []
  · subst h0
    rw [if_pos rfl]
    constructor
    · intro h; cases h
    · intro h; simp [numOf, numShape] at h
  · rw [if_neg h0, parseM_iff M (by omega) u l 0 (Nat.zero_le _), valFrom_zero]
    have hne : l.isEmpty = false := by
      cases l with
      | nil => exact absurd rfl h0
      | cons a r => rfl
    by_cases ha : l.all isDig = true
    · by_cases h12 : l.length ≤ 12
      · have hs : numShape l = true := by
          simp only [numShape, hne, Bool.not_false, Bool.true_and, Bool.and_eq_true, decide_eq_true_eq, Bool.or_eq_true, Bool.not_eq_true']
          refine ⟨h12, ?_⟩
          rcases hz with h | h
          · exact .inl h
          · exact .inr (by simpa using h)
        unfold numOf
        rw [hs, ha]
        simp only [Bool.and_self, if_true, Prod.mk.injEq, decide_eq_true_eq, true_and]
        constructor
        · rintro ⟨h1, h2⟩; omega
        · rintro ⟨h1, h2⟩; omega
      · have hs : numShape l = false := by simp [numShape, h12]
        rw [num_not _ _ hs]
        constructor
        · rintro ⟨_, h1, h2⟩
          exfalso
          cases l with
          | nil => exact h0 rfl
          | cons x r =>
            have hx : 48 ≤ x.toNat ∧ x.toNat ≤ 57 := (isDig_iff x).1 (by simp at ha; exact ha.1)
            have hx1 : x.toNat ≠ 48 := by
              intro e
              rcases hz with h | h
              · simp at h; simp [h] at h12
              · simp at h
                exact h (UInt8.toNat_inj.1 e)
            have hp := valFrom_pow r (x.toNat - 48)
            have hv : valOf (x :: r) = valFrom (x.toNat - 48) r := by
              rw [← valFrom_zero, valFrom_cons]
              rw [show 10 * 0 + (x.toNat - 48) = x.toNat - 48 from by omega]
            have h10 : 10 ^ 12 ≤ 10 ^ r.length := Nat.pow_le_pow_right (by omega) (by simp at h12; omega)
            have h11 : 1 * 10 ^ r.length ≤ (x.toNat - 48) * 10 ^ r.length := Nat.mul_le_mul_right _ (by omega)
            rw [hv] at h1
            have : (10 : Nat) ^ 12 = 1000000000000 := by decide
            omega
        · intro h; cases h
    · have ha' : l.all isDig = false := by simpa using ha
      have e : numOf l M = (0, false) := by
        unfold numOf
        rw [ha', Bool.and_false]
        rfl
      rw [e, ha']
      constructor
      · rintro ⟨h, _⟩; cases h
      · intro h; cases h

/-! ### Parts by cuts -/
theorem split_cut (c : UInt8) : ∀ (l cur : List UInt8), splitAcc c cur l = if (cutOf c l).2.2 then (cur ++ (cutOf c l).1) :: splitAcc c [] (cutOf c l).2.1 else [cur ++ l]
  | [], cur => by simp [splitAcc, cutOf]
  | x :: r, cur => by
    rw [splitAcc, cutOf]
    by_cases h : x = c
    · rw [if_pos h, if_pos h]; simp
    · rw [if_neg h, if_neg h, split_cut c r (cur ++ [x])]
      simp
theorem parts_cut (c : UInt8) (l : List UInt8) : partsOf c l = if (cutOf c l).2.2 then (cutOf c l).1 :: partsOf c (cutOf c l).2.1 else [l] := by
  unfold partsOf
  rw [split_cut c l []]
  rfl
theorem cut_no (c : UInt8) : ∀ l : List UInt8, (cutOf c l).2.2 = false → c ∉ l
  | [], _ => by simp
  | x :: r, h => by
    rw [cutOf] at h
    split at h
    · simp at h
    · rename_i hx
      have := cut_no c r h
      simp only [List.mem_cons, not_or]
      exact ⟨fun e => hx e.symm, this⟩
theorem cut_yes (c : UInt8) : ∀ l : List UInt8, (cutOf c l).2.2 = true → c ∈ l
  | [], h => by simp [cutOf] at h
  | x :: r, h => by
    rw [cutOf] at h
    split at h
    · rename_i hx
      exact List.mem_cons.2 (.inl hx.symm)
    · exact List.mem_cons_of_mem _ (cut_yes c r h)

theorem num_nil (m : Int) : (numOf [] m).2 = false := by simp [numOf, numShape]
theorem num_blank (l : List UInt8) (m : Int) (h : (32 : UInt8) ∈ l) : (numOf l m).2 = false := by
  have : l.all isDig = false := by
    cases ha : l.all isDig
    · rfl
    · have := List.all_eq_true.1 ha 32 h
      simp [isDig] at this
  unfold numOf
  rw [this, Bool.and_false]
  rfl

/-- The three numbers behind a code. -/
def tailLand (c : Int) (f : List UInt8) : Option Ins := lineTail c (cutOf 32 f).1 (cutOf 32 (cutOf 32 f).2.1).1 (cutOf 32 (cutOf 32 f).2.1).2.1
def tailRef (c : Int) : List (List UInt8) → Option Ins
  | [x, y, z] => lineTail c x y z
  | _ => none
theorem lineTail_no (c : Int) (x y z : List UInt8) (h : (numOf x 255).2 = false ∨ (numOf y 255).2 = false ∨ (numOf z 4294967295).2 = false) : lineTail c x y z = none := by
  unfold lineTail
  rw [if_neg]
  rcases h with h | h | h <;> simp [h]

theorem tail_is (c : Int) (f : List UInt8) : tailLand c f = tailRef c (partsOf 32 f) := by
  unfold tailLand
  rw [parts_cut]
  cases h1 : (cutOf 32 f).2.2
  · obtain ⟨e1, e2⟩ := cutOf_miss 32 f h1
    rw [e2, if_neg (by simp)]
    have : cutOf 32 ([] : List UInt8) = ([], [], false) := rfl
    rw [this, lineTail_no _ _ _ _ (.inr (.inl (num_nil _)))]
    rfl
  · rw [if_pos rfl, parts_cut 32 (cutOf 32 f).2.1]
    cases h2 : (cutOf 32 (cutOf 32 f).2.1).2.2
    · obtain ⟨e1, e2⟩ := cutOf_miss 32 _ h2
      rw [e2, if_neg (by simp), lineTail_no _ _ _ _ (.inr (.inr (num_nil _)))]
      rfl
    · rw [if_pos rfl, parts_cut 32 (cutOf 32 (cutOf 32 f).2.1).2.1]
      cases h3 : (cutOf 32 (cutOf 32 (cutOf 32 f).2.1).2.1).2.2
      · rw [if_neg (by simp)]
        rfl
      · rw [if_pos rfl, lineTail_no _ _ _ _ (.inr (.inr (num_blank _ _ (cut_yes _ _ h3))))]
        cases hp : partsOf 32 (cutOf 32 (cutOf 32 (cutOf 32 f).2.1).2.1).2.1 with
        | nil => exact absurd hp (parts_ne _ _)
        | cons a r => rfl

/-- A code, and what is behind it and its blank. -/
def headLand (l : List UInt8) : Option (Int × List UInt8) :=
  if (cutOf 32 l).1 = [99, 111, 100, 101] then
    if (numOf (cutOf 32 (cutOf 32 l).2.1).1 65535).2 = true ∧ nameOf (numOf (cutOf 32 (cutOf 32 l).2.1).1 65535).1 = [] then some ((numOf (cutOf 32 (cutOf 32 l).2.1).1 65535).1, (cutOf 32 (cutOf 32 l).2.1).2.1) else none
  else if codeAt (cutOf 32 l).1 < 0 then none else some (codeAt (cutOf 32 l).1, (cutOf 32 l).2.1)
def lineLand (l : List UInt8) : Option Ins := match headLand l with
  | none => none
  | some (c, f) => tailLand c f

theorem code_none : codeAt [99, 111, 100, 101] < 0 := by decide

def lineBy (ps : List (List UInt8)) : Option Ins := match headOf ps with
  | none => none
  | some (c, x, y, z) => lineTail c x y z
theorem lineRead_by (s : List UInt8) : lineRead s = lineBy (partsOf 32 s) := rfl

theorem lineBy_named (h : List UInt8) (hh : ¬ h = [99, 111, 100, 101]) (ps : List (List UInt8)) : lineBy (h :: ps) = if codeAt h < 0 then none else tailRef (codeAt h) ps := by
  match ps with
  | [] => simp [lineBy, headOf, tailRef]
  | [_] => simp [lineBy, headOf, tailRef]
  | [_, _] => simp [lineBy, headOf, tailRef]
  | [x, y, z] =>
    by_cases hn : codeAt h < 0 <;> simp [lineBy, headOf, tailRef, hn]
  | [_, _, _, _] => simp [lineBy, headOf, tailRef, hh]
  | _ :: _ :: _ :: _ :: _ :: _ => simp [lineBy, headOf, tailRef]

theorem lineBy_other (ps : List (List UInt8)) : lineBy ([99, 111, 100, 101] :: ps) = match ps with
    | [] => none
    | c :: qs => if (numOf c 65535).2 = true ∧ nameOf (numOf c 65535).1 = [] then tailRef (numOf c 65535).1 qs else none := by
  match ps with
  | [] => rfl
  | [_] => simp [lineBy, headOf, tailRef]
  | [_, _] => simp [lineBy, headOf, tailRef]
  | [x, y, z] =>
    simp [lineBy, headOf, tailRef, code_none]
  | [c, x, y, z] =>
    by_cases hq : (numOf c 65535).2 = true ∧ nameOf (numOf c 65535).1 = [] <;> simp [lineBy, headOf, tailRef, hq]
  | _ :: _ :: _ :: _ :: _ :: _ => simp [lineBy, headOf, tailRef]

theorem line_is (l : List UInt8) : lineLand l = lineRead l := by
  rw [lineRead_by, parts_cut]
  unfold lineLand headLand
  cases h1 : (cutOf 32 l).2.2
  · obtain ⟨e1, e2⟩ := cutOf_miss 32 l h1
    rw [e1, e2, if_neg (by simp : ¬ (false = true))]
    have e3 : cutOf 32 ([] : List UInt8) = ([], [], false) := rfl
    have hb : lineBy [l] = none := rfl
    have ht : ∀ c, tailLand c [] = none := fun c => by rw [tail_is]; rfl
    rw [hb, e3]
    by_cases hc : l = [99, 111, 100, 101]
    · rw [if_pos hc, if_neg (by rw [num_nil]; simp)]
    · rw [if_neg hc]
      by_cases hn : codeAt l < 0
      · rw [if_pos hn]
      · rw [if_neg hn]
        exact ht _
  · rw [if_pos rfl]
    by_cases hc : (cutOf 32 l).1 = [99, 111, 100, 101]
    · rw [if_pos hc, hc, lineBy_other, parts_cut]
      cases h2 : (cutOf 32 (cutOf 32 l).2.1).2.2
      · obtain ⟨e1, e2⟩ := cutOf_miss 32 _ h2
        rw [e1, e2, if_neg (by simp : ¬ (false = true))]
        simp only
        by_cases hq : (numOf (cutOf 32 l).2.1 65535).2 = true ∧ nameOf (numOf (cutOf 32 l).2.1 65535).1 = []
        · rw [if_pos hq, if_pos hq]
          simp only
          rw [tail_is]
          rfl
        · rw [if_neg hq, if_neg hq]
      · rw [if_pos rfl]
        simp only
        by_cases hq : (numOf (cutOf 32 (cutOf 32 l).2.1).1 65535).2 = true ∧ nameOf (numOf (cutOf 32 (cutOf 32 l).2.1).1 65535).1 = []
        · rw [if_pos hq, if_pos hq]
          simp only
          exact tail_is _ _
        · rw [if_neg hq, if_neg hq]
    · rw [if_neg hc, lineBy_named _ hc]
      by_cases hn : codeAt (cutOf 32 l).1 < 0
      · rw [if_pos hn, if_pos hn]
      · rw [if_neg hn, if_neg hn]
        simp only
        exact tail_is _ _

end Go.Proofs.YtdcpdieejknliaaDoor
