/- Texts of mine put together (a claim has at most so many files): TokSet, ParMem. -/
import Derived.Test.YtfklajkmikanbaaGreatDoorPart6
import Derived.Lib.SlTrimSet
import Derived.Lib.Index
import Derived.Lib.IndexMore
import Derived.Lib.IndexAny
import Derived.Lib.ParseIntBCases
import Derived.Test.YtfklajkmikanbaaGreatDoorPart4
import Derived.Test.YtfklajkmikanbaaGreatDoorPart2
/- Plain facts on the landed token's sets of bytes and on what a text begins with. -/
namespace Go.Proofs.YtfklajkmikanbaaGreatDoor
open Go.RowKit

theorem all_bytes {p : UInt8 → Bool} (h : (List.range 256).all (fun n => p (UInt8.ofNat n)) = true) (c : UInt8) : p c = true := by
  have := List.all_eq_true.1 h c.toNat (List.mem_range.2 c.toNat_lt)
  simpa using this

def blankL : List UInt8 := [32, 9, 10, 13]
def digL : List UInt8 := [48, 49, 50, 51, 52, 53, 54, 55, 56, 57]
def hexL : List UInt8 := [48, 49, 50, 51, 52, 53, 54, 55, 56, 57, 97, 98, 99, 100, 101, 102, 65, 66, 67, 68, 69, 70]
def letL : List UInt8 := [97, 98, 99, 100, 101, 102, 103, 104, 105, 106, 107, 108, 109, 110, 111, 112, 113, 114, 115, 116, 117, 118, 119, 120, 121, 122, 65, 66, 67, 68, 69, 70, 71, 72, 73, 74, 75, 76, 77, 78, 79, 80, 81, 82, 83, 84, 85, 86, 87, 88, 89, 90, 95]
def wordL : List UInt8 := [97, 98, 99, 100, 101, 102, 103, 104, 105, 106, 107, 108, 109, 110, 111, 112, 113, 114, 115, 116, 117, 118, 119, 120, 121, 122, 65, 66, 67, 68, 69, 70, 71, 72, 73, 74, 75, 76, 77, 78, 79, 80, 81, 82, 83, 84, 85, 86, 87, 88, 89, 90, 95, 48, 49, 50, 51, 52, 53, 54, 55, 56, 57]

theorem set_blank (c : UInt8) : blankL.contains c = blankB c := eq_of_beq (all_bytes (p := fun c => blankL.contains c == blankB c) (by decide +kernel) c)
theorem set_dig (c : UInt8) : digL.contains c = digB c := eq_of_beq (all_bytes (p := fun c => digL.contains c == digB c) (by decide +kernel) c)
theorem set_let (c : UInt8) : letL.contains c = letterB c := eq_of_beq (all_bytes (p := fun c => letL.contains c == letterB c) (by decide +kernel) c)
theorem set_word (c : UInt8) : wordL.contains c = wordB c := eq_of_beq (all_bytes (p := fun c => wordL.contains c == wordB c) (by decide +kernel) c)
theorem set_ten (c : UInt8) : digL.contains c = isHex 10 c := eq_of_beq (all_bytes (p := fun c => digL.contains c == isHex 10 c) (by decide +kernel) c)
theorem set_hex (c : UInt8) : hexL.contains c = isHex 16 c := eq_of_beq (all_bytes (p := fun c => hexL.contains c == isHex 16 c) (by decide +kernel) c)

theorem run_drop (p : UInt8 → Bool) : ∀ l : List UInt8, l.dropWhile p = l.drop (runLen p l)
  | [] => rfl
  | c :: r => by
    rw [List.dropWhile_cons, runLen]
    cases p c
    · rfl
    · simp only [if_true, List.drop_succ_cons]
      exact run_drop p r
theorem run_same {p q : UInt8 → Bool} (h : ∀ c, p c = q c) (l : List UInt8) : runLen p l = runLen q l := by
  rw [show p = q from funext h]
theorem run_all (p : UInt8 → Bool) : ∀ (l : List UInt8) (b : UInt8), b ∈ l.take (runLen p l) → p b = true
  | [], b, h => by simp at h
  | c :: r, b, h => by
    rw [runLen] at h
    split at h
    · rename_i hc
      rw [List.take_succ_cons] at h
      rcases List.mem_cons.1 h with rfl | h
      · exact hc
      · exact run_all p r b h
    · simp at h
theorem run_word0 (l : List UInt8) : (runLen wordB l = 0) ↔ goesOn l = false := by
  cases l with
  | nil => simp [runLen, goesOn]
  | cons c r =>
    rw [runLen, goesOn]
    cases wordB c <;> simp

/-! ### Where a remark ends -/
theorem end_is : ∀ r : List UInt8, endOf r = if Lib.index r [42, 47] = -1 then none else some ((Lib.index r [42, 47]).toNat + 2)
  | [] => rfl
  | c :: r => by
    have ih := end_is r
    have hge := Lib.index_ge r [42, 47]
    rw [endOf, Lib.index]
    have hb : beginsL [42, 47] (c :: r) = ([42, 47] : List UInt8).isPrefixOf (c :: r) := by
      cases r with
      | nil => simp [beginsL, List.isPrefixOf]
      | cons d t => simp [beginsL, List.isPrefixOf, Bool.beq_eq_decide_eq, eq_comm]
    rw [hb]
    cases hp : ([42, 47] : List UInt8).isPrefixOf (c :: r)
    · simp only [Bool.false_eq_true, if_false]
      rw [ih]
      by_cases hm : Lib.index r [42, 47] = -1
      · rw [hm]; rfl
      · have e : (if (Lib.index r [42, 47] == -1) = true then (-1 : Int) else Lib.index r [42, 47] + 1) = Lib.index r [42, 47] + 1 := if_neg (by simpa using hm)
        rw [if_neg hm, e, if_neg (by omega)]
        simp only [Option.map_some]
        congr 1
        omega
    · rfl

/-! ### Numbers -/
/-- What some digits say behind n; nothing: too great. -/
def valOf (base n : Nat) : List UInt8 → Option Nat
  | [] => some n
  | c :: r => if (18446744073709551615 - (hexOf c).toNat) / base < n then none else valOf base (n * base + (hexOf c).toNat) r

theorem digits_is (base : Nat) : ∀ (l : List UInt8) (n : Nat), digitsOf base n l = (valOf base n (l.take (runLen (isHex base) l))).map fun v => (v, runLen (isHex base) l)
  | [], n => rfl
  | c :: r, n => by
    rw [digitsOf, runLen]
    cases h : isHex base c
    · rfl
    · simp only [if_true, List.take_succ_cons]
      rw [valOf]
      by_cases hf : (18446744073709551615 - (hexOf c).toNat) / base < n
      · rw [if_pos hf, if_pos hf]; rfl
      · rw [if_neg hf, if_neg hf, digits_is base r]
        cases valOf base (n * base + (hexOf c).toNat) (r.take (runLen (isHex base) r)) <;> rfl

/-- In base 10 it is the library's. -/
theorem val_ten : ∀ (l : List UInt8) (n : Nat), n < 18446744073709551616 → (∀ b ∈ l, digB b = true) → (∃ u, valOf 10 n l = some u ∧ Lib.parseUintM 18446744073709551615 n l = .ok u) ∨ (valOf 10 n l = none ∧ Lib.parseUintM 18446744073709551615 n l = .range)
  | [], n, _, _ => .inl ⟨n, rfl, rfl⟩
  | c :: r, n, hn, h => by
    have hc : digB c = true := h c (List.mem_cons_self ..)
    have hd : 48 ≤ (c.toNat : Int) ∧ (c.toNat : Int) ≤ 57 := by simpa [digB] using hc
    have hx : (hexOf c).toNat = c.toNat - 48 := by unfold hexOf; rw [if_pos hc]; omega
    have hp : 48 ≤ c.toNat ∧ c.toNat ≤ 57 := by omega
    rw [valOf, Lib.parseUintM, hx, if_pos hp]
    by_cases h1 : 1844674407370955162 ≤ n
    · rw [if_pos h1, if_pos (by omega)]
      exact .inr ⟨rfl, rfl⟩
    · rw [if_neg h1]
      by_cases h2 : 18446744073709551615 < n * 10 + (c.toNat - 48)
      · rw [if_pos h2, if_pos (by omega)]
        exact .inr ⟨rfl, rfl⟩
      · rw [if_neg h2, if_neg (by omega)]
        exact val_ten r _ (by omega) fun b hb => h b (List.mem_cons_of_mem _ hb)

/-! ### What a text begins with -/
/-- The kind (0: nothing is told), the text, the bytes. -/
def pieceL (l : List UInt8) : Option (Int × List UInt8 × Nat) := match l with
  | [] => none
  | c :: t => if blankB c then some (0, [], runLen blankB (c :: t)) else match skipL (c :: t) with
    | none => none
    | some n => if 0 < n then some (0, [], n) else oneL (c :: t)

theorem one_kind {r : List UInt8} {v : Int × List UInt8 × Nat} (h : oneL r = some v) : ¬ v.1 = 0 ∧ 1 ≤ v.1 ∧ v.1 ≤ 5 := by
  cases r with
  | nil => cases h
  | cons c t =>
    unfold oneL at h
    dsimp only at h
    repeat' split at h
    all_goals first
      | (cases h; done)
      | (obtain rfl := Option.some.inj h; exact ⟨by simp, by simp, by simp⟩)
      | (cases hn : numL (c :: t) with
        | none => rw [hn] at h; cases h
        | some u => rw [hn] at h; obtain rfl := Option.some.inj h; exact ⟨by simp, by simp, by simp⟩)

theorem split_run : ∀ (l : List UInt8) (f : Nat) (p : Nat × Nat), l.length ≤ f → ∃ f', (l.drop (runLen blankB l)).length ≤ f' ∧ splitL f p l = splitL f' (posFrom p (l.take (runLen blankB l))) (l.drop (runLen blankB l))
  | [], f, p, _ => ⟨f, by simp, rfl⟩
  | c :: r, f, p, h => by
    rw [runLen]
    cases hb : blankB c
    · exact ⟨f, h, rfl⟩
    · obtain ⟨g, rfl⟩ : ∃ g, f = g + 1 := ⟨f - 1, by rw [List.length_cons] at h; omega⟩
      simp only [if_true, List.drop_succ_cons, List.take_succ_cons]
      obtain ⟨f', h1, h2⟩ := split_run r g (posFrom p [c]) (by rw [List.length_cons] at h; omega)
      refine ⟨f', h1, ?_⟩
      rw [split_skip (by simp) (skip_blank hb) (by decide)]
      show splitL g (posFrom p [c]) r = _
      rw [h2]
      rfl

theorem split_piece {l : List UInt8} (hl : l ≠ []) {f : Nat} (hf : l.length ≤ f) (p : Nat × Nat) :
    (pieceL l = none ∧ splitL f p l = .error p) ∨
    (∃ x n f', pieceL l = some (0, x, n) ∧ 1 ≤ n ∧ n ≤ l.length ∧ (l.drop n).length ≤ f' ∧ splitL f p l = splitL f' (posFrom p (l.take n)) (l.drop n)) ∨
    (∃ k x n f', pieceL l = some (k, x, n) ∧ ¬ k = 0 ∧ 1 ≤ k ∧ k ≤ 5 ∧ 1 ≤ n ∧ n ≤ l.length ∧ (l.drop n).length ≤ f' ∧ splitL f p l = (splitL f' (posFrom p (l.take n)) (l.drop n)).map (⟨k, x, p⟩ :: ·)) := by
  cases l with
  | nil => exact absurd rfl hl
  | cons c t =>
    obtain ⟨g, rfl⟩ : ∃ g, f = g + 1 := ⟨f - 1, by rw [List.length_cons] at hf; omega⟩
    cases hb : blankB c
    · have e : pieceL (c :: t) = (match skipL (c :: t) with
          | none => none
          | some n => if 0 < n then some (0, [], n) else oneL (c :: t)) := by
        unfold pieceL
        dsimp only
        rw [if_neg (by rw [hb]; decide)]
      cases hs : skipL (c :: t) with
      | none => exact .inl ⟨by rw [e, hs], split_far hl hs⟩
      | some n =>
        by_cases hn : 0 < n
        · have hle := skip_len hs
          refine .inr (.inl ⟨[], n, g, by rw [e, hs]; exact if_pos hn, by omega, hle, ?_, split_skip hl hs hn⟩)
          rw [List.length_drop]
          omega
        · obtain rfl : n = 0 := by omega
          cases ho : oneL (c :: t) with
          | none => exact .inl ⟨by rw [e, hs, ← ho]; rfl, split_bad hl hs ho⟩
          | some v =>
            have h1 := one_kind ho
            have h2 := one_len ho
            refine .inr (.inr ⟨v.1, v.2.1, v.2.2, g, by rw [e, hs]; exact ho, h1.1, h1.2.1, h1.2.2, h2.1, h2.2, ?_, split_tok hl hs ho⟩)
            rw [List.length_drop]
            omega
    · obtain ⟨f', h1, h2⟩ := split_run (c :: t) (g + 1) p hf
      refine .inr (.inl ⟨[], runLen blankB (c :: t), f', ?_, ?_, run_le _ _, h1, h2⟩)
      · unfold pieceL
        dsimp only
        rw [if_pos hb]
      · rw [runLen, if_pos hb]
        omega

end Go.Proofs.YtfklajkmikanbaaGreatDoor

/- Expressions, rules, policies, tokens as they lie in blocks that may be told: kept over whatever writes elsewhere. No program. -/
namespace Go.Proofs.YtfklajkmikanbaaGreatDoor.LandedP
open Go.RowKit

/-- What lies in blocks that P tells lies there still, in blocks that Q tells. -/
structure Move (P Q : Nat → Prop) (w w' : World) : Prop where
  size : w.heap.size ≤ w'.heap.size
  same : ∀ b, b < w.heap.size → P b → Q b ∧ w'.heap[b]? = w.heap[b]?

theorem Move.refl (P : Nat → Prop) (w : World) : Move P P w w := ⟨Nat.le_refl _, fun _ _ h => ⟨h, rfl⟩⟩
theorem Move.of {P Q : Nat → Prop} (w : World) (h : ∀ b, b < w.heap.size → P b → Q b) : Move P Q w w := ⟨Nat.le_refl _, fun b hb hp => ⟨h b hb hp, rfl⟩⟩
theorem Move.trans {P Q R : Nat → Prop} {a b c : World} (h : Move P Q a b) (k : Move Q R b c) : Move P R a c :=
  ⟨Nat.le_trans h.size k.size, fun x hx hp => by
    obtain ⟨h1, h2⟩ := h.same x hx hp
    obtain ⟨h3, h4⟩ := k.same x (Nat.lt_of_lt_of_le hx h.size) h1
    exact ⟨h3, h4.trans h2⟩⟩
theorem Move.grown {P Q : Nat → Prop} {w w' : World} {row : Option Nat} (h : w.grownBy w' row) (hp : ∀ b, b < w.heap.size → P b → Q b ∧ row ≠ some b) : Move P Q w w' :=
  ⟨h.size, fun b hb h1 => ⟨(hp b hb h1).1, h.block b hb (fun e => (hp b hb h1).2 e.symm)⟩⟩
theorem Move.below {P Q : Nat → Prop} {w w' : World} (h : Below w.heap.size w w') (hp : ∀ b, b < w.heap.size → P b → Q b) : Move P Q w w' :=
  ⟨h.size, fun b hb h1 => ⟨hp b hb h1, h.block b hb⟩⟩

/-- The slice lies in a block that P tells. -/
def LiesP (P : Nat → Prop) (w : World) (size : Nat) (A : Option Addr) (n : Nat) (xs : List Value) : Prop :=
  xs.length = n * size ∧ (0 < n → ∃ b o, A = some ⟨b, o, none⟩ ∧ b < w.heap.size ∧ P b ∧ ∀ j u, xs[j]? = some u → w.cell? ⟨b, o + j, none⟩ = some u)

section
variable {P Q : Nat → Prop} {w w' : World} {size n : Nat} {A : Option Addr} {xs : List Value}
theorem LiesP.lies (h : LiesP P w size A n xs) : Lies w w.heap.size size A n xs :=
  ⟨h.1, fun hn => by obtain ⟨b, o, h1, h2, _, h4⟩ := h.2 hn; exact ⟨b, o, h1, h2, h4⟩⟩
theorem LiesP.move (h : LiesP P w size A n xs) (hm : Move P Q w w') : LiesP Q w' size A n xs :=
  ⟨h.1, fun hn => by
    obtain ⟨b, o, h1, h2, h3, h4⟩ := h.2 hn
    obtain ⟨h5, h6⟩ := hm.same b h2 h3
    refine ⟨b, o, h1, Nat.lt_of_lt_of_le h2 hm.size, h5, fun j u hu => ?_⟩
    rw [World.cell?_of_block (w := w) (a := ⟨b, o + j, none⟩) h6]
    exact h4 j u hu⟩
theorem LiesP.empty (P : Nat → Prop) (w : World) (size : Nat) (A : Option Addr) : LiesP P w size A 0 [] := ⟨by simp, fun h => absurd h (by omega)⟩
/-- A row of the call's own. -/
theorem LiesP.of_own {base c : Nat} {e : TypeId} (h : w.ownsRow base e size (.slice A n c) n xs) (hx : ∀ b o, A = some ⟨b, o, none⟩ → b < w.heap.size → base ≤ b → P b) : LiesP P w size A n xs := by
  refine ⟨h.1, fun hn => ?_⟩
  obtain ⟨b, o, h1, h2, h4⟩ := (Lies.of_own h).2 hn
  subst h1
  exact ⟨b, o, rfl, h2, hx b o rfl h2 (h.lt b rfl).1, h4⟩
/-- What has just been laid. -/
theorem LiesP.new {t : TypeId} {cs : Array Value} (g : Nat) (hg : g = w.heap.size) (hc : cs.toList = xs) (hn : cs.size = n * size) (hP : P g) : LiesP P (w.alloc (.cells cs t)) size (some ⟨g, 0, none⟩) n xs := by
  subst hc hg
  have h := Box.new w t cs
  exact ⟨by simpa using hn, fun _ => ⟨w.heap.size, 0, rfl, h.lt, hP, fun j u hu => by rw [Nat.zero_add, h.cell j]; simpa using hu⟩⟩
end

/-- A slice of capacity c of things of C cells, each as R says. -/
structure SlP {α : Type} (P : Nat → Prop) (w : World) (C : Nat) (f : α → List Value) (R : α → Prop) (A : Option Addr) (c : Nat) (l : List α) : Prop where
  lies : LiesP P w C A l.length (l.flatMap f)
  all : ∀ x ∈ l, R x
  cap : l.length ≤ c
  room : c ≤ maxLen

section
variable {α : Type} {P Q : Nat → Prop} {w w' : World} {C c : Nat} {f : α → List Value} {R R' : α → Prop} {A : Option Addr} {l : List α}
theorem SlP.move (h : SlP P w C f R A c l) (hm : Move P Q w w') (hr : ∀ x ∈ l, R x → R' x) : SlP Q w' C f R' A c l := ⟨h.lies.move hm, fun x hx => hr x hx (h.all x hx), h.cap, h.room⟩
theorem SlP.sl (h : SlP P w C f R A c l) (hr : ∀ x ∈ l, R x → R' x) : SlIn w w.heap.size C f R' A c l := ⟨h.lies.lies, fun x hx => hr x hx (h.all x hx), h.cap, h.room⟩
theorem SlP.nil (P : Nat → Prop) (w : World) (C : Nat) (f : α → List Value) (R : α → Prop) : SlP P w C f R none 0 [] := ⟨.empty _ _ _ _, fun x hx => absurd hx (by simp), Nat.le_refl _, by decide⟩
end

/-- An expression that lies in such blocks. -/
inductive ExP (P : Nat → Prop) (w : World) : Ex → Prop
  | mk {kd : Int} {op nm : ByteArray} {nu : Int} {A : Option Addr} {c : Nat} {ks : List Ex} (lies : LiesP P w 5 A ks.length (ks.flatMap Ex.cells)) (all : ∀ k ∈ ks, ExP P w k) (cap : ks.length ≤ c) (room : c ≤ maxLen)
      (hk : I64 kd) (ho : op.size ≤ maxLen) (hn : nm.size ≤ maxLen) (hu : U64 nu) : ExP P w (.node kd op nm nu A c ks)

section
variable {P Q : Nat → Prop} {w w' : World}
theorem ExP.move {e : Ex} (h : ExP P w e) (hm : Move P Q w w') : ExP Q w' e := by
  induction h with
  | mk h1 _ h3 h4 h5 h6 h7 h8 ih => exact .mk (h1.move hm) ih h3 h4 h5 h6 h7 h8
theorem ExP.ex {e : Ex} (h : ExP P w e) : ExIn w w.heap.size e := by
  induction h with
  | mk h1 _ h3 h4 h5 h6 h7 h8 ih => exact .mk h1.lies ih h3 h4 h5 h6 h7 h8

structure RulP (P : Nat → Prop) (w : World) (r : Rul) : Prop where
  call : StrIn r.call
  params : SlP P w 1 strCells StrIn r.pA r.pc r.params
  cond : SlP P w 5 Ex.cells (ExP P w) r.cA r.cc r.cond
structure ParP (P : Nat → Prop) (w : World) (p : Par) : Prop where
  use : StrIn p.use
  kind : I64 p.kind
  data : I64 p.data
  rules : SlP P w 3 Rul.cells (RulP P w) p.rA p.rc p.rules
structure PolP (P : Nat → Prop) (w : World) (p : Pol) : Prop where
  name : StrIn p.name
  parts : SlP P w 4 Par.cells (ParP P w) p.A p.c p.parts
structure DfnP (P : Nat → Prop) (w : World) (d : Dfn) : Prop where
  name : StrIn d.name
  ex : ExP P w d.ex
structure UntP (P : Nat → Prop) (w : World) (u : Unt) : Prop where
  defs : SlP P w 6 Dfn.cells (DfnP P w) u.dA u.dc u.defs
  pols : SlP P w 2 Pol.cells (PolP P w) u.pA u.pc u.pols
  main : SlP P w 1 strCells StrIn u.mA u.mc u.main
  kind : I64 u.kind
  data : I64 u.data

theorem RulP.move {r : Rul} (h : RulP P w r) (hm : Move P Q w w') : RulP Q w' r := ⟨h.call, h.params.move hm fun _ _ h => h, h.cond.move hm fun _ _ h => h.move hm⟩
theorem ParP.move {p : Par} (h : ParP P w p) (hm : Move P Q w w') : ParP Q w' p := ⟨h.use, h.kind, h.data, h.rules.move hm fun _ _ h => h.move hm⟩
theorem PolP.move {p : Pol} (h : PolP P w p) (hm : Move P Q w w') : PolP Q w' p := ⟨h.name, h.parts.move hm fun _ _ h => h.move hm⟩
theorem DfnP.move {d : Dfn} (h : DfnP P w d) (hm : Move P Q w w') : DfnP Q w' d := ⟨h.name, h.ex.move hm⟩
theorem UntP.move {u : Unt} (h : UntP P w u) (hm : Move P Q w w') : UntP Q w' u := ⟨h.defs.move hm fun _ _ h => h.move hm, h.pols.move hm fun _ _ h => h.move hm, h.main.move hm fun _ _ h => h, h.kind, h.data⟩
theorem RulP.rul {r : Rul} (h : RulP P w r) : RulIn w w.heap.size r := ⟨h.call, h.params.sl fun _ _ h => h, h.cond.sl fun _ _ h => h.ex⟩
theorem ParP.par {p : Par} (h : ParP P w p) : ParIn w w.heap.size p := ⟨h.use, h.kind, h.data, h.rules.sl fun _ _ h => h.rul⟩
theorem PolP.pol {p : Pol} (h : PolP P w p) : PolIn w w.heap.size p := ⟨h.name, h.parts.sl fun _ _ h => h.par⟩
theorem DfnP.dfn {d : Dfn} (h : DfnP P w d) : DfnIn w w.heap.size d := ⟨h.name, h.ex.ex⟩
theorem UntP.unt {u : Unt} (h : UntP P w u) : UntIn w w.heap.size u := ⟨h.defs.sl fun _ _ h => h.dfn, h.pols.sl fun _ _ h => h.pol, h.main.sl fun _ _ h => h, h.kind, h.data⟩
end

/-! ### The tokens and the reader -/
/-- A fault's parts. -/
structure Flt where
  e : Int
  file : Int
  re : Nat
  im : Nat
def Flt.none : Flt := ⟨0, 0, 0, 0⟩
def Flt.val (f : Flt) : Value := .agg #[.int .i64 f.e, .int .i64 f.file, .complex .f64 f.re f.im]
/-- The end, and what is known of every memory in which nothing ahead of the reader has turned. -/
structure Env extends Flt where
  laid : World → Prop
/-- A fault with that number, at the next token, or at the end. -/
def hereV (E : Env) (err : Int) : List Tk → Flt
  | [] => ⟨err, E.file, E.re, E.im⟩
  | t :: _ => ⟨err, t.file, t.re, t.im⟩

/-- The number that a text tells. -/
def numV (s : List UInt8) : Option Nat :=
  if hexAhead s then (if (s.drop 2).isEmpty then none else valOf 16 0 (s.drop 2)) else (if s.isEmpty then none else valOf 10 0 s)
structure TkOk (t : Tk) : Prop where
  size : t.text.size ≤ 1000000
  num : t.kind = 2 → if hexAhead t.text.data.toList then ∀ b ∈ t.text.data.toList.drop 2, isHex 16 b = true else ∀ b ∈ t.text.data.toList, isHex 10 b = true

def toksT (R : List Tk) : List Value := R.flatMap Tk.cells
theorem tk_len (t : Tk) : t.cells.length = 4 := rfl

theorem toksT_len : ∀ R : List Tk, (toksT R).length = R.length * 4
  | [] => rfl
  | t :: r => by
    have := toksT_len r
    unfold toksT at this ⊢
    rw [List.flatMap_cons, List.length_append, this, tk_len, List.length_cons]
    omega

def rdCells (A : Option Addr) (n c : Nat) (E : Env) (F : Flt) : Array Value := #[.slice A n c, .int .i64 E.e, .int .i64 E.file, .complex .f64 E.re E.im, .int .i64 F.e, .int .i64 F.file, .complex .f64 F.re F.im]

/-- The reader in block g: R is still to be read, E is the end, F the fault so far. -/
structure Rdr (T : TypeId) (w : World) (g : Nat) (E : Env) (R : List Tk) (F : Flt) (A : Option Addr) (c : Nat) : Prop where
  box : Box w g T (rdCells A R.length c E F)
  lies : Lies w g 4 A R.length (toksT R)
  cap : R.length ≤ c
  room : R.length ≤ 1000000
  ok : ∀ t ∈ R, TkOk t
  laid : ∀ W, Below g w W → E.laid W

section
variable {T : TypeId} {w w' : World} {g : Nat} {E : Env} {F : Flt} {R : List Tk} {A : Option Addr} {c : Nat}
/-- A call that writes nothing that was there. -/
theorem Rdr.step (h : Rdr T w g E R F A c) (hb : Below w.heap.size w w') : Rdr T w' g E R F A c :=
  ⟨h.box.step hb, h.lies.below (hb.mono (Nat.le_of_lt h.box.lt)), h.cap, h.room, h.ok, fun W hW => h.laid W ((hb.mono (Nat.le_of_lt h.box.lt)).trans hW)⟩
/-- Something else was written. -/
theorem Rdr.other {k : Nat} (h : Rdr T w g E R F A c) (ho : w.grownBy w' (some k)) (hk : g < k) : Rdr T w' g E R F A c :=
  ⟨box_only h.box (by omega) ho, h.lies.keep fun p hp => World.cell?_of_block (ho.block p.block (by have := h.box.lt; omega) (fun e => by injection e; omega)), h.cap, h.room, h.ok,
    fun W hW => h.laid W ((⟨ho.os, ho.tape, ho.output, ho.size, fun i hi => ho.block i (by have := h.box.lt; omega) (fun e => by injection e; omega)⟩ : Below g w w').trans hW)⟩
theorem Rdr.alloc (h : Rdr T w g E R F A c) (o : Obj) : Rdr T (w.alloc o) g E R F A c := h.step ((Below.refl _ _).alloc (Nat.le_refl _) o)
theorem Rdr.drew (h : Rdr T w g E R F A c) : Rdr T w.drew g E R F A c := h.step (Below.refl _ _).drew
/-- The first token's cells. -/
theorem Rdr.first {t : Tk} {r : List Tk} (h : Rdr T w g E (t :: r) F A c) : ∃ b o, A = some ⟨b, o, none⟩ ∧ b < g ∧ w.cell? ⟨b, o, none⟩ = some (.int .i64 t.kind) ∧ w.cell? ⟨b, o + 1, none⟩ = some (.string t.text) ∧ w.cell? ⟨b, o + 2, none⟩ = some (.int .i64 t.file) ∧ w.cell? ⟨b, o + 3, none⟩ = some (.complex .f64 t.re t.im) := by
  obtain ⟨b, o, h1, h2, h3⟩ := h.lies.2 (by simp)
  exact ⟨b, o, h1, h2, h3 0 _ rfl, h3 1 _ rfl, h3 2 _ rfl, h3 3 _ rfl⟩
/-- What is read is taken away. -/
theorem lies_rest {t : Tk} {r : List Tk} {b o : Nat} (h : Lies w g 4 (some ⟨b, o, none⟩) (t :: r).length (toksT (t :: r))) : Lies w g 4 (some ⟨b, o + 4, none⟩) r.length (toksT r) := by
  refine ⟨toksT_len r, fun _ => ?_⟩
  obtain ⟨b', o', h1, h2, h3⟩ := h.2 (by simp)
  cases h1
  refine ⟨b, o + 4, rfl, h2, fun j u hu => ?_⟩
  have := h3 (4 + j) u (by
    unfold toksT at hu ⊢
    rw [List.flatMap_cons, List.getElem?_append_right (by rw [tk_len]; omega), tk_len, show 4 + j - 4 = j from by omega]
    exact hu)
  rw [show o + 4 + j = o + (4 + j) from by omega]
  exact this
end

/-- The reader, its slice's place left aside. -/
def RdrAt (T : TypeId) (w : World) (g : Nat) (E : Env) (R : List Tk) (F : Flt) : Prop := ∃ A c, Rdr T w g E R F A c
/-- What was read is none: with the fault's number, and at which token. -/
def Wrong (T : TypeId) (w : World) (g : Nat) (E : Env) (err : Int) (R : List Tk) : Prop :=
  (err = 3 ∧ RdrAt T w g E R Flt.none) ∨ (err ≠ 0 ∧ ∃ R', RdrAt T w g E R' (hereV E err R))

theorem RdrAt.step {T : TypeId} {w w' : World} {g : Nat} {E : Env} {F : Flt} {R : List Tk} (h : RdrAt T w g E R F) (hb : Below w.heap.size w w') : RdrAt T w' g E R F := by
  obtain ⟨A, c, h⟩ := h
  exact ⟨A, c, h.step hb⟩
theorem RdrAt.other {T : TypeId} {w w' : World} {g k : Nat} {E : Env} {F : Flt} {R : List Tk} (h : RdrAt T w g E R F) (ho : w.grownBy w' (some k)) (hk : g < k) : RdrAt T w' g E R F := by
  obtain ⟨A, c, h⟩ := h
  exact ⟨A, c, h.other ho hk⟩
theorem Wrong.step {T : TypeId} {w w' : World} {g : Nat} {E : Env} {err : Int} {R : List Tk} (h : Wrong T w g E err R) (hb : Below w.heap.size w w') : Wrong T w' g E err R := by
  rcases h with ⟨h1, h2⟩ | ⟨h1, R', h2⟩
  · exact .inl ⟨h1, h2.step hb⟩
  · exact .inr ⟨h1, R', h2.step hb⟩
theorem Wrong.other {T : TypeId} {w w' : World} {g k : Nat} {E : Env} {err : Int} {R : List Tk} (h : Wrong T w g E err R) (ho : w.grownBy w' (some k)) (hk : g < k) : Wrong T w' g E err R := by
  rcases h with ⟨h1, h2⟩ | ⟨h1, R', h2⟩
  · exact .inl ⟨h1, h2.other ho hk⟩
  · exact .inr ⟨h1, R', h2.other ho hk⟩

end Go.Proofs.YtfklajkmikanbaaGreatDoor.LandedP
