/- Texts of mine put together (a claim has at most so many files): TokSet, TokLib. -/
import Derived.Test.YtdjhpgpekomjeaaGreatDoorPart5
import Derived.Lib.SlTrimSet
import Derived.Lib.Index
import Derived.Lib.IndexMore
import Derived.Lib.IndexAny
import Derived.Lib.ParseIntBCases
import Derived.Test.YtdjhpgpekomjeaaGreatDoorShelf
import Derived.Test.YtdjhpgpekomjeaaGreatDoorChecked
import Derived.Shelf.Strings.SlTrimAscii
import Derived.Shelf.Strings.Search3
import Derived.Shelf.Strings.Cut
import Derived.Shelf.Strings.Prefix
import Derived.Shelf.Pu.Clone
/- Plain facts on the landed token's sets of bytes and on what a text begins with. -/
namespace Go.Proofs.YtdjhpgpekomjeaaGreatDoor
open Go.RowKit

theorem all_bytes {p : UInt8 → Bool} (h : (List.range 256).all (fun n => p (UInt8.ofNat n)) = true) (c : UInt8) : p c = true := by
  have := List.all_eq_true.1 h c.toNat (List.mem_range.2 c.toNat_lt)
  simpa using this

def blankL : List UInt8 := [32, 9, 10, 13]
def digL : List UInt8 := [48, 49, 50, 51, 52, 53, 54, 55, 56, 57]
def hexL : List UInt8 := [48, 49, 50, 51, 52, 53, 54, 55, 56, 57, 97, 98, 99, 100, 101, 102, 65, 66, 67, 68, 69, 70]
def letL : List UInt8 := [97, 98, 99, 100, 101, 102, 103, 104, 105, 106, 107, 108, 109, 110, 111, 112, 113, 114, 115, 116, 117, 118, 119, 120, 121, 122, 65, 66, 67, 68, 69, 70, 71, 72, 73, 74, 75, 76, 77, 78, 79, 80, 81, 82, 83, 84, 85, 86, 87, 88, 89, 90, 95]
def wordL : List UInt8 := [97, 98, 99, 100, 101, 102, 103, 104, 105, 106, 107, 108, 109, 110, 111, 112, 113, 114, 115, 116, 117, 118, 119, 120, 121, 122, 65, 66, 67, 68, 69, 70, 71, 72, 73, 74, 75, 76, 77, 78, 79, 80, 81, 82, 83, 84, 85, 86, 87, 88, 89, 90, 95, 48, 49, 50, 51, 52, 53, 54, 55, 56, 57]

theorem set_blank (c : UInt8) : blankL.contains c = blankB c := eq_of_beq (all_bytes (p := fun c => blankL.contains c == blankB c) (by decide +kernel) c)
theorem set_dig (c : UInt8) : digL.contains c = digB c := eq_of_beq (all_bytes (p := fun c => digL.contains c == digB c) (by decide +kernel) c)
theorem set_let (c : UInt8) : letL.contains c = letterB c := eq_of_beq (all_bytes (p := fun c => letL.contains c == letterB c) (by decide +kernel) c)
theorem set_word (c : UInt8) : wordL.contains c = wordB c := eq_of_beq (all_bytes (p := fun c => wordL.contains c == wordB c) (by decide +kernel) c)
theorem set_ten (c : UInt8) : digL.contains c = isHex 10 c := eq_of_beq (all_bytes (p := fun c => digL.contains c == isHex 10 c) (by decide +kernel) c)
theorem set_hex (c : UInt8) : hexL.contains c = isHex 16 c := eq_of_beq (all_bytes (p := fun c => hexL.contains c == isHex 16 c) (by decide +kernel) c)

theorem run_drop (p : UInt8 → Bool) : ∀ l : List UInt8, l.dropWhile p = l.drop (runLen p l)
  | [] => rfl
  | c :: r => by
    rw [List.dropWhile_cons, runLen]
    cases p c
    · rfl
    · simp only [if_true, List.drop_succ_cons]
      exact run_drop p r
theorem run_same {p q : UInt8 → Bool} (h : ∀ c, p c = q c) (l : List UInt8) : runLen p l = runLen q l := by
  rw [show p = q from funext h]
theorem run_all (p : UInt8 → Bool) : ∀ (l : List UInt8) (b : UInt8), b ∈ l.take (runLen p l) → p b = true
  | [], b, h => by simp at h
  | c :: r, b, h => by
    rw [runLen] at h
    split at h
    · rename_i hc
      rw [List.take_succ_cons] at h
      rcases List.mem_cons.1 h with rfl | h
      · exact hc
      · exact run_all p r b h
    · simp at h
theorem run_word0 (l : List UInt8) : (runLen wordB l = 0) ↔ goesOn l = false := by
  cases l with
  | nil => simp [runLen, goesOn]
  | cons c r =>
    rw [runLen, goesOn]
    cases wordB c <;> simp

/-! ### Where a remark ends -/
theorem end_is : ∀ r : List UInt8, endOf r = if Lib.index r [42, 47] = -1 then none else some ((Lib.index r [42, 47]).toNat + 2)
  | [] => rfl
  | c :: r => by
    have ih := end_is r
    have hge := Lib.index_ge r [42, 47]
    rw [endOf, Lib.index]
    have hb : beginsL [42, 47] (c :: r) = ([42, 47] : List UInt8).isPrefixOf (c :: r) := by
      cases r with
      | nil => simp [beginsL, List.isPrefixOf]
      | cons d t => simp [beginsL, List.isPrefixOf, Bool.beq_eq_decide_eq, eq_comm]
    rw [hb]
    cases hp : ([42, 47] : List UInt8).isPrefixOf (c :: r)
    · simp only [Bool.false_eq_true, if_false]
      rw [ih]
      by_cases hm : Lib.index r [42, 47] = -1
      · rw [hm]; rfl
      · have e : (if (Lib.index r [42, 47] == -1) = true then (-1 : Int) else Lib.index r [42, 47] + 1) = Lib.index r [42, 47] + 1 := if_neg (by simpa using hm)
        rw [if_neg hm, e, if_neg (by omega)]
        simp only [Option.map_some]
        congr 1
        omega
    · rfl

/-! ### Numbers -/
/-- What some digits say behind n; nothing: too great. -/
def valOf (base n : Nat) : List UInt8 → Option Nat
  | [] => some n
  | c :: r => if (18446744073709551615 - (hexOf c).toNat) / base < n then none else valOf base (n * base + (hexOf c).toNat) r

theorem digits_is (base : Nat) : ∀ (l : List UInt8) (n : Nat), digitsOf base n l = (valOf base n (l.take (runLen (isHex base) l))).map fun v => (v, runLen (isHex base) l)
  | [], n => rfl
  | c :: r, n => by
    rw [digitsOf, runLen]
    cases h : isHex base c
    · rfl
    · simp only [if_true, List.take_succ_cons]
      rw [valOf]
      by_cases hf : (18446744073709551615 - (hexOf c).toNat) / base < n
      · rw [if_pos hf, if_pos hf]; rfl
      · rw [if_neg hf, if_neg hf, digits_is base r]
        cases valOf base (n * base + (hexOf c).toNat) (r.take (runLen (isHex base) r)) <;> rfl

/-- In base 10 it is the library's. -/
theorem val_ten : ∀ (l : List UInt8) (n : Nat), n < 18446744073709551616 → (∀ b ∈ l, digB b = true) → (∃ u, valOf 10 n l = some u ∧ Lib.parseUintM 18446744073709551615 n l = .ok u) ∨ (valOf 10 n l = none ∧ Lib.parseUintM 18446744073709551615 n l = .range)
  | [], n, _, _ => .inl ⟨n, rfl, rfl⟩
  | c :: r, n, hn, h => by
    have hc : digB c = true := h c (List.mem_cons_self ..)
    have hd : 48 ≤ (c.toNat : Int) ∧ (c.toNat : Int) ≤ 57 := by simpa [digB] using hc
    have hx : (hexOf c).toNat = c.toNat - 48 := by unfold hexOf; rw [if_pos hc]; omega
    have hp : 48 ≤ c.toNat ∧ c.toNat ≤ 57 := by omega
    rw [valOf, Lib.parseUintM, hx, if_pos hp]
    by_cases h1 : 1844674407370955162 ≤ n
    · rw [if_pos h1, if_pos (by omega)]
      exact .inr ⟨rfl, rfl⟩
    · rw [if_neg h1]
      by_cases h2 : 18446744073709551615 < n * 10 + (c.toNat - 48)
      · rw [if_pos h2, if_pos (by omega)]
        exact .inr ⟨rfl, rfl⟩
      · rw [if_neg h2, if_neg (by omega)]
        exact val_ten r _ (by omega) fun b hb => h b (List.mem_cons_of_mem _ hb)

/-! ### What a text begins with -/
/-- The kind (0: nothing is told), the text, the bytes. -/
def pieceL (l : List UInt8) : Option (Int × List UInt8 × Nat) := match l with
  | [] => none
  | c :: t => if blankB c then some (0, [], runLen blankB (c :: t)) else match skipL (c :: t) with
    | none => none
    | some n => if 0 < n then some (0, [], n) else oneL (c :: t)

theorem one_kind {r : List UInt8} {v : Int × List UInt8 × Nat} (h : oneL r = some v) : ¬ v.1 = 0 ∧ 1 ≤ v.1 ∧ v.1 ≤ 5 := by
  cases r with
  | nil => cases h
  | cons c t =>
    unfold oneL at h
    dsimp only at h
    repeat' split at h
    all_goals first
      | (cases h; done)
      | (obtain rfl := Option.some.inj h; exact ⟨by simp, by simp, by simp⟩)
      | (cases hn : numL (c :: t) with
        | none => rw [hn] at h; cases h
        | some u => rw [hn] at h; obtain rfl := Option.some.inj h; exact ⟨by simp, by simp, by simp⟩)

theorem split_run : ∀ (l : List UInt8) (f : Nat) (p : Nat × Nat), l.length ≤ f → ∃ f', (l.drop (runLen blankB l)).length ≤ f' ∧ splitL f p l = splitL f' (posFrom p (l.take (runLen blankB l))) (l.drop (runLen blankB l))
  | [], f, p, _ => ⟨f, by simp, rfl⟩
  | c :: r, f, p, h => by
    rw [runLen]
    cases hb : blankB c
    · exact ⟨f, h, rfl⟩
    · obtain ⟨g, rfl⟩ : ∃ g, f = g + 1 := ⟨f - 1, by rw [List.length_cons] at h; omega⟩
      simp only [if_true, List.drop_succ_cons, List.take_succ_cons]
      obtain ⟨f', h1, h2⟩ := split_run r g (posFrom p [c]) (by rw [List.length_cons] at h; omega)
      refine ⟨f', h1, ?_⟩
      rw [split_skip (by simp) (skip_blank hb) (by decide)]
      show splitL g (posFrom p [c]) r = _
      rw [h2]
      rfl

theorem split_piece {l : List UInt8} (hl : l ≠ []) {f : Nat} (hf : l.length ≤ f) (p : Nat × Nat) :
    (pieceL l = none ∧ splitL f p l = .error p) ∨
    (∃ x n f', pieceL l = some (0, x, n) ∧ 1 ≤ n ∧ n ≤ l.length ∧ (l.drop n).length ≤ f' ∧ splitL f p l = splitL f' (posFrom p (l.take n)) (l.drop n)) ∨
    (∃ k x n f', pieceL l = some (k, x, n) ∧ ¬ k = 0 ∧ 1 ≤ k ∧ k ≤ 5 ∧ 1 ≤ n ∧ n ≤ l.length ∧ (l.drop n).length ≤ f' ∧ splitL f p l = (splitL f' (posFrom p (l.take n)) (l.drop n)).map (⟨k, x, p⟩ :: ·)) := by
  cases l with
  | nil => exact absurd rfl hl
  | cons c t =>
    obtain ⟨g, rfl⟩ : ∃ g, f = g + 1 := ⟨f - 1, by rw [List.length_cons] at hf; omega⟩
    cases hb : blankB c
    · have e : pieceL (c :: t) = (match skipL (c :: t) with
          | none => none
          | some n => if 0 < n then some (0, [], n) else oneL (c :: t)) := by
        unfold pieceL
        dsimp only
        rw [if_neg (by rw [hb]; decide)]
      cases hs : skipL (c :: t) with
      | none => exact .inl ⟨by rw [e, hs], split_far hl hs⟩
      | some n =>
        by_cases hn : 0 < n
        · have hle := skip_len hs
          refine .inr (.inl ⟨[], n, g, by rw [e, hs]; exact if_pos hn, by omega, hle, ?_, split_skip hl hs hn⟩)
          rw [List.length_drop]
          omega
        · obtain rfl : n = 0 := by omega
          cases ho : oneL (c :: t) with
          | none => exact .inl ⟨by rw [e, hs, ← ho]; rfl, split_bad hl hs ho⟩
          | some v =>
            have h1 := one_kind ho
            have h2 := one_len ho
            refine .inr (.inr ⟨v.1, v.2.1, v.2.2, g, by rw [e, hs]; exact ho, h1.1, h1.2.1, h1.2.2, h2.1, h2.2, ?_, split_tok hl hs ho⟩)
            rw [List.length_drop]
            omega
    · obtain ⟨f', h1, h2⟩ := split_run (c :: t) (g + 1) p hf
      refine .inr (.inl ⟨[], runLen blankB (c :: t), f', ?_, ?_, run_le _ _, h1, h2⟩)
      · unfold pieceL
        dsimp only
        rw [if_pos hb]
      · rw [runLen, if_pos hb]
        omega

end Go.Proofs.YtdjhpgpekomjeaaGreatDoor

/- The library's functions that the landed token calls, as contracts at this translation; what is laid at the start. No condition. -/
namespace Go.Proofs.YtdjhpgpekomjeaaGreatDoor
open Go.RowKit

/-- What the start lays, as far as the landed code reads it. -/
structure Laid (w : World) : Prop where
  most : ∃ m, w.cell? ⟨0, 0, none⟩ = some (.int .i64 m)
  syn : ∃ t p, w.cell? ⟨3, 0, none⟩ = some (.iface t p)
  rng : ∃ t p, w.cell? ⟨4, 0, none⟩ = some (.iface t p)
  size : 0 < w.heap.size ∧ 3 < w.heap.size ∧ 4 < w.heap.size

theorem Laid.below {w w' : World} (h : Laid w) (hb : Below w.heap.size w w') : Laid w' where
  most := by obtain ⟨m, hm⟩ := h.most; exact ⟨m, (hb.cell (p := ⟨0, 0, none⟩) h.size.1).trans hm⟩
  syn := by obtain ⟨t, p, hm⟩ := h.syn; exact ⟨t, p, (hb.cell (p := ⟨3, 0, none⟩) h.size.2.1).trans hm⟩
  rng := by obtain ⟨t, p, hm⟩ := h.rng; exact ⟨t, p, (hb.cell (p := ⟨4, 0, none⟩) h.size.2.2).trans hm⟩
  size := by have := hb.size; have := h.size; omega

theorem trim_any (s cs : ByteArray) (w : World) (hz : cs.size ≤ 1000) (hcs : cs.data.toList.all (fun b => decide (b.toNat < 128)) = true) :
    Calls Tryz.prog 70 #[.string s, .string cs] w fun e w' => e = .returned (.string (strOf (s.data.toList.dropWhile (cs.data.toList.contains ·)))) ∧ Below w.heap.size w w' :=
  Calls.mono (f := 70) (Any.strings_TrimLeft_laid Tryz.lays161 (by kernel_rfl) s cs w (by omega) (ascii_of_all hcs)) fun _ _ h => h

theorem contains_any (s : ByteArray) (c : UInt8) (w : World) :
    Calls Tryz.prog 55 #[.string s, .string ⟨#[c]⟩] w fun e w' => e = .returned (.bool (s.data.toList.contains c)) ∧ w = w' :=
  Calls.mono (f := 55) (Any.strings_Contains_one Tryz.lays144 s c w) fun _ _ ⟨h1, h2⟩ => ⟨by rw [h1, Lib.contains_iff_indexByte], h2.symm⟩

theorem prefix_any (s p : ByteArray) (w : World) :
    Calls Tryz.prog 71 #[.string s, .string p] w fun e w' => e = .returned (.bool (p.data.toList.isPrefixOf s.data.toList)) ∧ w = w' :=
  Calls.mono (f := 71) (Any.strings_HasPrefix Tryz.lays99 s p w) fun _ _ ⟨h1, h2⟩ => ⟨h1, h2.symm⟩

theorem index_any (s sub : ByteArray) (w : World) (hL : Laid w) (hs : s.size ≤ 1000000) :
    Calls Tryz.prog 54 #[.string s, .string sub] w fun e w' => e = .returned (.int .i64 (Lib.index s.data.toList sub.data.toList)) ∧ w = w' := by
  obtain ⟨m, hm⟩ := hL.most
  exact Calls.mono (f := 54) (Any.strings_Index Tryz.lays143 s sub m w (by omega) hm) fun _ _ ⟨h1, h2⟩ => ⟨h1, h2.symm⟩

/-! ### A line -/
theorem line_index : ∀ l : List UInt8, (Lib.index l [10] = -1 ∧ runLen (fun x => !(x == 10)) l = l.length) ∨ (Lib.index l [10] = (runLen (fun x => !(x == 10)) l : Int) ∧ runLen (fun x => !(x == 10)) l < l.length)
  | [] => .inl ⟨rfl, rfl⟩
  | c :: r => by
    rw [Lib.index, runLen]
    by_cases hc : c = 10
    · subst hc
      exact .inr ⟨by simp [List.isPrefixOf], by simp⟩
    · have h1 : ([10] : List UInt8).isPrefixOf (c :: r) = false := by
        simp [List.isPrefixOf]
        exact fun e => hc e.symm
      have h2 : (!(c == 10)) = true := by simpa using hc
      rw [h1, h2]
      rcases line_index r with ⟨e, h⟩ | ⟨e, h⟩
      · exact .inl ⟨by rw [e]; rfl, by simp [h]⟩
      · refine .inr ⟨?_, by simp; omega⟩
        rw [e, if_neg (by decide), if_neg (by simp), if_pos rfl]
        push_cast
        rfl

theorem line_cut (l : List UInt8) : (Lib.cut l [10]).1.length = runLen (fun x => !(x == 10)) l := by
  unfold Lib.cut
  rcases line_index l with ⟨e, h⟩ | ⟨e, h⟩
  · rw [e, if_neg (by decide), h]
  · rw [e, if_pos (by omega)]
    simp only [Int.toNat_natCast, List.length_take]
    omega

theorem line_any (s : ByteArray) (w : World) (hL : Laid w) (hs : s.size ≤ 1000000) :
    Calls Tryz.prog 73 #[.string s, .string ⟨#[10]⟩] w fun e w' => (∃ (a b : ByteArray) (c : Bool), e = .returned (.tuple #[.string a, .string b, .bool c]) ∧ a.size = runLen (fun x => !(x == 10)) s.data.toList) ∧ Below w.heap.size w w' := by
  obtain ⟨m, hm⟩ := hL.most
  refine Calls.mono (f := 73) (Any.strings_Cut Tryz.lays145 s ⟨#[10]⟩ m w (by omega) hm) fun _ _ ⟨h1, n, h2⟩ => ⟨⟨_, _, _, h1, ?_⟩, ?_⟩
  · show (Lib.cut s.data.toList [10]).1.toArray.size = _
    rw [List.size_toArray, line_cut]
  · rw [h2]
    exact below_drewN (Below.refl _ _) n

/-! ### strings.CutPrefix -/
theorem lite_prefix (s p : ByteArray) (w : World) :
    Calls Tryz.prog 89 #[.string s, .string p] w fun e w' => e = .returned (.bool (p.data.toList.isPrefixOf s.data.toList)) ∧ w = w' :=
  Calls.mono (f := 89) (Any.stringslite_HasPrefix { Tryz.lays103 with } s p w) fun _ _ ⟨h1, h2⟩ => ⟨h1, h2.symm⟩

theorem prefix_two (s : ByteArray) (h : ([47, 42] : List UInt8).isPrefixOf s.data.toList = true) : 2 ≤ s.size := by
  have h1 : ([47, 42] : List UInt8) <+: s.data.toList := List.isPrefixOf_iff_prefix.1 h
  have h2 := h1.length_le
  simpa using h2

set_option maxHeartbeats 1000000 in
theorem lite_cut (s : ByteArray) (w : World) :
    Calls Tryz.prog 93 #[.string s, .string ⟨#[47, 42]⟩] w fun e w' => e = .returned (if ([47, 42] : List UInt8).isPrefixOf s.data.toList = true then .tuple #[.string (s.extract 2 s.size), .bool true] else .tuple #[.string s, .bool false]) ∧ w = w' := by
  have H := Lib.hid (lite_prefix s ⟨#[47, 42]⟩ w)
  have e2 : (⟨#[47, 42]⟩ : ByteArray).data.toList = [47, 42] := rfl
  rw [e2] at H
  cases hp : ([47, 42] : List UInt8).isPrefixOf s.data.toList
  · rw [hp] at H
    rw [if_neg (by decide)]
    clear hp e2
    go_enter Tryz.func93, Tryz.ntmps93
    go_wp2_with fail
    refine (H.out).mono ?_
    rintro r w1 ⟨rfl, rfl⟩
    go_wp2
    go_ret2
    exact ⟨rfl, rfl⟩
  · rw [hp] at H
    rw [if_pos rfl]
    have h2 := prefix_two s hp
    have h2I : (2 : Int) ≤ (s.size : Int) := by omega
    clear hp e2
    go_enter Tryz.func93, Tryz.ntmps93
    go_wp2_with fail
    refine (H.out).mono ?_
    rintro r w1 ⟨rfl, rfl⟩
    go_wp2
    go_ret2
    exact ⟨rfl, rfl⟩

set_option maxHeartbeats 1000000 in
theorem cutPrefix_any (s : ByteArray) (w : World) :
    Calls Tryz.prog 74 #[.string s, .string ⟨#[47, 42]⟩] w fun e w' => e = .returned (if ([47, 42] : List UInt8).isPrefixOf s.data.toList = true then .tuple #[.string (s.extract 2 s.size), .bool true] else .tuple #[.string s, .bool false]) ∧ w = w' := by
  have H := Lib.hid (lite_cut s w)
  cases hp : ([47, 42] : List UInt8).isPrefixOf s.data.toList
  · rw [hp, if_neg (by decide)] at H
    rw [if_neg (by decide)]
    clear hp
    go_enter Tryz.func74, Tryz.ntmps74
    go_wp2_with fail
    refine (H.out).mono ?_
    rintro r w1 ⟨rfl, rfl⟩
    go_wp2
    go_ret2
    exact ⟨rfl, rfl⟩
  · rw [hp, if_pos rfl] at H
    rw [if_pos rfl]
    clear hp
    go_enter Tryz.func74, Tryz.ntmps74
    go_wp2_with fail
    refine (H.out).mono ?_
    rintro r w1 ⟨rfl, rfl⟩
    go_wp2
    go_ret2
    exact ⟨rfl, rfl⟩

/-! ### strings.Clone -/
theorem clone_any (s : ByteArray) (w : World) (hs : s.size ≤ 1000000) : Calls Tryz.prog 48 #[.string s] w fun e w' => e = .returned (.string s) ∧ Below w.heap.size w w' := by
  have H : Hid (∀ W : World, Calls Tryz.prog 63 #[.string s] W fun e w' => e = .returned (.string s) ∧ Below W.heap.size W w') := fun W =>
    Calls.mono (f := 63) (AnyPu.stringslite_Clone { Tryz.laysPu14 with } s W (by omega)) fun _ _ h => h
  go_enter Tryz.func48, Tryz.ntmps48
  go_wp2_with fail
  refine (H.out _).mono ?_
  rintro r w1 ⟨rfl, hb⟩
  go_wp2
  go_ret
  exact ⟨rfl, hb⟩

end Go.Proofs.YtdjhpgpekomjeaaGreatDoor
