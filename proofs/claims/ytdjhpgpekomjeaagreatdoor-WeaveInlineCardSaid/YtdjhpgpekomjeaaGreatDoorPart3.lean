/- Texts of mine put together (a claim has at most so many files): OpenFiles, TokPlain, Letters, TokBytes. -/
import Derived.Test.YtdjhpgpekomjeaaGreatDoorPart1
import Derived.Test.YtdjhpgpekomjeaaGreatDoorFileRef
import Derived.ChangeMaps5
import Derived.Lib.Strings
import Derived.Test.YtdjhpgpekomjeaaGreatDoorChecked
import Derived.Lib.Hide
import Derived.BigQuiet
/- Files that came in, as a list of texts. -/
namespace Go.Proofs.YtdjhpgpekomjeaaGreatDoor
open Go.RowKit Go.ChangeShapes Go.WideShapes Go.ChangeAt

set_option maxRecDepth 100000 in
theorem open_files {H : Type} {enc : TypeId × Value → H} {w : World} {spare : Nat → Bool} {held : Bool} {fuel n c : Nat} {A : Option Addr} {x : DataW H × List MemPlace}
    (h : DataW.trod enc Tryz.prog w 0 spare held fuel 22 [.slice A n c] = some x) :
    n ≤ c ∧ ((n = 0 ∧ x.1 = .nil) ∨ ∃ el sp, x.1 = .slice el sp ∧ n ≤ el.length + sp.length) ∧ ∃ l : List (ByteArray × ByteArray), Lies w w.heap.size 2 A n (filesV l) ∧ ∀ y ∈ l, y.1.size ≤ maxLen ∧ y.2.size ≤ maxLen := by
  obtain ⟨hnc, hr, L, hL, hl, hel⟩ := open_slice_lies Tryz.underlying22 (C := 2) (by kernel_rfl) (by omega) h
  refine ⟨hnc, hr, ?_⟩
  obtain ⟨M, hM, hk⟩ := list_of (f := fun f : ByteArray × ByteArray => [Value.string f.1, .string f.2]) (p := fun y => y.1.size ≤ maxLen ∧ y.2.size ≤ maxLen) L (fun cs hcs => by
    obtain ⟨m, y, hy⟩ := hel cs hcs
    obtain ⟨xs, k, _, _, hlen, hxl, hf⟩ := DataW.trod_struct Tryz.underlying36 hy
    have hc2 : cs.length = 2 := hlen.trans (by kernel_rfl)
    have k1 : Tryz.prog.cellsOf 9 = 1 := by kernel_rfl
    match cs, hc2, xs, hxl with
    | [c0, c1], _, [x0, x1], _ =>
      have g0 := hf 0 _ rfl
      have g1 := hf 1 _ rfl
      simp [k1] at g0 g1
      obtain ⟨s0, e0, _, w0⟩ := DataW.trod_string Tryz.underlying9 g0
      obtain ⟨s1, e1, _, w1⟩ := DataW.trod_string Tryz.underlying9 g1
      simp at e0 e1
      subst e0 e1
      exact ⟨(s0, s1), rfl, w0, w1⟩)
  refine ⟨M, ?_, hk⟩
  have e : L.flatten = filesV M := by
    rw [hM]
    unfold filesV
    rw [List.flatMap_def]
  rw [← e]
  exact hl

end Go.Proofs.YtdjhpgpekomjeaaGreatDoor

/- Tokens of a text, as plain functions of what is left of it. -/
namespace Go.Proofs.YtdjhpgpekomjeaaGreatDoor
open Go.RowKit

def letterB (c : UInt8) : Bool := (decide (97 ≤ (c.toNat : Int)) && decide ((c.toNat : Int) ≤ 122)) || ((decide (65 ≤ (c.toNat : Int)) && decide ((c.toNat : Int) ≤ 90)) || ((c.toNat : Int) == 95))
def digB (c : UInt8) : Bool := decide (48 ≤ (c.toNat : Int)) && decide ((c.toNat : Int) ≤ 57)
def wordB (c : UInt8) : Bool := letterB c || digB c
/-- A byte as a digit of base 16; below 0, if it is none. -/
def hexOf (c : UInt8) : Int :=
  if digB c then (c.toNat : Int) - 48
  else if 97 ≤ (c.toNat : Int) ∧ (c.toNat : Int) ≤ 102 then (c.toNat : Int) - 87
  else if 65 ≤ (c.toNat : Int) ∧ (c.toNat : Int) ≤ 70 then (c.toNat : Int) - 55
  else -1
def isHex (base : Nat) (c : UInt8) : Bool := decide (0 ≤ hexOf c) && decide (hexOf c < (base : Int))

/-- How many at the beginning are so. -/
def runLen (p : UInt8 → Bool) : List UInt8 → Nat
  | [] => 0
  | c :: r => if p c then runLen p r + 1 else 0
/-- What the digits at the beginning say behind n, and how many they are; nothing: too great. -/
def digitsOf (base n : Nat) : List UInt8 → Option (Nat × Nat)
  | [] => some (n, 0)
  | c :: r => if isHex base c then (if (18446744073709551615 - (hexOf c).toNat) / base < n then none else (digitsOf base (n * base + (hexOf c).toNat) r).map fun t => (t.1, t.2 + 1)) else some (n, 0)
def hexAhead (r : List UInt8) : Bool := match r with
  | a :: b :: _ => a == 48 && b == 120
  | _ => false
/-- Goes a word on? -/
def goesOn (r : List UInt8) : Bool := match r with
  | [] => false
  | c :: _ => wordB c
def numL (r : List UInt8) : Option (Nat × Nat) :=
  let off := if hexAhead r then 2 else 0
  match digitsOf (if hexAhead r then 16 else 10) 0 (r.drop off) with
  | none => none
  | some (v, k) => if k = 0 ∨ goesOn (r.drop (off + k)) = true then none else some (v, off + k)

def twoSigns : List (List UInt8) := [[38, 38], [124, 124], [61, 61], [33, 61], [60, 61], [62, 61]]
def oneSigns : List UInt8 := [123, 125, 40, 41, 44, 33, 38, 124, 60, 62]
def signL (r : List UInt8) : Nat := if twoSigns.contains (r.take 2) then 2 else match r with
  | [] => 0
  | c :: _ => if oneSigns.contains c then 1 else 0

def beginsL (t r : List UInt8) : Bool := r.take t.length == t
/-- How far to behind the end of a remark. -/
def endOf : List UInt8 → Option Nat
  | [] => none
  | c :: r => if beginsL [42, 47] (c :: r) then some 2 else (endOf r).map (· + 1)
def blankB (c : UInt8) : Bool := (c == 32) || ((c == 9) || ((c == 10) || (c == 13)))
/-- How many tell nothing; nothing: they don't end. -/
def skipL (r : List UInt8) : Option Nat := match r with
  | [] => some 0
  | c :: _ =>
    if blankB c then some 1
    else if beginsL [47, 47] r then some (runLen (fun x => !(x == 10)) r)
    else if beginsL [47, 42] r then (endOf (r.drop 2)).map (· + 2)
    else some 0

/-- A token: its kind, its text, how many bytes it takes. -/
def oneL (r : List UInt8) : Option (Int × List UInt8 × Nat) := match r with
  | [] => none
  | c :: t =>
    if letterB c then some (1, r.take (runLen wordB r), runLen wordB r)
    else if digB c then (numL r).map fun v => (2, r.take v.2, v.2)
    else if c = 34 then
      (match t.drop (runLen (fun x => !(x == 34) && !(x == 10)) t) with
      | 34 :: _ => some (4, t.take (runLen (fun x => !(x == 34) && !(x == 10)) t), runLen (fun x => !(x == 34) && !(x == 10)) t + 2)
      | _ => none)
    else if c = 35 then
      (if beginsL [35, 105, 110, 99, 108, 117, 100, 101] r && !goesOn (r.drop 8) then some (5, [35, 105, 110, 99, 108, 117, 100, 101], 8)
      else if beginsL [35, 100, 101, 102, 105, 110, 101] r && !goesOn (r.drop 7) then some (5, [35, 100, 101, 102, 105, 110, 101], 7)
      else none)
    else if signL r = 0 then none else some (3, r.take (signL r), signL r)

/-! ### Where a byte stands in what is left -/
theorem drop_at (s : ByteArray) (k : Nat) (h : k < s.size) : s.data.toList.drop k = s[k]'h :: s.data.toList.drop (k + 1) := by
  have hl : k < s.data.toList.length := by rw [Array.length_toList]; exact h
  rw [List.drop_eq_getElem_cons hl]
  rfl
theorem drop_end (s : ByteArray) (k : Nat) (h : s.size ≤ k) : s.data.toList.drop k = [] := List.drop_eq_nil_of_le (by rw [Array.length_toList]; exact h)
theorem run_le (p : UInt8 → Bool) : ∀ r : List UInt8, runLen p r ≤ r.length
  | [] => Nat.le_refl _
  | c :: r => by
    rw [runLen]
    split
    · have := run_le p r
      rw [List.length_cons]
      omega
    · exact Nat.zero_le _
theorem take_str (s : ByteArray) (i k : Nat) : s.extract i k = strOf ((s.data.toList.drop i).take (k - i)) := Go.Lib.extract_eq s i k

end Go.Proofs.YtdjhpgpekomjeaaGreatDoor

/- What the document's own tests of letters and digits give. -/
namespace Go.Proofs.YtdjhpgpekomjeaaGreatDoor
open Go.RowKit

/-- A value, and nothing turns. -/
def Plainly (v : Value) (w : World) : Ending → World → Prop := fun r w' => r = .returned v ∧ w = w'
/-- A value; the memory stands. -/
def Quietly (v : Value) (w : World) : Ending → World → Prop := fun r w' => r = .returned v ∧ Below w.heap.size w w'
theorem to_quiet {P : Program} {f : Nat} {vs : Array Value} {v : Value} {w : World} (h : Calls P f vs w (Plainly v w)) : Calls P f vs w (Quietly v w) := h.mono fun _ _ ⟨h1, h2⟩ => ⟨h1, h2 ▸ Below.refl _ _⟩

theorem digit_any (c : UInt8) (w : World) : Calls Tryz.prog 32 #[.int .u8 (c.toNat : Int)] w (Plainly (.bool (digB c)) w) := by
  cases h0 : decide (48 ≤ (c.toNat : Int))
  · have e0 : ¬ 48 ≤ (c.toNat : Int) := of_decide_eq_false h0
    go_enter Tryz.func32, Tryz.ntmps32
    go_wp2
    go_ret
    exact ⟨by rw [digB, h0]; rfl, rfl⟩
  · have e0 : 48 ≤ (c.toNat : Int) := of_decide_eq_true h0
    go_enter Tryz.func32, Tryz.ntmps32
    go_wp2
    go_ret
    exact ⟨by rw [digB, h0]; rfl, rfl⟩

set_option maxRecDepth 100000 in
set_option maxHeartbeats 2000000 in
theorem letter_any (c : UInt8) (w : World) : Calls Tryz.prog 31 #[.int .u8 (c.toNat : Int)] w (Plainly (.bool (letterB c)) w) := by
  by_cases h : letterB c = true
  · rw [h]
    have hp : (97 ≤ (c.toNat : Int) ∧ (c.toNat : Int) ≤ 122) ∨ (65 ≤ (c.toNat : Int) ∧ (c.toNat : Int) ≤ 90) ∨ (c.toNat : Int) = 95 := by
      simpa [letterB] using h
    clear h
    obtain ⟨n, hn⟩ : ∃ n : Int, n = (c.toNat : Int) := ⟨_, rfl⟩
    rw [← hn] at hp ⊢
    clear hn
    rcases hp with ⟨h1, h2⟩ | ⟨h1, h2⟩ | h1
    · go_enter Tryz.func31, Tryz.ntmps31
      go_wp2
      go_ret
      exact ⟨rfl, rfl⟩
    · have e1 : decide (97 ≤ n) = false := decide_eq_false (by omega)
      go_enter Tryz.func31, Tryz.ntmps31
      go_wp2
      go_ret
      exact ⟨rfl, rfl⟩
    · subst h1
      go_enter Tryz.func31, Tryz.ntmps31
      go_wp2
      go_ret
      exact ⟨rfl, rfl⟩
  · have hf : letterB c = false := by simpa using h
    rw [hf]
    have hp : ¬ ((97 ≤ (c.toNat : Int) ∧ (c.toNat : Int) ≤ 122) ∨ (65 ≤ (c.toNat : Int) ∧ (c.toNat : Int) ≤ 90) ∨ (c.toNat : Int) = 95) := by
      intro hp
      refine h ?_
      simpa [letterB] using hp
    clear h hf
    obtain ⟨n, hn⟩ : ∃ n : Int, n = (c.toNat : Int) := ⟨_, rfl⟩
    rw [← hn] at hp ⊢
    clear hn
    have b5 : (n == 95) = false := by rw [beq_eq_false_iff_ne]; omega
    by_cases h1 : 97 ≤ n
    · have e2 : decide (n ≤ 122) = false := decide_eq_false (by omega)
      have e3 : 65 ≤ n := by omega
      have e4 : decide (n ≤ 90) = false := decide_eq_false (by omega)
      clear hp
      go_enter Tryz.func31, Tryz.ntmps31
      go_wp2
      go_ret
      exact ⟨rfl, rfl⟩
    · have e1 : decide (97 ≤ n) = false := decide_eq_false h1
      by_cases h2 : 65 ≤ n
      · have e4 : decide (n ≤ 90) = false := decide_eq_false (by omega)
        clear hp
        go_enter Tryz.func31, Tryz.ntmps31
        go_wp2
        go_ret
        exact ⟨rfl, rfl⟩
      · have e3 : decide (65 ≤ n) = false := decide_eq_false h2
        clear hp
        go_enter Tryz.func31, Tryz.ntmps31
        go_wp2
        go_ret
        exact ⟨rfl, rfl⟩

end Go.Proofs.YtdjhpgpekomjeaaGreatDoor

/- What the document's own tests of bytes and signs give. -/
namespace Go.Proofs.YtdjhpgpekomjeaaGreatDoor
open Go.RowKit

set_option maxRecDepth 100000 in
set_option maxHeartbeats 2000000 in
theorem hex_any (c : UInt8) (w : World) : Calls Tryz.prog 43 #[.int .u8 (c.toNat : Int)] w (Plainly (.int .i64 (hexOf c)) w) := by
  have HD : Hid (∀ W : World, Calls Tryz.prog 32 #[.int .u8 (c.toNat : Int)] W (Plainly (.bool (digB c)) W)) := digit_any c
  have hlt := byte_lt c
  by_cases hd : digB c = true
  · have hv : hexOf c = (c.toNat : Int) - 48 := by unfold hexOf; rw [if_pos hd]
    have hb : 48 ≤ (c.toNat : Int) ∧ (c.toNat : Int) ≤ 57 := by simpa [digB] using hd
    rw [hv]
    rw [hd] at HD
    clear hv hd
    obtain ⟨h1, h2⟩ := hb
    have n1 : ((c.toNat : Int) - 48) % 256 = (c.toNat : Int) - 48 := by omega
    go_enter Tryz.func43, Tryz.ntmps43
    go_wp2_with fail
    refine (HD.out _).mono ?_
    rintro r w1 ⟨rfl, rfl⟩
    go_wp2
    go_ret
    exact ⟨by first | rfl | simp [n1], rfl⟩
  · have hdf : digB c = false := by simpa using hd
    rw [hdf] at HD
    by_cases ha : 97 ≤ (c.toNat : Int) ∧ (c.toNat : Int) ≤ 102
    · have hv : hexOf c = (c.toNat : Int) - 87 := by unfold hexOf; rw [if_neg hd, if_pos ha]
      rw [hv]
      clear hv hd hdf
      obtain ⟨h1, h2⟩ := ha
      have n1 : ((c.toNat : Int) - 97) % 256 = (c.toNat : Int) - 97 := by omega
      go_enter Tryz.func43, Tryz.ntmps43
      go_wp2_with fail
      refine (HD.out _).mono ?_
      rintro r w1 ⟨rfl, rfl⟩
      go_wp2
      go_ret
      refine ⟨?_, rfl⟩
      simp only [List.getElem?_toArray, Array.getD_eq_getD_getElem?, List.getElem?_cons_succ, List.getElem?_cons_zero, Option.getD_some]
      congr 2
      omega
    · by_cases hA : 65 ≤ (c.toNat : Int) ∧ (c.toNat : Int) ≤ 70
      · have hv : hexOf c = (c.toNat : Int) - 55 := by unfold hexOf; rw [if_neg hd, if_neg ha, if_pos hA]
        rw [hv]
        obtain ⟨h1, h2⟩ := hA
        have e1 : decide (97 ≤ (c.toNat : Int)) = false := decide_eq_false (by omega)
        have n1 : ((c.toNat : Int) - 65) % 256 = (c.toNat : Int) - 65 := by omega
        clear hv hd hdf ha
        go_enter Tryz.func43, Tryz.ntmps43
        go_wp2_with fail
        refine (HD.out _).mono ?_
        rintro r w1 ⟨rfl, rfl⟩
        go_wp2
        go_ret
        refine ⟨?_, rfl⟩
        simp only [List.getElem?_toArray, Array.getD_eq_getD_getElem?, List.getElem?_cons_succ, List.getElem?_cons_zero, Option.getD_some]
        congr 2
        omega
      · have hv : hexOf c = -1 := by unfold hexOf; rw [if_neg hd, if_neg ha, if_neg hA]
        rw [hv]
        clear hv hd hdf
        by_cases h1 : 97 ≤ (c.toNat : Int)
        · have e2 : decide ((c.toNat : Int) ≤ 102) = false := decide_eq_false (by omega)
          have e3 : 65 ≤ (c.toNat : Int) := by omega
          have e4 : decide ((c.toNat : Int) ≤ 70) = false := decide_eq_false (by omega)
          clear ha hA
          go_enter Tryz.func43, Tryz.ntmps43
          go_wp2_with fail
          refine (HD.out _).mono ?_
          rintro r w1 ⟨rfl, rfl⟩
          go_wp2
          go_ret
          exact ⟨rfl, rfl⟩
        · have e1 : decide (97 ≤ (c.toNat : Int)) = false := decide_eq_false h1
          by_cases h2 : 65 ≤ (c.toNat : Int)
          · have e4 : decide ((c.toNat : Int) ≤ 70) = false := decide_eq_false (by omega)
            clear ha hA
            go_enter Tryz.func43, Tryz.ntmps43
            go_wp2_with fail
            refine (HD.out _).mono ?_
            rintro r w1 ⟨rfl, rfl⟩
            go_wp2
            go_ret
            exact ⟨rfl, rfl⟩
          · have e3 : decide (65 ≤ (c.toNat : Int)) = false := decide_eq_false h2
            clear ha hA
            go_enter Tryz.func43, Tryz.ntmps43
            go_wp2_with fail
            refine (HD.out _).mono ?_
            rintro r w1 ⟨rfl, rfl⟩
            go_wp2
            go_ret
            exact ⟨rfl, rfl⟩

theorem begins_any (s t : ByteArray) (i : Nat) (w : World) (hi : i ≤ 1099511627776) (hs : s.size ≤ 1099511627776) (ht : t.size ≤ 1000) (ht1 : 1 ≤ t.size) :
    Calls Tryz.prog 30 #[.string s, .int .i64 i, .string t] w (Plainly (.bool (beginsL t.data.toList (s.data.toList.drop i))) w) := by
  have htl : t.data.toList.length = t.size := by rw [Array.length_toList]; rfl
  by_cases h : i + t.size ≤ s.size
  · have h1 : (i : Int) + (t.size : Int) ≤ (s.size : Int) := by omega
    have n1 : ((i : Int) + (t.size : Int)).toNat = i + t.size := by omega
    have n2 : (0 : Int) ≤ (i : Int) + (t.size : Int) := by omega
    have n3 : (i : Int) ≤ (i : Int) + (t.size : Int) := by omega
    have HE : Hid (((s.extract i (i + t.size)).toList == t.toList) = beginsL t.data.toList (s.data.toList.drop i)) := by
      unfold Hid beginsL
      rw [take_str, strOf_toList, ByteArray.toList_eq, Nat.add_sub_cancel_left, htl]
    go_enter Tryz.func30, Tryz.ntmps30
    go_wp2
    go_ret
    exact ⟨by rw [← HE.out]; rfl, rfl⟩
  · have h1 : ¬ (i : Int) + (t.size : Int) ≤ (s.size : Int) := by omega
    have h1' : decide ((i : Int) + (t.size : Int) ≤ (s.size : Int)) = false := decide_eq_false h1
    have hv : beginsL t.data.toList (s.data.toList.drop i) = false := by
      unfold beginsL
      rw [beq_eq_false_iff_ne]
      intro e
      have := congrArg List.length e
      rw [List.length_take, List.length_drop, htl, Array.length_toList] at this
      have hss : s.data.size = s.size := rfl
      omega
    rw [hv]
    clear hv h
    go_enter Tryz.func30, Tryz.ntmps30
    go_wp2
    go_ret
    exact ⟨rfl, rfl⟩

end Go.Proofs.YtdjhpgpekomjeaaGreatDoor
