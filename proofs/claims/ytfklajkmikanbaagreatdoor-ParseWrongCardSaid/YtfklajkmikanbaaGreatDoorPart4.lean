/- Texts of mine put together (a claim has at most so many files): ParPlain, Letters, TokBytes. -/
import Derived.Test.YtfklajkmikanbaaGreatDoorPart3
import Derived.Test.YtfklajkmikanbaaGreatDoorPart2
import Derived.Test.YtfklajkmikanbaaGreatDoorChecked
import Derived.Lib.Hide
import Derived.BigQuiet
/- What tokens say: plain functions of the document's chapter 12, by fuel, so that they reckon. No program. -/
namespace Go.Proofs.YtfklajkmikanbaaGreatDoor
open Go.RowKit

/-- A token, as it came in. -/
structure Tk where
  kind : Int
  text : ByteArray
  file : Int
  re : Nat
  im : Nat
def Tk.cells (t : Tk) : List Value := [.int .i64 t.kind, .string t.text, .int .i64 t.file, .complex .f64 t.re t.im]

/-- What is read, and behind it; or the error's number, and at which token. -/
abbrev Rd (α : Type) := Except (Int × Nat) (α × Nat)

def Rd.then {α β : Type} (x : Rd α) (f : α → Nat → Rd β) : Rd β := match x with
  | .ok (a, n) => f a n
  | .error e => .error e
theorem Rd.then_ok {α β : Type} (a : α) (n : Nat) (f : α → Nat → Rd β) : Rd.then (.ok (a, n)) f = f a n := rfl
theorem Rd.then_error {α β : Type} (e : Int × Nat) (f : α → Nat → Rd β) : Rd.then (.error e : Rd α) f = .error e := rfl

section
variable (L : List Tk)
def isTk (n : Nat) (kind : Int) (s : List UInt8) : Bool := match L[n]? with
  | some t => t.kind == kind && t.text.toList == s
  | none => false
/-- A sign. -/
def sgP (n : Nat) (s : List UInt8) : Bool := isTk L n 3 s
/-- A word. -/
def wdP (n : Nat) (s : List UInt8) : Bool := isTk L n 1 s
def needP (n : Nat) (s : List UInt8) : Rd Unit := if sgP L n s = true then .ok ((), n + 1) else .error (3, n)
def nameP (n : Nat) : Rd ByteArray := match L[n]? with
  | some t => if (t.kind == 1 && nameOk t.text) = true then .ok (t.text, n + 1) else .error (3, n)
  | none => .error (3, n)
/-- The number that the next token is. -/
def numbP (n : Nat) : Option Nat := match L[n]? with
  | some t => if t.kind = 2 then (match numL t.text.data.toList with
    | some (v, k) => if k = t.text.size then some v else none
    | none => none) else none
  | none => none
def leafN (v : Nat) : Ex := .node 7 ⟨#[]⟩ ⟨#[]⟩ (v : Int) none 0 []
def leafS (s : ByteArray) : Ex := .node 5 ⟨#[]⟩ s 0 none 0 []
def pairE (kd : Int) (a b : Ex) : Ex := .node kd ⟨#[]⟩ ⟨#[]⟩ 0 none 0 [a, b]
def primP (n : Nat) : Rd Ex := match numbP L n with
  | some v => .ok (leafN v, n + 1)
  | none => (nameP L n).then fun s m => .ok (leafS s, m)
/-- What is read so, again and again, with a sign between: from the left. -/
def chainP (sub : Nat → Rd Ex) (s : List UInt8) (kd : Int) : Nat → Ex → Nat → Rd Ex
  | 0, e, n => .ok (e, n)
  | f + 1, e, n => if sgP L n s = true then (sub (n + 1)).then fun x m => chainP sub s kd f (pairE kd e x) m else .ok (e, n)
def numberP (n : Nat) : Rd Ex := (primP L n).then fun e m => chainP L (primP L) [124] 8 L.length e m
def andP (nt : Nat → Rd Ex) (n : Nat) : Rd Ex := (nt n).then fun e m => chainP L nt [38, 38] 2 L.length e m
def orP (nt : Nat → Rd Ex) (n : Nat) : Rd Ex := (andP L nt n).then fun e m => chainP L (andP L nt) [124, 124] 1 L.length e m
def opsL : List (List UInt8) := [[61, 61], [33, 61], [60], [60, 61], [62], [62, 61]]
/-- The first of the signs that comes next. -/
def opP (n : Nat) : List (List UInt8) → Option (List UInt8)
  | [] => none
  | s :: r => if sgP L n s = true then some s else opP n r
def comparedP (n : Nat) : Rd Ex := (nameP L n).then fun s m =>
  if sgP L m [38] = true then (primP L (m + 1)).then fun x k => .ok (.node 6 ⟨#[]⟩ s 0 none 0 [x], k) else .ok (leafS s, m)
def compareP (n : Nat) : Rd Ex := (comparedP L n).then fun a m => match opP L m opsL with
  | some s => (numberP L (m + 1)).then fun x k => .ok (.node 4 (strOf s) ⟨#[]⟩ 0 none 0 [a, x], k)
  | none => .error (3, m)
def notP : Nat → Nat → Rd Ex
  | 0, n => .error (3, n)
  | f + 1, n =>
    if sgP L n [33] = true then (notP f (n + 1)).then fun x m => .ok (.node 3 ⟨#[]⟩ ⟨#[]⟩ 0 none 0 [x], m)
    else if sgP L n [40] = true then (orP L (notP f) (n + 1)).then fun x m => (needP L m [41]).then fun _ k => .ok (x, k)
    else compareP L n
def condP (n : Nat) : Rd Ex := orP L (notP L (L.length + 1)) n

/-- Names, with ',' between. -/
def moreP : Nat → List ByteArray → Nat → Rd (List ByteArray)
  | 0, l, n => .ok (l, n)
  | f + 1, l, n => if sgP L n [44] = true then (nameP L (n + 1)).then fun s m => moreP f (l ++ [s]) m else .ok (l, n)
def namesP (n : Nat) : Rd (List ByteArray) := (nameP L n).then fun s m => moreP L L.length [s] m

def actsL : List (List UInt8) := [[75, 73, 76, 76, 95, 80, 82, 79, 67, 69, 83, 83], [75, 73, 76, 76], [84, 82, 65, 80], [69, 82, 82, 78, 79], [84, 82, 65, 67, 69], [76, 79, 71], [65, 76, 76, 79, 87]]
def actOf (s : List UInt8) : List (List UInt8) → Int → Int
  | [], _ => 0
  | a :: r, k => if a = s then k else actOf s r (k + 1)
def actionP (n : Nat) : Rd (Int × Int) := match L[n]? with
  | some t =>
    if t.kind = 1 ∧ 0 < actOf t.text.toList actsL 1 then
      (if actOf t.text.toList actsL 1 < 3 ∨ 5 < actOf t.text.toList actsL 1 then .ok ((actOf t.text.toList actsL 1, 0), n + 1)
      else (needP L (n + 1) [40]).then fun _ m => match numbP L m with
        | some v => if v ≤ 65535 then (needP L (m + 1) [41]).then fun _ k => .ok ((actOf t.text.toList actsL 1, (v : Int)), k) else .error (3, m)
        | none => .error (3, m))
    else .error (3, n)
  | none => .error (3, n)

def paramsP (n : Nat) : Rd (List ByteArray) :=
  if sgP L n [40] = true then (if sgP L (n + 1) [41] = true then .ok ([], n + 2) else (namesP L (n + 1)).then fun l m => (needP L m [41]).then fun _ k => .ok (l, k)) else .ok ([], n)
def braceP (n : Nat) : Rd (List Ex) :=
  if sgP L n [123] = true then (condP L (n + 1)).then fun e m => if 30 < depthOf e then .error (6, n) else (needP L m [125]).then fun _ k => .ok ([e], k) else .ok ([], n)
def ruleP (n : Nat) : Rd Rul := (nameP L n).then fun s m => (paramsP L m).then fun l k => (braceP L k).then fun c j => .ok (⟨s, none, 0, l, none, 0, c⟩, j)
/-- Things with ',' or nothing between, up to '}'. -/
def manyP {α : Type} (sub : Nat → Rd α) : Nat → List α → Nat → Rd (List α)
  | 0, _, n => .error (3, n)
  | f + 1, l, n => (sub n).then fun x m => if sgP L m [44] = true then manyP sub f (l ++ [x]) (m + 1) else if sgP L m [125] = true then .ok (l ++ [x], m + 1) else manyP sub f (l ++ [x]) m
def listP {α : Type} (sub : Nat → Rd α) (n : Nat) : Rd (List α) := (needP L n [123]).then fun _ m => if sgP L m [125] = true then .ok ([], m + 1) else manyP L sub (L.length + 1) [] m
def useL : List UInt8 := [85, 83, 69]
def partP (n : Nat) : Rd Par :=
  if wdP L n useL = true then (nameP L (n + 1)).then fun s m => .ok (⟨s, 0, 0, none, 0, []⟩, m)
  else (actionP L n).then fun a m => (listP L (ruleP L) m).then fun l k => .ok (⟨⟨#[]⟩, a.1, a.2, none, 0, l⟩, k)
def policyP (n : Nat) : Rd Pol := (nameP L n).then fun s m => (listP L (partP L) m).then fun l k => .ok (⟨s, none, 0, l⟩, k)
def defineL : List UInt8 := [35, 100, 101, 102, 105, 110, 101]
def policyL : List UInt8 := [80, 79, 76, 73, 67, 89]
def defaultL : List UInt8 := [68, 69, 70, 65, 85, 76, 84]
def emptyU : Unt := ⟨none, 0, [], none, 0, [], none, 0, [], 0, 0⟩
/-- The unit so far, and how many USE .. DEFAULT there were. -/
def unitP : Nat → Unt → Nat → Nat → Rd (Unt × Nat)
  | 0, u, k, n => .ok ((u, k), n)
  | f + 1, u, k, n =>
    if L.length ≤ n then .ok ((u, k), n)
    else if isTk L n 5 defineL = true then (nameP L (n + 1)).then fun s m => (numberP L m).then fun e j => unitP f { u with defs := u.defs ++ [⟨s, e⟩] } k j
    else if wdP L n policyL = true then (policyP L (n + 1)).then fun p m => unitP f { u with pols := u.pols ++ [p] } k m
    else if wdP L n useL = true then (namesP L (n + 1)).then fun l m => if wdP L m defaultL = true then (actionP L (m + 1)).then fun a j => if 1 ≤ k then .error (11, n) else unitP f { u with main := l, kind := a.1, data := a.2 } (k + 1) j else .error (3, m)
    else .error (3, n)
def parseP : Except (Int × Nat) Unt := match unitP L (L.length + 1) emptyU 0 0 with
  | .ok ((u, k), n) => if k = 0 then .error (11, n) else .ok u
  | .error e => .error e
end

/-! ### Where things lie is left aside -/
mutual
def Ex.bare : Ex → Ex
  | .node kd op nm nu _ _ ks => .node kd op nm nu none 0 (baresE ks)
def baresE : List Ex → List Ex
  | [] => []
  | k :: r => k.bare :: baresE r
end
theorem bares_map : ∀ l : List Ex, baresE l = l.map Ex.bare
  | [] => by unfold baresE; rfl
  | k :: r => by unfold baresE; rw [bares_map r]; rfl
def Rul.bare (r : Rul) : Rul := ⟨r.call, none, 0, r.params, none, 0, r.cond.map Ex.bare⟩
def Par.bare (p : Par) : Par := ⟨p.use, p.kind, p.data, none, 0, p.rules.map Rul.bare⟩
def Pol.bare (p : Pol) : Pol := ⟨p.name, none, 0, p.parts.map Par.bare⟩
def Dfn.bare (d : Dfn) : Dfn := ⟨d.name, d.ex.bare⟩
def Unt.bare (u : Unt) : Unt := ⟨none, 0, u.defs.map Dfn.bare, none, 0, u.pols.map Pol.bare, none, 0, u.main, u.kind, u.data⟩

end Go.Proofs.YtfklajkmikanbaaGreatDoor

/- What the document's own tests of letters and digits give. -/
namespace Go.Proofs.YtfklajkmikanbaaGreatDoor
open Go.RowKit

/-- A value, and nothing turns. -/
def Plainly (v : Value) (w : World) : Ending → World → Prop := fun r w' => r = .returned v ∧ w = w'
/-- A value; the memory stands. -/
def Quietly (v : Value) (w : World) : Ending → World → Prop := fun r w' => r = .returned v ∧ Below w.heap.size w w'
theorem to_quiet {P : Program} {f : Nat} {vs : Array Value} {v : Value} {w : World} (h : Calls P f vs w (Plainly v w)) : Calls P f vs w (Quietly v w) := h.mono fun _ _ ⟨h1, h2⟩ => ⟨h1, h2 ▸ Below.refl _ _⟩

theorem digit_any (c : UInt8) (w : World) : Calls Tryz.prog 23 #[.int .u8 (c.toNat : Int)] w (Plainly (.bool (digB c)) w) := by
  cases h0 : decide (48 ≤ (c.toNat : Int))
  · have e0 : ¬ 48 ≤ (c.toNat : Int) := of_decide_eq_false h0
    go_enter Tryz.func23, Tryz.ntmps23
    go_wp2
    go_ret
    exact ⟨by rw [digB, h0]; rfl, rfl⟩
  · have e0 : 48 ≤ (c.toNat : Int) := of_decide_eq_true h0
    go_enter Tryz.func23, Tryz.ntmps23
    go_wp2
    go_ret
    exact ⟨by rw [digB, h0]; rfl, rfl⟩

set_option maxRecDepth 100000 in
set_option maxHeartbeats 2000000 in
theorem letter_any (c : UInt8) (w : World) : Calls Tryz.prog 22 #[.int .u8 (c.toNat : Int)] w (Plainly (.bool (letterB c)) w) := by
  by_cases h : letterB c = true
  · rw [h]
    have hp : (97 ≤ (c.toNat : Int) ∧ (c.toNat : Int) ≤ 122) ∨ (65 ≤ (c.toNat : Int) ∧ (c.toNat : Int) ≤ 90) ∨ (c.toNat : Int) = 95 := by
      simpa [letterB] using h
    clear h
    obtain ⟨n, hn⟩ : ∃ n : Int, n = (c.toNat : Int) := ⟨_, rfl⟩
    rw [← hn] at hp ⊢
    clear hn
    rcases hp with ⟨h1, h2⟩ | ⟨h1, h2⟩ | h1
    · go_enter Tryz.func22, Tryz.ntmps22
      go_wp2
      go_ret
      exact ⟨rfl, rfl⟩
    · have e1 : decide (97 ≤ n) = false := decide_eq_false (by omega)
      go_enter Tryz.func22, Tryz.ntmps22
      go_wp2
      go_ret
      exact ⟨rfl, rfl⟩
    · subst h1
      go_enter Tryz.func22, Tryz.ntmps22
      go_wp2
      go_ret
      exact ⟨rfl, rfl⟩
  · have hf : letterB c = false := by simpa using h
    rw [hf]
    have hp : ¬ ((97 ≤ (c.toNat : Int) ∧ (c.toNat : Int) ≤ 122) ∨ (65 ≤ (c.toNat : Int) ∧ (c.toNat : Int) ≤ 90) ∨ (c.toNat : Int) = 95) := by
      intro hp
      refine h ?_
      simpa [letterB] using hp
    clear h hf
    obtain ⟨n, hn⟩ : ∃ n : Int, n = (c.toNat : Int) := ⟨_, rfl⟩
    rw [← hn] at hp ⊢
    clear hn
    have b5 : (n == 95) = false := by rw [beq_eq_false_iff_ne]; omega
    by_cases h1 : 97 ≤ n
    · have e2 : decide (n ≤ 122) = false := decide_eq_false (by omega)
      have e3 : 65 ≤ n := by omega
      have e4 : decide (n ≤ 90) = false := decide_eq_false (by omega)
      clear hp
      go_enter Tryz.func22, Tryz.ntmps22
      go_wp2
      go_ret
      exact ⟨rfl, rfl⟩
    · have e1 : decide (97 ≤ n) = false := decide_eq_false h1
      by_cases h2 : 65 ≤ n
      · have e4 : decide (n ≤ 90) = false := decide_eq_false (by omega)
        clear hp
        go_enter Tryz.func22, Tryz.ntmps22
        go_wp2
        go_ret
        exact ⟨rfl, rfl⟩
      · have e3 : decide (65 ≤ n) = false := decide_eq_false h2
        clear hp
        go_enter Tryz.func22, Tryz.ntmps22
        go_wp2
        go_ret
        exact ⟨rfl, rfl⟩

end Go.Proofs.YtfklajkmikanbaaGreatDoor

/- What the document's own tests of bytes and signs give. -/
namespace Go.Proofs.YtfklajkmikanbaaGreatDoor
open Go.RowKit

set_option maxRecDepth 100000 in
set_option maxHeartbeats 2000000 in
theorem hex_any (c : UInt8) (w : World) : Calls Tryz.prog 30 #[.int .u8 (c.toNat : Int)] w (Plainly (.int .i64 (hexOf c)) w) := by
  have HD : Hid (∀ W : World, Calls Tryz.prog 23 #[.int .u8 (c.toNat : Int)] W (Plainly (.bool (digB c)) W)) := digit_any c
  have hlt := byte_lt c
  by_cases hd : digB c = true
  · have hv : hexOf c = (c.toNat : Int) - 48 := by unfold hexOf; rw [if_pos hd]
    have hb : 48 ≤ (c.toNat : Int) ∧ (c.toNat : Int) ≤ 57 := by simpa [digB] using hd
    rw [hv]
    rw [hd] at HD
    clear hv hd
    obtain ⟨h1, h2⟩ := hb
    have n1 : ((c.toNat : Int) - 48) % 256 = (c.toNat : Int) - 48 := by omega
    go_enter Tryz.func30, Tryz.ntmps30
    go_wp2_with fail
    refine (HD.out _).mono ?_
    rintro r w1 ⟨rfl, rfl⟩
    go_wp2
    go_ret
    exact ⟨by first | rfl | simp [n1], rfl⟩
  · have hdf : digB c = false := by simpa using hd
    rw [hdf] at HD
    by_cases ha : 97 ≤ (c.toNat : Int) ∧ (c.toNat : Int) ≤ 102
    · have hv : hexOf c = (c.toNat : Int) - 87 := by unfold hexOf; rw [if_neg hd, if_pos ha]
      rw [hv]
      clear hv hd hdf
      obtain ⟨h1, h2⟩ := ha
      have n1 : ((c.toNat : Int) - 97) % 256 = (c.toNat : Int) - 97 := by omega
      go_enter Tryz.func30, Tryz.ntmps30
      go_wp2_with fail
      refine (HD.out _).mono ?_
      rintro r w1 ⟨rfl, rfl⟩
      go_wp2
      go_ret
      refine ⟨?_, rfl⟩
      simp only [List.getElem?_toArray, Array.getD_eq_getD_getElem?, List.getElem?_cons_succ, List.getElem?_cons_zero, Option.getD_some]
      congr 2
      omega
    · by_cases hA : 65 ≤ (c.toNat : Int) ∧ (c.toNat : Int) ≤ 70
      · have hv : hexOf c = (c.toNat : Int) - 55 := by unfold hexOf; rw [if_neg hd, if_neg ha, if_pos hA]
        rw [hv]
        obtain ⟨h1, h2⟩ := hA
        have e1 : decide (97 ≤ (c.toNat : Int)) = false := decide_eq_false (by omega)
        have n1 : ((c.toNat : Int) - 65) % 256 = (c.toNat : Int) - 65 := by omega
        clear hv hd hdf ha
        go_enter Tryz.func30, Tryz.ntmps30
        go_wp2_with fail
        refine (HD.out _).mono ?_
        rintro r w1 ⟨rfl, rfl⟩
        go_wp2
        go_ret
        refine ⟨?_, rfl⟩
        simp only [List.getElem?_toArray, Array.getD_eq_getD_getElem?, List.getElem?_cons_succ, List.getElem?_cons_zero, Option.getD_some]
        congr 2
        omega
      · have hv : hexOf c = -1 := by unfold hexOf; rw [if_neg hd, if_neg ha, if_neg hA]
        rw [hv]
        clear hv hd hdf
        by_cases h1 : 97 ≤ (c.toNat : Int)
        · have e2 : decide ((c.toNat : Int) ≤ 102) = false := decide_eq_false (by omega)
          have e3 : 65 ≤ (c.toNat : Int) := by omega
          have e4 : decide ((c.toNat : Int) ≤ 70) = false := decide_eq_false (by omega)
          clear ha hA
          go_enter Tryz.func30, Tryz.ntmps30
          go_wp2_with fail
          refine (HD.out _).mono ?_
          rintro r w1 ⟨rfl, rfl⟩
          go_wp2
          go_ret
          exact ⟨rfl, rfl⟩
        · have e1 : decide (97 ≤ (c.toNat : Int)) = false := decide_eq_false h1
          by_cases h2 : 65 ≤ (c.toNat : Int)
          · have e4 : decide ((c.toNat : Int) ≤ 70) = false := decide_eq_false (by omega)
            clear ha hA
            go_enter Tryz.func30, Tryz.ntmps30
            go_wp2_with fail
            refine (HD.out _).mono ?_
            rintro r w1 ⟨rfl, rfl⟩
            go_wp2
            go_ret
            exact ⟨rfl, rfl⟩
          · have e3 : decide (65 ≤ (c.toNat : Int)) = false := decide_eq_false h2
            clear ha hA
            go_enter Tryz.func30, Tryz.ntmps30
            go_wp2_with fail
            refine (HD.out _).mono ?_
            rintro r w1 ⟨rfl, rfl⟩
            go_wp2
            go_ret
            exact ⟨rfl, rfl⟩

theorem begins_any (s t : ByteArray) (i : Nat) (w : World) (hi : i ≤ 1099511627776) (hs : s.size ≤ 1099511627776) (ht : t.size ≤ 1000) (ht1 : 1 ≤ t.size) :
    Calls Tryz.prog 21 #[.string s, .int .i64 i, .string t] w (Plainly (.bool (beginsL t.data.toList (s.data.toList.drop i))) w) := by
  have htl : t.data.toList.length = t.size := by rw [Array.length_toList]; rfl
  by_cases h : i + t.size ≤ s.size
  · have h1 : (i : Int) + (t.size : Int) ≤ (s.size : Int) := by omega
    have n1 : ((i : Int) + (t.size : Int)).toNat = i + t.size := by omega
    have n2 : (0 : Int) ≤ (i : Int) + (t.size : Int) := by omega
    have n3 : (i : Int) ≤ (i : Int) + (t.size : Int) := by omega
    have HE : Hid (((s.extract i (i + t.size)).toList == t.toList) = beginsL t.data.toList (s.data.toList.drop i)) := by
      unfold Hid beginsL
      rw [take_str, strOf_toList, ByteArray.toList_eq, Nat.add_sub_cancel_left, htl]
    go_enter Tryz.func21, Tryz.ntmps21
    go_wp2
    go_ret
    exact ⟨by rw [← HE.out]; rfl, rfl⟩
  · have h1 : ¬ (i : Int) + (t.size : Int) ≤ (s.size : Int) := by omega
    have h1' : decide ((i : Int) + (t.size : Int) ≤ (s.size : Int)) = false := decide_eq_false h1
    have hv : beginsL t.data.toList (s.data.toList.drop i) = false := by
      unfold beginsL
      rw [beq_eq_false_iff_ne]
      intro e
      have := congrArg List.length e
      rw [List.length_take, List.length_drop, htl, Array.length_toList] at this
      have hss : s.data.size = s.size := rfl
      omega
    rw [hv]
    clear hv h
    go_enter Tryz.func21, Tryz.ntmps21
    go_wp2
    go_ret
    exact ⟨rfl, rfl⟩

end Go.Proofs.YtfklajkmikanbaaGreatDoor
