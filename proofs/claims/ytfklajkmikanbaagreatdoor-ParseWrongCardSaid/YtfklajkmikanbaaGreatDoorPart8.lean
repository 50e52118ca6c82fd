/- Texts of mine put together (a claim has at most so many files): ParLand, ParTake. -/
import Derived.Test.YtfklajkmikanbaaGreatDoorPart7
import Derived.Test.YtfklajkmikanbaaGreatDoorChecked
import Derived.Test.YtfklajkmikanbaaGreatDoorPart5
import Derived.Test.YtfklajkmikanbaaGreatDoorPart2
/- What the landed parser reads, as plain functions of the tokens that are left. No program. -/
namespace Go.Proofs.YtfklajkmikanbaaGreatDoor.LandedP
open Go.RowKit

/-- What is read, and what is left; or the fault's number, and the tokens from the faulty one on. -/
abbrev Rx (α : Type) := Except (Int × List Tk) (α × List Tk)

def isL (kind : Int) (s : List UInt8) : List Tk → Bool
  | [] => false
  | t :: _ => t.kind == kind && t.text.data.toList == s
def sgL (s : List UInt8) (R : List Tk) : Bool := isL 3 s R
/-- What is left behind a token that may be taken. -/
def restL (b : Bool) (R : List Tk) : List Tk := if b = true then R.tail else R
def nameH : List Tk → Option ByteArray
  | [] => none
  | t :: _ => if t.kind = 1 then (if nameOk t.text = true then some t.text else none) else none
def numH (most : Nat) : List Tk → Option Nat
  | [] => none
  | t :: _ => if t.kind = 2 then (match numV t.text.data.toList with
    | some v => if v ≤ most then some v else none
    | none => none) else none
def nameX (R : List Tk) : Rx ByteArray := match nameH R with
  | some s => .ok (s, R.tail)
  | none => .error (3, R)
def singleX (R : List Tk) : Rx Ex := match numH 18446744073709551615 R with
  | some v => .ok (leafN v, R.tail)
  | none => match nameH R with
    | some s => .ok (leafS s, R.tail)
    | none => .error (3, R)
def numLoop : Nat → Ex → List Tk → Rx Ex
  | 0, e, R => .ok (e, R)
  | f + 1, e, R => if sgL [124] R = true then (match singleX R.tail with
    | .error x => .error x
    | .ok (x, R') => numLoop f (pairE 8 e x) R') else .ok (e, R)
def numberX (R : List Tk) : Rx Ex := match singleX R with
  | .error x => .error x
  | .ok (e, R') => numLoop (R'.length + 1) e R'
def comparedX (R : List Tk) : Rx Ex := match nameH R with
  | none => .error (3, R)
  | some s => if sgL [38] R.tail = true then (match singleX R.tail.tail with
    | .error x => .error x
    | .ok (x, R') => .ok (.node 6 ⟨#[]⟩ s 0 none 0 [x], R')) else .ok (leafS s, R.tail)
def opH (R : List Tk) : List (List UInt8) → Option (List UInt8)
  | [] => none
  | s :: r => if sgL s R = true then some s else opH R r
def comparisonX (R : List Tk) : Rx Ex := match comparedX R with
  | .error x => .error x
  | .ok (a, R1) => match opH R1 opsL with
    | none => .error (3, R1)
    | some s => match numberX R1.tail with
      | .error x => .error x
      | .ok (b, R2) => .ok (.node 4 (strOf s) ⟨#[]⟩ 0 none 0 [a, b], R2)
def notsN : List Tk → Nat
  | [] => 0
  | t :: r => if sgL [33] (t :: r) = true then notsN r + 1 else 0
def notE (e : Ex) : Ex := .node 3 ⟨#[]⟩ ⟨#[]⟩ 0 none 0 [e]
def notsE : Nat → Ex → Ex
  | 0, e => e
  | n + 1, e => notsE n (notE e)

/-- A condition that is being read. -/
structure Lvl where
  oA : Option Addr
  oc : Nat
  or : List Ex
  aA : Option Addr
  ac : Nat
  and : List Ex
  nots : Nat
def Lvl.zero : Lvl := ⟨none, 0, [], none, 0, [], 0⟩
def Lvl.cells (x : Lvl) : List Value := [.slice x.oA x.or.length x.oc, .slice x.aA x.and.length x.ac, .int .i64 (x.nots : Int)]
def Lvl.val (x : Lvl) : Value := .agg #[.slice x.oA x.or.length x.oc, .slice x.aA x.and.length x.ac, .int .i64 (x.nots : Int)]
def joinedE (kd : Int) (ahead : List Ex) (e : Ex) : Ex := match ahead with
  | [] => e
  | a :: _ => pairE kd a e
def Lvl.ands (x : Lvl) (e : Ex) : Ex := joinedE 2 x.and (notsE x.nots e)
def Lvl.whole (x : Lvl) (e : Ex) : Ex := joinedE 1 x.or (x.ands e)

/-- Behind an operand: it goes on, it is done, or what comes does not fit. -/
inductive Clo where
  | goes (ar : List Lvl) (now : Lvl) (R : List Tk)
  | done (e : Ex) (R : List Tk)
  | bad (R : List Tk)
def goesX (x : Lvl) (e : Ex) (R : List Tk) : Option Lvl :=
  if sgL [38, 38] R = true then some ⟨none, 0, x.or, none, 0, [x.ands e], 0⟩
  else if sgL [124, 124] R = true then some ⟨none, 0, [x.whole e], none, 0, [], 0⟩
  else none
def closeX (ar : List Lvl) (now : Lvl) (e : Ex) (R : List Tk) : Clo := match goesX now e R with
  | some x => .goes ar x R.tail
  | none => match ar with
    | [] => .done (now.whole e) R
    | top :: ar' => if sgL [41] R = true then closeX ar' top (now.whole e) R.tail else .bad R
def eitherX : Nat → List Lvl → Lvl → List Tk → Rx Ex
  | 0, _, _, R => .error (3, R)
  | f + 1, ar, now, R =>
    if sgL [40] (R.drop (notsN R)) = true then eitherX f ({ now with nots := notsN R } :: ar) Lvl.zero (R.drop (notsN R)).tail
    else match comparisonX (R.drop (notsN R)) with
      | .error x => .error x
      | .ok (e, R2) => match closeX ar { now with nots := notsN R } e R2 with
        | .goes ar' now' R3 => eitherX f ar' now' R3
        | .done e' R3 => .ok (e', R3)
        | .bad R3 => .error (3, R3)
def condX (R : List Tk) : Rx (List Ex) :=
  if sgL [123] R = true then (match eitherX (R.tail.length + 1) [] Lvl.zero R.tail with
    | .error x => .error x
    | .ok (e, R1) => if 30 < depthOf e then .error (6, R) else if sgL [125] R1 = true then .ok ([e], R1.tail) else .error (3, R1))
  else .ok ([], R)

/-- Names, with ',' between. -/
def namesLoop : Nat → List ByteArray → List Tk → Rx (List ByteArray)
  | 0, _, R => .error (3, R)
  | f + 1, l, R => match nameH R with
    | none => .error (3, R)
    | some s => if sgL [44] R.tail = true then namesLoop f (l ++ [s]) R.tail.tail else .ok (l ++ [s], R.tail)
def namesX (R : List Tk) : Rx (List ByteArray) := namesLoop (R.length + 1) [] R
def paramsX (R : List Tk) : Rx (List ByteArray) :=
  if sgL [40] R = true then (if sgL [41] R.tail = true then .ok ([], R.tail.tail) else match namesX R.tail with
    | .error x => .error x
    | .ok (l, R1) => if sgL [41] R1 = true then .ok (l, R1.tail) else .error (3, R1))
  else .ok ([], R)
def ruleX (R : List Tk) : Rx Rul := match nameH R with
  | none => .error (3, R)
  | some s => match paramsX R.tail with
    | .error x => .error x
    | .ok (l, R1) => match condX R1 with
      | .error x => .error x
      | .ok (c, R2) => .ok (⟨s, none, 0, l, none, 0, c⟩, R2)
def dataX (kd : Int) (R : List Tk) : Rx (Int × Int) :=
  if sgL [40] R = true then (match numH 65535 R.tail with
    | none => .error (3, R.tail)
    | some v => if sgL [41] R.tail.tail = true then .ok ((kd, (v : Int)), R.tail.tail.tail) else .error (3, R.tail.tail))
  else .error (3, R)
def wALLOW : List UInt8 := [65, 76, 76, 79, 87]
def wLOG : List UInt8 := [76, 79, 71]
def wKILL : List UInt8 := [75, 73, 76, 76]
def wKILLP : List UInt8 := [75, 73, 76, 76, 95, 80, 82, 79, 67, 69, 83, 83]
def wTRAP : List UInt8 := [84, 82, 65, 80]
def wERRNO : List UInt8 := [69, 82, 82, 78, 79]
def wTRACE : List UInt8 := [84, 82, 65, 67, 69]
def actionX (R : List Tk) : Rx (Int × Int) :=
  if isL 1 wALLOW R = true then .ok ((7, 0), R.tail)
  else if isL 1 wLOG R = true then .ok ((6, 0), R.tail)
  else if isL 1 wKILL R = true then .ok ((2, 0), R.tail)
  else if isL 1 wKILLP R = true then .ok ((1, 0), R.tail)
  else if isL 1 wTRAP R = true then dataX 3 R.tail
  else if isL 1 wERRNO R = true then dataX 4 R.tail
  else if isL 1 wTRACE R = true then dataX 5 R.tail
  else .error (3, R)
/-- Things up to '}', with ',' or nothing between. -/
def bracedLoop {α : Type} (one : List Tk → Rx α) : Nat → List α → List Tk → Rx (List α)
  | 0, _, R => .error (3, R)
  | f + 1, l, R => if sgL [125] R = true then .ok (l, R.tail) else match one (restL (!l.isEmpty && sgL [44] R) R) with
    | .error x => .error x
    | .ok (x, R') => bracedLoop one f (l ++ [x]) R'
def bracedX {α : Type} (one : List Tk → Rx α) (R : List Tk) : Rx (List α) :=
  if sgL [123] R = true then bracedLoop one (R.length + 1) [] R.tail else .error (3, R)
def partX (R : List Tk) : Rx Par :=
  if isL 1 useL R = true then (match nameH R.tail with
    | none => .error (3, R.tail)
    | some s => .ok (⟨s, 0, 0, none, 0, []⟩, R.tail.tail))
  else match actionX R with
    | .error x => .error x
    | .ok (a, R1) => match bracedX ruleX R1 with
      | .error x => .error x
      | .ok (l, R2) => .ok (⟨⟨#[]⟩, a.1, a.2, none, 0, l⟩, R2)
def policyX (R : List Tk) : Rx Pol := match nameH R with
  | none => .error (3, R)
  | some s => match bracedX partX R.tail with
    | .error x => .error x
    | .ok (l, R1) => .ok (⟨s, none, 0, l⟩, R1)
def defineX (R : List Tk) : Rx Dfn := match nameH R with
  | none => .error (3, R)
  | some s => match numberX R.tail with
    | .error x => .error x
    | .ok (e, R1) => .ok (⟨s, e⟩, R1)
/-- What is used at last: R behind its USE, R0 there. -/
def mainX (u : Unt) (R0 R : List Tk) : Rx Unt := match namesX R with
  | .error x => .error x
  | .ok (l, R1) => if isL 1 defaultL R1 = true then (match actionX R1.tail with
    | .error x => .error x
    | .ok (a, R2) => if 0 < u.main.length then .error (11, R0) else .ok ({ u with main := l, kind := a.1, data := a.2 }, R2)) else .error (3, R1)
def itemX (u : Unt) (R : List Tk) : Rx Unt :=
  if isL 5 defineL R = true then (match defineX R.tail with
    | .error x => .error x
    | .ok (d, R1) => .ok ({ u with defs := u.defs ++ [d] }, R1))
  else if isL 1 policyL R = true then (match policyX R.tail with
    | .error x => .error x
    | .ok (p, R1) => .ok ({ u with pols := u.pols ++ [p] }, R1))
  else if isL 1 useL R = true then mainX u R R.tail
  else .error (3, R)
def unitLoop : Nat → Unt → List Tk → Except (Int × List Tk) Unt
  | 0, _, R => .error (3, R)
  | f + 1, u, R => if R.isEmpty = true then (if u.main.length = 0 then .error (11, R) else .ok u) else match itemX u R with
    | .error x => .error x
    | .ok (u', R') => unitLoop f u' R'
def parseX (R : List Tk) : Except (Int × List Tk) Unt := unitLoop (R.length + 1) emptyU R

/-! ### What is left is less -/
theorem isL_cons {kind : Int} {s : List UInt8} {R : List Tk} (h : isL kind s R = true) : ∃ t r, R = t :: r ∧ t.kind = kind ∧ t.text.data.toList = s := by
  cases R with
  | nil => cases h
  | cons t r =>
    unfold isL at h
    simp only [Bool.and_eq_true, beq_iff_eq] at h
    exact ⟨t, r, rfl, h.1, h.2⟩
theorem nameH_cons {R : List Tk} {s : ByteArray} (h : nameH R = some s) : ∃ t r, R = t :: r ∧ t.kind = 1 ∧ nameOk t.text = true ∧ t.text = s := by
  cases R with
  | nil => cases h
  | cons t r =>
    simp only [nameH] at h
    by_cases h1 : t.kind = 1
    · rw [if_pos h1] at h
      by_cases h2 : nameOk t.text = true
      · rw [if_pos h2] at h
        exact ⟨t, r, rfl, h1, h2, Option.some.inj h⟩
      · rw [if_neg h2] at h; cases h
    · rw [if_neg h1] at h; cases h
theorem numH_cons {R : List Tk} {m v : Nat} (h : numH m R = some v) : ∃ t r, R = t :: r ∧ t.kind = 2 ∧ numV t.text.data.toList = some v ∧ v ≤ m := by
  cases R with
  | nil => cases h
  | cons t r =>
    simp only [numH] at h
    by_cases h1 : t.kind = 2
    · rw [if_pos h1] at h
      cases hx : numV t.text.data.toList with
      | none => rw [hx] at h; cases h
      | some x =>
        rw [hx] at h
        dsimp only at h
        by_cases h3 : x ≤ m
        · rw [if_pos h3] at h
          cases h
          exact ⟨t, r, rfl, h1, hx, h3⟩
        · rw [if_neg h3] at h; cases h
    · rw [if_neg h1] at h; cases h

end Go.Proofs.YtfklajkmikanbaaGreatDoor.LandedP

/- What the landed parser's take, sign and nots give. No condition but sizes. -/
namespace Go.Proofs.YtfklajkmikanbaaGreatDoor.LandedP
open Go.RowKit

/-- A token is taken, or not. -/
def Took (g : Nat) (E : Env) (R : List Tk) (b : Bool) (w : World) : Ending → World → Prop := fun e w' => e = .returned (.bool b) ∧ RdrAt 66 w' g E (restL b R) Flt.none ∧ w.grownBy w' (some g)

theorem txt_eq (s t : ByteArray) : (s.toList == t.toList) = (s.data.toList == t.data.toList) := by rw [Lib.toList_data, Lib.toList_data]

section
variable {w : World} {g : Nat} {E : Env} {R : List Tk} {A : Option Addr} {c : Nat}

set_option maxRecDepth 100000 in
set_option maxHeartbeats 4000000 in
theorem take_no (h : Rdr 66 w g E R Flt.none A c) (kind : Int) (s : ByteArray) (hs : isL kind s.data.toList R = false) :
    Calls Tryz.prog 26 #[.pointer (some ⟨g, 0, none⟩), .int .i64 kind, .string s] w fun e w' => e = .returned (.bool false) ∧ w = w' := by
  have c0 : w.cell? ⟨g, 0, none⟩ = some (.slice A R.length c) := h.box.cell 0
  have hgl := h.box.lt
  have hcap := h.cap
  have hroom := h.room
  cases R with
  | nil =>
    clear hs h
    simp only [List.length_nil] at c0 hcap
    go_enter Tryz.func26, Tryz.ntmps26
    go_wp2
    go_ret
    exact ⟨rfl, rfl⟩
  | cons t r =>
    obtain ⟨b, o, rfl, hb, q0, q1, q2, q3⟩ := h.first
    have hbl : b < w.heap.size := Nat.lt_trans hb hgl
    simp only [List.length_cons] at c0 hcap
    obtain ⟨n, hn⟩ : ∃ n, n = r.length + 1 := ⟨_, rfl⟩
    rw [← hn] at c0 hcap
    have hn0 : 0 < n := by omega
    have hnI : (0 : Int) < (n : Int) := by omega
    have hnz : ¬ (n : Int) = 0 := by omega
    have hnzn : ¬ n = 0 := by omega
    clear hn h
    simp only [isL] at hs
    by_cases hk : t.kind = kind
    · have hk1 : (t.kind != kind) = false := by simp [hk]
      have ht : (t.text.toList == s.toList) = false := by
        rw [txt_eq]
        rw [hk] at hs
        simpa using hs
      clear hk hs
      go_enter Tryz.func26, Tryz.ntmps26
      go_wp2
      go_ret
      exact ⟨rfl, rfl⟩
    · have hk1 : (t.kind != kind) = true := by simp [hk]
      have hk2 : (t.kind == kind) = false := by simp [hk]
      clear hs
      go_enter Tryz.func26, Tryz.ntmps26
      go_wp2
      go_ret
      exact ⟨rfl, rfl⟩

/-- What is left, in memory. -/
theorem rdr_next {t : Tk} {r : List Tk} {b o : Nat} {w1 : World} (h : Rdr 66 w g E (t :: r) Flt.none (some ⟨b, o, none⟩) c) {A' : Option Addr} {c' : Nat} (hw1 : w1 = w.setCell ⟨g, 0, none⟩ (.slice A' r.length c'))
    (hA : r = [] ∨ A' = some ⟨b, o + 4, none⟩) (hc : r.length ≤ c') : RdrAt 66 w1 g E r Flt.none ∧ w.grownBy w1 (some g) := by
  subst hw1
  have ho := only_set w g 0 (.slice A' r.length c')
  refine ⟨⟨A', c', ?_, ?_, hc, Nat.le_trans (by simp) h.room, fun x hx => h.ok x (by simp [hx]), fun W hW => h.laid W ((below_set (Nat.le_refl _) (Below.refl _ _)).trans hW)⟩, ho⟩
  · have := h.box.set 0 (.slice A' r.length c')
    unfold rdCells at this ⊢
    simpa using this
  · rcases hA with rfl | rfl
    · exact Lies.empty _ _ _ _
    · exact lies_only (lies_rest h.lies) (Nat.le_refl _) (Nat.le_of_lt h.box.lt) ho

set_option maxRecDepth 100000 in
set_option maxHeartbeats 4000000 in
theorem take_yes (h : Rdr 66 w g E R Flt.none A c) (kind : Int) (s : ByteArray) (hs : isL kind s.data.toList R = true) :
    Calls Tryz.prog 26 #[.pointer (some ⟨g, 0, none⟩), .int .i64 kind, .string s] w fun e w' => e = .returned (.bool true) ∧ RdrAt 66 w' g E R.tail Flt.none ∧ w.grownBy w' (some g) := by
  have c0 : w.cell? ⟨g, 0, none⟩ = some (.slice A R.length c) := h.box.cell 0
  have z0 : w.frozen? ⟨g, 0, none⟩ = false := h.box.free 0
  have hgl := h.box.lt
  have hcap := h.cap
  have hroom := h.room
  obtain ⟨t, r, rfl, hk, ht⟩ := isL_cons hs
  clear hs
  obtain ⟨b, o, rfl, hb, q0, q1, q2, q3⟩ := h.first
  have HN := Lib.hid (fun (A' : Option Addr) (c' : Nat) (w1 : World) => rdr_next (w1 := w1) h (A' := A') (c' := c'))
  have hbl : b < w.heap.size := Nat.lt_trans hb hgl
  have hE : Hid (r = [] ↔ r.length = 0) := by unfold Hid; exact List.length_eq_zero_iff.symm
  simp only [List.length_cons, List.tail_cons] at c0 hcap hroom HN ⊢
  obtain ⟨m, hm⟩ : ∃ m, m = r.length := ⟨_, rfl⟩
  rw [← hm] at c0 hcap hroom HN hE
  have hm0 : (0 : Int) ≤ (m : Int) := by omega
  have hnI : (0 : Int) < ((m + 1 : Nat) : Int) := by omega
  have hnz : ¬ ((m + 1 : Nat) : Int) = 0 := by omega
  have hk1 : (t.kind != kind) = false := by simp [hk]
  have ht1 : (t.text.toList == s.toList) = true := by rw [txt_eq]; simp [ht]
  have hc1 : m + 1 ≤ 1000000 := by omega
  clear hk ht hm h
  by_cases hcc : c = 1
  · subst hcc
    obtain rfl : m = 0 := by omega
    go_enter Tryz.func26, Tryz.ntmps26
    go_wp2
    go_ret
    obtain ⟨h1, h2⟩ := HN.out _ _ _ rfl (.inl (by simpa using hE.out)) (Nat.le_refl _)
    exact ⟨rfl, h1, h2⟩
  · have hcc2 : ¬ c - 1 = 0 := by omega
    have hcc3 : ¬ (1 = c) := fun e => hcc e.symm
    have hcI : ¬ ((c : Int) = 1) := by omega
    have hcI2 : (1 : Int) ≤ (c : Int) := by omega
    go_enter Tryz.func26, Tryz.ntmps26
    go_wp2
    go_ret
    obtain ⟨h1, h2⟩ := HN.out _ (c - 1) _ rfl (.inr rfl) (by omega)
    exact ⟨rfl, h1, h2⟩

theorem take_any (h : Rdr 66 w g E R Flt.none A c) (kind : Int) (s : ByteArray) :
    Calls Tryz.prog 26 #[.pointer (some ⟨g, 0, none⟩), .int .i64 kind, .string s] w (Took g E R (isL kind s.data.toList R) w) := by
  cases hs : isL kind s.data.toList R
  · exact (take_no h kind s hs).mono fun e w' ⟨h1, h2⟩ => ⟨h1, by subst h2; exact ⟨A, c, h⟩, by subst h2; exact only_refl _ _⟩
  · exact (take_yes h kind s hs).mono fun e w' ⟨h1, h2, h3⟩ => ⟨h1, h2, h3⟩

/-! ### sign -/
set_option maxRecDepth 100000 in
set_option maxHeartbeats 4000000 in
theorem sign_any (h : RdrAt 66 w g E R Flt.none) (s : ByteArray) :
    Calls Tryz.prog 40 #[.pointer (some ⟨g, 0, none⟩), .string s] w (Took g E R (sgL s.data.toList R) w) := by
  obtain ⟨A, c, h⟩ := h
  have HT := Lib.hid (take_any h 3 s)
  go_enter Tryz.func40, Tryz.ntmps40
  go_wp2_with fail
  refine HT.out.mono ?_
  rintro e w1 ⟨rfl, h1, h2⟩
  go_wp2
  go_ret
  exact ⟨rfl, h1, h2⟩

/-! ### nots -/
theorem notsN_le : ∀ R : List Tk, notsN R ≤ R.length
  | [] => Nat.le_refl _
  | t :: r => by
    unfold notsN
    have := notsN_le r
    split
    · rw [List.length_cons]; omega
    · omega
theorem nots_yes {R : List Tk} (h : sgL [33] R = true) : notsN R = notsN R.tail + 1 := by
  obtain ⟨t, r, rfl, _⟩ := isL_cons h
  rw [notsN, if_pos h]
  rfl
theorem nots_no {R : List Tk} (h : sgL [33] R = false) : notsN R = 0 := by
  cases R with
  | nil => rfl
  | cons t r => rw [notsN, if_neg (by rw [h]; decide)]

set_option maxRecDepth 100000 in
set_option maxHeartbeats 4000000 in
theorem nots_any (h : RdrAt 66 w g E R Flt.none) (hR : R.length ≤ 1000000) :
    Calls Tryz.prog 67 #[.pointer (some ⟨g, 0, none⟩)] w fun e w' => e = .returned (.int .i64 (notsN R : Nat)) ∧ RdrAt 66 w' g E (R.drop (notsN R)) Flt.none ∧ w.grownBy w' (some g) := by
  have H0 := Lib.hid h
  have hle : notsN R ≤ 1000000 := Nat.le_trans (notsN_le R) hR
  obtain ⟨N, hN⟩ : ∃ N, N = notsN R := ⟨_, rfl⟩
  rw [← hN] at hle ⊢
  have HN := Lib.hid hN
  clear h hN hR
  go_enter Tryz.func67, Tryz.ntmps67
  go_wp2_with fail
  go_loopw [3] (fun n W => ∃ (k : Nat) (R' : List Tk), n = .int .i64 (k : Int) ∧ k ≤ N ∧ Hid (N = k + notsN R' ∧ R' = R.drop k) ∧ Hid (RdrAt 66 W g E R' Flt.none ∧ w.grownBy W (some g))) (fun n _ => N - (intOf n).toNat)
  case atStart => exact ⟨0, R, rfl, Nat.zero_le _, ⟨by rw [HN.out]; omega, rfl⟩, ⟨H0.out, only_refl _ _⟩⟩
  case round =>
    obtain ⟨k, R', rfl, hk, h1, h2⟩ := hrel
    have HS := Lib.hid (sign_any h2.out.1 ⟨#[33]⟩)
    by_cases hlt : k < N
    · have hsg : sgL [33] R' = true := by
        cases hs : sgL [33] R' with
        | true => rfl
        | false => have := nots_no hs; have := h1.out.1; omega
      have hn1 := nots_yes hsg
      rw [show ((⟨#[33]⟩ : ByteArray)).data.toList = [33] from rfl, hsg] at HS
      have HE : Hid (N = k + 1 + notsN R'.tail ∧ R'.tail = R.drop (k + 1)) := by
        have := h1.out
        exact ⟨by omega, by rw [this.2, List.tail_drop]⟩
      have H2 := Lib.hid h2.out.2
      clear hsg hn1 h1 h2 H0
      go_wp2_with fail
      refine HS.out.mono ?_
      rintro e w1 ⟨rfl, h3, h4⟩
      have H3 := Lib.hid h3
      have H4 := Lib.hid (only_trans H2.out h4)
      clear h3 h4
      go_wp2
      go_roundw
      case rel => exact ⟨k + 1, R'.tail, by go_num, by omega, HE, ⟨H3.out, H4.out⟩⟩
      case measure => simp [intOf]; omega
    · obtain rfl : k = N := by omega
      have hsg : sgL [33] R' = false := by
        cases hs : sgL [33] R' with
        | false => rfl
        | true => have := nots_yes hs; have := h1.out.1; omega
      rw [show ((⟨#[33]⟩ : ByteArray)).data.toList = [33] from rfl, hsg] at HS
      have HE : Hid (R' = R.drop k) := h1.out.2
      have H2 := Lib.hid h2.out.2
      clear hsg h1 h2 H0
      go_wp2_with fail
      refine HS.out.mono ?_
      rintro e w1 ⟨rfl, h3, h4⟩
      have H3 := Lib.hid h3
      have H4 := Lib.hid (only_trans H2.out h4)
      clear h3 h4
      go_wp2
      go_ret
      refine ⟨rfl, ?_, H4.out⟩
      rw [← HE.out]
      exact H3.out
end

end Go.Proofs.YtfklajkmikanbaaGreatDoor.LandedP
