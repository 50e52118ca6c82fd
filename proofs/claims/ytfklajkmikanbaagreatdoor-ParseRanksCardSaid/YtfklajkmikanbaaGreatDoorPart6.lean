/- Texts of mine put together (a claim has at most so many files): SpotRef, TokLex. -/
import Derived.Test.YtfklajkmikanbaaGreatDoorPart2
import Derived.Test.YtfklajkmikanbaaGreatDoorChecked
import Derived.Lib.Hide
import Derived.Lib.Strings
import Derived.WalkLawsBesides
import Derived.Test.YtfklajkmikanbaaGreatDoorTokTwo
/- What the document's own At, Spot and Place give. -/
namespace Go.Proofs.YtfklajkmikanbaaGreatDoor
open Go.RowKit

/-- A whole number as a float. -/
def fl (n : Int) : Nat := floatOfInt .f64 n
theorem fl1 : fl 1 = 4607182418800017408 := by decide +kernel
def fcx (p : Nat × Nat) : Value := .complex .f64 (fl (p.1 : Int)) (fl (p.2 : Int))
def feq (a b : Nat) : Bool := FloatKind.f64.format.order a b == some .eq

def stepPos (p : Nat × Nat) (b : UInt8) : Nat × Nat := if b = 10 then (p.1 + 1, 1) else (p.1, p.2 + 1)
def posFrom (p : Nat × Nat) (l : List UInt8) : Nat × Nat := l.foldl stepPos p
/-- A number cut to a text. -/
def cutTo (n : Nat) (i : Int) : Nat := if i < 0 then 0 else if (n : Int) < i then n else i.toNat
/-- Line and column. -/
def posAt (s : List UInt8) (i : Int) : Nat × Nat := posFrom (1, 1) (s.take (cutTo s.length i))

theorem pos_le : ∀ (l : List UInt8) (p : Nat × Nat), (posFrom p l).1 ≤ p.1 + l.length ∧ (posFrom p l).2 ≤ max p.2 1 + l.length
  | [], p => by simp [posFrom]; omega
  | b :: l, p => by
    have := pos_le l (stepPos p b)
    unfold posFrom at this ⊢
    rw [List.foldl_cons]
    simp only [stepPos, List.length_cons] at this ⊢
    split at this <;> rename_i h <;> simp only [h, if_true, if_false] <;> omega
theorem pos_snoc (l : List UInt8) (b : UInt8) (p : Nat × Nat) : posFrom p (l ++ [b]) = stepPos (posFrom p l) b := by simp [posFrom, List.foldl_append]

theorem cap_any (n : Nat) (i : Int) (w : World) : Calls Tryz.prog 20 #[.int .i64 i, .int .i64 0, .int .i64 (n : Int)] w fun e w' => e = .returned (.int .i64 (cutTo n i : Nat)) ∧ w = w' := by
  unfold cutTo
  by_cases h0 : i < 0
  · rw [if_pos h0]
    go_enter Tryz.func20, Tryz.ntmps20
    go_wp2
    go_ret
    exact ⟨rfl, rfl⟩
  · rw [if_neg h0]
    by_cases h1 : (n : Int) < i
    · rw [if_pos h1]
      go_enter Tryz.func20, Tryz.ntmps20
      go_wp2
      go_ret
      exact ⟨rfl, rfl⟩
    · rw [if_neg h1, show ((i.toNat : Nat) : Int) = i from by omega]
      go_enter Tryz.func20, Tryz.ntmps20
      go_wp2
      go_ret
      exact ⟨rfl, rfl⟩

theorem spot_any (y x : Int) (w : World) : Calls Tryz.prog 8 #[.int .i64 y, .int .i64 x] w fun e w' => e = .returned (.complex .f64 (fl y) (fl x)) ∧ w = w' := by
  go_enter Tryz.func8, Tryz.ntmps8
  go_wp2
  go_ret
  exact ⟨rfl, rfl⟩

def Ats (s : ByteArray) (m : Nat) (w : World) (y x k' : Value) (wr : World) : Prop :=
  (∃ k : Nat, k ≤ m ∧ k' = .int .i64 k ∧ y = .int .i64 ((posFrom (1, 1) (s.data.toList.take k)).1 : Int) ∧ x = .int .i64 ((posFrom (1, 1) (s.data.toList.take k)).2 : Int)) ∧ w = wr

set_option maxRecDepth 100000 in
set_option maxHeartbeats 2000000 in
theorem refAt_any (s : ByteArray) (i : Int) (w : World) (hs : s.size ≤ 1099511627776) :
    Calls Tryz.prog 14 #[.string s, .int .i64 i] w fun e w' => e = .returned (.tuple #[.int .i64 ((posAt s.data.toList i).1 : Int), .int .i64 ((posAt s.data.toList i).2 : Int)]) ∧ w = w' := by
  have hz : s.data.toList.length = s.size := by simp
  obtain ⟨m, hm⟩ : ∃ m, m = cutTo s.size i := ⟨_, rfl⟩
  have hms : m ≤ s.size := by
    rw [hm]
    unfold cutTo
    repeat' split
    all_goals omega
  have HC : Hid (∀ W : World, Calls Tryz.prog 20 #[.int .i64 i, .int .i64 0, .int .i64 (s.size : Int)] W fun e w' => e = .returned (.int .i64 (m : Int)) ∧ W = w') := fun W => by rw [hm]; exact cap_any s.size i W
  have HP : Hid (posAt s.data.toList i = posFrom (1, 1) (s.data.toList.take m)) := by
    unfold Hid posAt
    rw [hz, ← hm]
  obtain ⟨R, hR⟩ : ∃ R, R = posAt s.data.toList i := ⟨_, rfl⟩
  rw [← hR]
  have HR := Lib.hid (hR.trans HP.out)
  clear hR HP hm hz
  go_enter Tryz.func14, Tryz.ntmps14
  go_wp2
  go_loopw [6, 7, 8] (fun y x k wr => Ats s m w y x k wr) (fun _ _ k _ => m - (intOf k).toNat)
  case atStart => exact ⟨⟨0, Nat.zero_le _, rfl, rfl, rfl⟩, rfl⟩
  case round =>
    obtain ⟨⟨k, hk, rfl, rfl, rfl⟩, rfl⟩ := hrel
    have hp := pos_le (s.data.toList.take k) (1, 1)
    have hl : (s.data.toList.take k).length ≤ k := List.length_take_le _ _
    obtain ⟨Y, hY⟩ : ∃ Y, Y = (posFrom (1, 1) (s.data.toList.take k)).1 := ⟨_, rfl⟩
    obtain ⟨X, hX⟩ : ∃ X, X = (posFrom (1, 1) (s.data.toList.take k)).2 := ⟨_, rfl⟩
    rw [← hY, ← hX] at hp ⊢
    have hY1 : Y ≤ 1099511627777 := by have := hp.1; simp only at this; omega
    have hX1 : X ≤ 1099511627777 := by have := hp.2; simp only at this; omega
    by_cases hlt : k < m
    · have hks : k < s.size := by omega
      have hx := str_at s k hks
      have hb := byte_lt (s[k]'hks)
      have hst : posFrom (1, 1) (s.data.toList.take (k + 1)) = stepPos (Y, X) (s[k]'hks) := by
        rw [take_one hx, pos_snoc, hY, hX]
      by_cases hq : s[k]'hks = 10
      · have HY : Hid ((posFrom (1, 1) (s.data.toList.take (k + 1))).1 = Y + 1) := by unfold Hid; rw [hst, stepPos, if_pos hq]
        have HX : Hid ((posFrom (1, 1) (s.data.toList.take (k + 1))).2 = 1) := by unfold Hid; rw [hst, stepPos, if_pos hq]
        have hq' : (((s[k]'hks).toNat : Int) == 10) = true := by rw [hq]; rfl
        clear hq hst hx hY hX hp hl
        go_wp2_with fail
        refine (HC.out _).mono ?_
        rintro r w1 ⟨rfl, rfl⟩
        go_wp2
        go_roundw
        case rel => exact ⟨⟨k + 1, by omega, by go_num, by rw [HY.out]; go_num, by rw [HX.out]; rfl⟩, rfl⟩
        case measure => simp [intOf]; omega
      · have HY : Hid ((posFrom (1, 1) (s.data.toList.take (k + 1))).1 = Y) := by unfold Hid; rw [hst, stepPos, if_neg hq]
        have HX : Hid ((posFrom (1, 1) (s.data.toList.take (k + 1))).2 = X + 1) := by unfold Hid; rw [hst, stepPos, if_neg hq]
        have hq' : (((s[k]'hks).toNat : Int) == 10) = false := by
          rw [beq_eq_false_iff_ne]
          intro e
          exact hq (UInt8.toNat_inj.1 (by show (s[k]'hks).toNat = 10; omega))
        clear hq hst hx hY hX hp hl
        go_wp2_with fail
        refine (HC.out _).mono ?_
        rintro r w1 ⟨rfl, rfl⟩
        go_wp2
        go_roundw
        case rel => exact ⟨⟨k + 1, by omega, by go_num, by rw [HY.out], by rw [HX.out]; go_num⟩, rfl⟩
        case measure => simp [intOf]; omega
    · obtain rfl : k = m := by omega
      have h1 : R.1 = Y := by rw [HR.out, hY]
      have h2 : R.2 = X := by rw [HR.out, hX]
      have H1 := Lib.hid h1
      have H2 := Lib.hid h2
      clear h1 h2 hY hX hp hl
      go_wp2_with fail
      refine (HC.out _).mono ?_
      rintro r w1 ⟨rfl, rfl⟩
      go_wp2
      go_ret2
      exact ⟨by rw [H1.out, H2.out]; rfl, rfl⟩

end Go.Proofs.YtfklajkmikanbaaGreatDoor

/- A text taken apart, as a plain function of what is left of it. -/
namespace Go.Proofs.YtfklajkmikanbaaGreatDoor
open Go.RowKit

/-- A token, and where it begins. -/
structure TokV where
  kind : Int
  text : List UInt8
  place : Nat × Nat
  deriving DecidableEq

def splitL : Nat → Nat × Nat → List UInt8 → Except (Nat × Nat) (List TokV)
  | 0, _, _ => .ok []
  | _ + 1, _, [] => .ok []
  | f + 1, p, c :: t => match skipL (c :: t) with
    | none => .error p
    | some n => if 0 < n then splitL f (posFrom p ((c :: t).take n)) ((c :: t).drop n) else match oneL (c :: t) with
      | none => .error p
      | some v => (splitL f (posFrom p ((c :: t).take v.2.2)) ((c :: t).drop v.2.2)).map (⟨v.1, v.2.1, p⟩ :: ·)
def splitOf (s : List UInt8) : Except (Int × Nat × Nat) (List TokV) := if 20000 < s.length then .error (9, 1, 1) else match splitL s.length (1, 1) s with
  | .error p => .error (3, p)
  | .ok l => .ok l

theorem split_far {f : Nat} {p : Nat × Nat} {r : List UInt8} (hr : r ≠ []) (h : skipL r = none) : splitL (f + 1) p r = .error p := by
  cases r with
  | nil => exact absurd rfl hr
  | cons c t => rw [splitL, h]
theorem split_skip {f n : Nat} {p : Nat × Nat} {r : List UInt8} (hr : r ≠ []) (h : skipL r = some n) (hn : 0 < n) : splitL (f + 1) p r = splitL f (posFrom p (r.take n)) (r.drop n) := by
  cases r with
  | nil => exact absurd rfl hr
  | cons c t =>
    rw [splitL, h]
    dsimp only
    rw [if_pos hn]
theorem split_bad {f : Nat} {p : Nat × Nat} {r : List UInt8} (hr : r ≠ []) (h : skipL r = some 0) (h1 : oneL r = none) : splitL (f + 1) p r = .error p := by
  cases r with
  | nil => exact absurd rfl hr
  | cons c t =>
    rw [splitL, h]
    dsimp only
    rw [if_neg (by omega), h1]
theorem split_tok {f : Nat} {p : Nat × Nat} {r : List UInt8} {v : Int × List UInt8 × Nat} (hr : r ≠ []) (h : skipL r = some 0) (h1 : oneL r = some v) : splitL (f + 1) p r = (splitL f (posFrom p (r.take v.2.2)) (r.drop v.2.2)).map (⟨v.1, v.2.1, p⟩ :: ·) := by
  cases r with
  | nil => exact absurd rfl hr
  | cons c t =>
    rw [splitL, h]
    dsimp only
    rw [if_neg (by omega), h1]
theorem split_nil (f : Nat) (p : Nat × Nat) : splitL f p [] = .ok [] := by cases f <;> rfl

theorem end_len : ∀ (r : List UInt8) (m : Nat), endOf r = some m → m ≤ r.length
  | [], m, h => by cases h
  | c :: r, m, h => by
    rw [endOf] at h
    split at h
    · rename_i hb
      have := congrArg List.length (eq_of_beq hb)
      rw [List.length_take] at this
      have h4 : min 2 (c :: r).length = 2 := this
      have h5 : 2 = m := Option.some.inj h
      omega
    · cases hd : endOf r with
      | none => rw [hd] at h; cases h
      | some t =>
        rw [hd] at h
        have h5 : t + 1 = m := Option.some.inj h
        have := end_len r t hd
        rw [List.length_cons]
        omega

theorem begins_len {t r : List UInt8} (h : beginsL t r = true) : t.length ≤ r.length := by
  have := congrArg List.length (eq_of_beq h)
  rw [List.length_take] at this
  omega

theorem skip_len {r : List UInt8} {n : Nat} (h : skipL r = some n) : n ≤ r.length := by
  cases r with
  | nil =>
    have : 0 = n := Option.some.inj h
    omega
  | cons c t =>
    cases hb : blankB c
    · cases h1 : beginsL [47, 47] (c :: t)
      · cases h2 : beginsL [47, 42] (c :: t)
        · rw [skip_no hb h1 h2] at h
          have : 0 = n := Option.some.inj h
          omega
        · rw [skip_far hb h1 h2] at h
          have hl := begins_len h2
          cases he : endOf ((c :: t).drop 2) with
          | none => rw [he] at h; cases h
          | some m =>
            rw [he] at h
            have h5 : m + 2 = n := Option.some.inj h
            have := end_len _ _ he
            rw [List.length_drop] at this
            have hl2 : 2 ≤ (c :: t).length := hl
            omega
      · rw [skip_line hb h1] at h
        have h5 := Option.some.inj h
        rw [← h5]
        exact run_le _ _
    · rw [skip_blank hb] at h
      have h5 : 1 = n := Option.some.inj h
      rw [List.length_cons]
      omega

theorem num_pos {r : List UInt8} {v : Nat × Nat} (h : numL r = some v) : 1 ≤ v.2 := by
  unfold numL at h
  dsimp only at h
  cases hd : digitsOf (if hexAhead r then 16 else 10) 0 (r.drop (if hexAhead r then 2 else 0)) with
  | none => rw [hd] at h; cases h
  | some u =>
    obtain ⟨v1, k1⟩ := u
    rw [hd] at h
    dsimp only at h
    by_cases hk : k1 = 0 ∨ goesOn (r.drop ((if hexAhead r then 2 else 0) + k1)) = true
    · rw [if_pos hk] at h
      cases h
    · rw [if_neg hk] at h
      simp only [Option.some.injEq] at h
      rw [← h]
      simp only [not_or] at hk
      show 1 ≤ (if hexAhead r then 2 else 0) + k1
      omega

theorem one_len {r : List UInt8} {v : Int × List UInt8 × Nat} (h : oneL r = some v) : 1 ≤ v.2.2 ∧ v.2.2 ≤ r.length := by
  cases r with
  | nil => cases h
  | cons c t =>
    unfold oneL at h
    dsimp only at h
    cases hl : letterB c
    · rw [if_neg (by rw [hl]; decide)] at h
      cases hg : digB c
      · rw [if_neg (by rw [hg]; decide)] at h
        by_cases h34 : c = 34
        · rw [if_pos h34] at h
          cases hd : t.drop (runLen (fun x => !(x == 34) && !(x == 10)) t) with
          | nil => rw [hd] at h; cases h
          | cons a u =>
            have hlt : runLen (fun x => !(x == 34) && !(x == 10)) t < t.length := by
              have := congrArg List.length hd
              rw [List.length_drop, List.length_cons] at this
              omega
            rw [hd] at h
            by_cases ha : a = 34
            · rw [ha] at h
              have h5 := Option.some.inj h
              rw [← h5]
              simp only [List.length_cons]
              omega
            · split at h
              · rename_i he
                simp only [List.cons.injEq] at he
                exact absurd he.1 ha
              · cases h
        · rw [if_neg h34] at h
          by_cases h35 : c = 35
          · rw [if_pos h35] at h
            split at h
            · rename_i hb
              simp only [Bool.and_eq_true] at hb
              have := begins_len hb.1
              have h5 := Option.some.inj h
              rw [← h5]
              exact ⟨by decide, this⟩
            · split at h
              · rename_i hb
                simp only [Bool.and_eq_true] at hb
                have := begins_len hb.1
                have h5 := Option.some.inj h
                rw [← h5]
                exact ⟨by decide, this⟩
              · cases h
          · rw [if_neg h35] at h
            by_cases hs : signL (c :: t) = 0
            · rw [if_pos hs] at h
              cases h
            · rw [if_neg hs] at h
              have h5 := Option.some.inj h
              rw [← h5]
              have := sign_len (r := c :: t)
              exact ⟨by show 1 ≤ signL (c :: t); omega, this⟩
      · rw [if_pos hg] at h
        cases hn : numL (c :: t) with
        | none => rw [hn] at h; cases h
        | some u =>
          rw [hn] at h
          have h5 := Option.some.inj h
          rw [← h5]
          exact ⟨num_pos hn, num_len hn⟩
    · rw [if_pos hl] at h
      have h5 := Option.some.inj h
      rw [← h5]
      refine ⟨?_, run_le _ _⟩
      show 1 ≤ runLen wordB (c :: t)
      rw [run_on _ (show wordB c = true by unfold wordB; rw [hl]; rfl)]
      omega

theorem pos_add (s : List UInt8) (k n : Nat) : posFrom (1, 1) (s.take (k + n)) = posFrom (posFrom (1, 1) (s.take k)) ((s.drop k).take n) := by
  rw [List.take_add]
  unfold posFrom
  rw [List.foldl_append]
theorem map_map_ok {l m : List TokV} (e : Except (Nat × Nat) (List TokV)) : (e.map (m ++ ·)).map (l ++ ·) = e.map ((l ++ m) ++ ·) := by
  cases e with
  | error p => rfl
  | ok x => simp [Except.map]

/-! ### Tokens as cells -/
def tokVals (file : Int) (t : TokV) : List Value := [.int .i64 t.kind, .string (strOf t.text), .int .i64 file, .complex .f64 (fl t.place.1) (fl t.place.2)]
def toksV (file : Int) (l : List TokV) : List Value := l.flatMap (tokVals file)
theorem toksV_snoc (file : Int) (l : List TokV) (t : TokV) : toksV file (l ++ [t]) = toksV file l ++ tokVals file t := by simp [toksV]
theorem toksV_len (file : Int) (l : List TokV) : (toksV file l).length = l.length * 4 := by
  unfold toksV
  induction l with
  | nil => rfl
  | cons t l ih => simp [tokVals] at ih ⊢; omega
def faultCells (e file : Int) (re im : Nat) : Array Value := #[.int .i64 e, .int .i64 file, .complex .f64 re im]

/-- What a function that takes a text apart gives. -/
def SplitRes (file : Int) (t : Except (Int × Nat × Nat) (List TokV)) (w : World) : Ending → World → Prop := fun r w' =>
  ((∃ (e : Int) (p : Nat × Nat) (A : Option Addr) (c : Nat), t = .error (e, p) ∧ r = .returned (.tuple #[.slice A 0 c, .agg (faultCells e file (fl p.1) (fl p.2))])) ∨
   (∃ (l : List TokV) (A : Option Addr) (c : Nat), t = .ok l ∧ r = .returned (.tuple #[.slice A l.length c, .agg (faultCells 0 0 0 0)]) ∧ l.length ≤ c ∧ Lies w' w'.heap.size 4 A l.length (toksV file l))) ∧ Below w.heap.size w w'

/-- The same, its tokens in a row of its own. -/
def SplitNew (file : Int) (t : Except (Int × Nat × Nat) (List TokV)) (w : World) : Ending → World → Prop := fun r w' =>
  ((∃ (e : Int) (p : Nat × Nat) (A : Option Addr) (c : Nat), t = .error (e, p) ∧ r = .returned (.tuple #[.slice A 0 c, .agg (faultCells e file (fl p.1) (fl p.2))])) ∨
   (∃ (l : List TokV) (A : Option Addr) (c : Nat), t = .ok l ∧ r = .returned (.tuple #[.slice A l.length c, .agg (faultCells 0 0 0 0)]) ∧ l.length ≤ c ∧ w'.ownsRow w.heap.size 62 4 (.slice A l.length c) l.length (toksV file l))) ∧ Below w.heap.size w w'
theorem SplitNew.res {file : Int} {t : Except (Int × Nat × Nat) (List TokV)} {w : World} {r : Ending} {w' : World} (h : SplitNew file t w r w') : SplitRes file t w r w' := by
  obtain ⟨h | ⟨l, A, c, h1, h2, h3, h4⟩, hb⟩ := h
  · exact ⟨.inl h, hb⟩
  · exact ⟨.inr ⟨l, A, c, h1, h2, h3, Lies.of_own h4⟩, hb⟩

end Go.Proofs.YtfklajkmikanbaaGreatDoor
