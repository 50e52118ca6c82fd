/- What the landed weave asks of package slices, and its cut. No condition but sizes. -/
import Derived.Test.YtdjhpgpekomjeaaDoorPart5
import Derived.Maps.AppendAt
namespace Go.Proofs.YtdjhpgpekomjeaaDoor.LandedW
open Go.RowKit

/-! ### Where the first include stands -/
/-- How many tokens stand ahead of the first include. -/
def incAt (l : List TokV) : Nat := (l.takeWhile fun t => !isInc t).length

theorem inc_le (l : List TokV) : incAt l ≤ l.length := by
  unfold incAt
  induction l with
  | nil => simp
  | cons t r ih =>
    rw [List.takeWhile_cons]
    split
    · simp only [List.length_cons]; omega
    · simp

theorem inc_step {l : List TokV} {k : Nat} (h : ∀ j t, j < k → l[j]? = some t → isInc t = false) (hk : k ≤ l.length) : incAt l = k + incAt (l.drop k) := by
  induction k generalizing l with
  | zero => simp
  | succ k ih =>
    cases l with
    | nil => simp at hk
    | cons t r =>
      have h0 : isInc t = false := h 0 t (by omega) rfl
      have := ih (l := r) (fun j u hj hu => h (j + 1) u (by omega) (by simpa using hu)) (by simpa using hk)
      unfold incAt at this ⊢
      rw [List.takeWhile_cons, h0]
      simp only [Bool.not_false, if_true, List.length_cons, List.drop_succ_cons]
      omega

theorem inc_here {t : TokV} {r : List TokV} (h : isInc t = true) : incAt (t :: r) = 0 := by
  unfold incAt
  rw [List.takeWhile_cons, h]
  rfl

theorem inc_before (l : List TokV) : ∀ j t, j < incAt l → l[j]? = some t → isInc t = false := by
  induction l with
  | nil => intro j t _ h; simp at h
  | cons u r ih =>
    intro j t hj ht
    cases hu : isInc u with
    | true => rw [inc_here hu] at hj; omega
    | false =>
      cases j with
      | zero => obtain rfl : u = t := by simpa using ht
                exact hu
      | succ j =>
        refine ih j t ?_ (by simpa using ht)
        unfold incAt at hj ⊢
        rw [List.takeWhile_cons, hu] at hj
        simp only [Bool.not_false, if_true, List.length_cons] at hj
        omega

theorem inc_at {l : List TokV} (h : incAt l < l.length) : ∃ t r, l.drop (incAt l) = t :: r ∧ isInc t = true := by
  induction l with
  | nil => simp at h
  | cons u r ih =>
    cases hu : isInc u with
    | true => rw [inc_here hu]; exact ⟨u, r, rfl, hu⟩
    | false =>
      have e : incAt (u :: r) = incAt r + 1 := by unfold incAt; rw [List.takeWhile_cons, hu]; rfl
      rw [e] at h ⊢
      exact ih (by simpa using h)

theorem incFn_any (file : Int) (t : TokV) (W : World) :
    Calls Tryd.prog 18 #[.agg #[.int .i64 t.kind, .string (strOf t.text), .int .i64 file, .complex .f64 (fl t.place.1) (fl t.place.2)]] W fun e w' => e = .returned (.bool (isInc t)) ∧ Below W.heap.size W w' := by
  have hst := store_cx
  have hq : ((strOf t.text).toList == [35, 105, 110, 99, 108, 117, 100, 101]) = (t.text == includeT) := by rw [strOf_toList]; rfl
  have hbn : Below W.heap.size W (W.alloc (.cells #[.int .i64 t.kind, .string (strOf t.text), .int .i64 file, .complex .f64 (fl t.place.1) (fl t.place.2)] 35)) := below_alloc (Below.refl _ _) (Nat.le_refl _) _
  have HI : Hid (isInc t = ((t.text == includeT) && (t.kind == 5))) := rfl
  generalize isInc t = I at *
  cases hk : (t.kind == 5) <;> cases hx : (t.text == includeT)
  all_goals
    rw [hk, hx] at HI
    rw [hx] at hq
    obtain ⟨⟩ : I = _ := HI
    clear hx
    go_enter Tryd.func18, Tryd.ntmps18
    go_wp2_with fail
    try go_quiet (fail)
    go_wp2_with fail
    go_ret
    exact ⟨rfl, hbn⟩

theorem enter_inc (args : Array Value) (w : World) : (callFunc 18 args).run Tryd.prog w = .ok (.enter 18 args) w := by kernel_rfl

set_option maxHeartbeats 2000000 in
theorem indexFn_any (file : Int) (l : List TokV) (A : Option Addr) (n c : Nat) (w : World) (hl : Lies w w.heap.size 4 A n (toksV file l)) (hn : n ≤ 1000000) :
    Calls Tryd.prog 17 #[.slice A n c, .func (.func 18) #[] #[]] w
      fun e w' => e = .returned (.int .i64 (if incAt l < l.length then (incAt l : Int) else -1)) ∧ Below w.heap.size w w' := by
  have hst := store_cx
  have hln : l.length = n := by have := hl.1; rw [toksV_len] at this; omega
  obtain ⟨R, hR⟩ : ∃ R : Int, R = if incAt l < l.length then (incAt l : Int) else -1 := ⟨_, rfl⟩
  have HR := Lib.hid hR
  have HL := Lib.hid hl
  have HLN := Lib.hid hln
  have HF : Hid (∀ (t : TokV) (W : World), Calls Tryd.prog 18 #[.agg #[.int .i64 t.kind, .string (strOf t.text), .int .i64 file, .complex .f64 (fl t.place.1) (fl t.place.2)]] W fun e w' => e = .returned (.bool (isInc t)) ∧ Below W.heap.size W w') := fun t W => incFn_any file t W
  have eg := enter_inc
  rw [← hR]
  clear hR hl hln
  go_enter Tryd.func17, Tryd.ntmps17
  go_wp2_with fail
  go_loopw [8] (fun i wr => ∃ k : Nat, k ≤ n ∧ i = .int .i64 k ∧ Below w.heap.size w wr ∧ Hid (∀ j t, j < k → l[j]? = some t → isInc t = false)) (fun i _ => n - (intOf i).toNat)
  case atStart => exact ⟨0, by omega, rfl, Below.refl _ _, fun j t h => absurd h (Nat.not_lt_zero _)⟩
  case round =>
    obtain ⟨k, hk, rfl, hnx, HB⟩ := hrel
    by_cases hlt : k < n
    · obtain ⟨t, ht⟩ : ∃ t, l[k]? = some t := ⟨_, List.getElem?_eq_getElem (by have := HLN.out; omega)⟩
      obtain ⟨b, o, rfl, hb, hc⟩ := HL.out.2 (by omega)
      obtain ⟨q0, q1, q2, q3⟩ := tok_cells file l k t ht
      have t0 := (hnx.cell (p := ⟨b, o + k * 4, none⟩) hb).trans (hc _ _ q0)
      have t1 := (hnx.cell (p := ⟨b, o + (k * 4 + 1), none⟩) hb).trans (hc _ _ q1)
      have t2 := (hnx.cell (p := ⟨b, o + (k * 4 + 2), none⟩) hb).trans (hc _ _ q2)
      have t3 := (hnx.cell (p := ⟨b, o + (k * 4 + 3), none⟩) hb).trans (hc _ _ q3)
      rw [← Nat.add_assoc] at t1 t2 t3
      have HT := Lib.hid ht
      have HC := Lib.hid (HF.out t)
      have HBS := Lib.hid (fun w' (h : Below wr.heap.size wr w') => hnx.trans (h.mono hnx.size))
      clear q0 q1 q2 q3 hc ht hnx
      cases hinc : isInc t with
      | true =>
        have HE : Hid (R = (k : Int)) := by
          have h1 := inc_step (l := l) (k := k) HB.out (by have := HLN.out; omega)
          have hd : l.drop k = t :: l.drop (k + 1) := by
            obtain ⟨h1, h2⟩ := List.getElem?_eq_some_iff.1 HT.out
            rw [List.drop_eq_getElem_cons h1, h2]
          rw [hd, inc_here hinc] at h1
          unfold Hid
          rw [HR.out, if_pos (by have := HLN.out; omega)]
          omega
        rw [hinc] at HC
        clear hinc
        go_wp2_with fail
        refine (HC.out _).mono ?_
        rintro e w1 ⟨rfl, hb1⟩
        go_wp2
        go_ret
        exact ⟨by rw [HE.out]; rfl, HBS.out _ hb1⟩
      | false =>
        rw [hinc] at HC
        have HB2 : Hid (∀ j t, j < k + 1 → l[j]? = some t → isInc t = false) := fun j u hj hu => by
          rcases Nat.lt_or_ge j k with h | h
          · exact HB.out j u h hu
          · obtain rfl : j = k := by omega
            rw [HT.out] at hu
            obtain rfl := Option.some.inj hu
            exact hinc
        clear hinc
        go_wp2_with fail
        refine (HC.out _).mono ?_
        rintro e w1 ⟨rfl, hb1⟩
        go_wp2
        go_roundw
        case rel => exact ⟨k + 1, by omega, by go_num, HBS.out _ hb1, HB2⟩
        case measure => simp [intOf]; omega
    · obtain rfl : k = n := by omega
      have HE : Hid (R = -1) := by
        have h1 := inc_step (l := l) (k := k) HB.out (by have := HLN.out; omega)
        unfold Hid
        rw [HR.out, if_neg (by have := HLN.out; omega)]
      go_wp2
      go_ret
      exact ⟨by rw [HE.out]; rfl, hnx⟩

/-! ### A list, cut at its first include -/
theorem cut_none (file : Int) (l : List TokV) (A : Option Addr) (n c : Nat) (w : World) (hl : Lies w w.heap.size 4 A n (toksV file l)) (hn : n ≤ 1000000) (hi : ¬ incAt l < l.length) :
    Calls Tryd.prog 11 #[.slice A n c] w fun e w' => e = .returned (.tuple #[.slice A n c, .slice none 0 0, .bool false]) ∧ Below w.heap.size w w' := by
  have HC := Lib.hid (indexFn_any file l A n c w hl hn)
  rw [if_neg hi] at HC
  clear hl hi
  go_enter Tryd.func11, Tryd.ntmps11
  go_wp2_with fail
  refine HC.out.mono ?_
  rintro e w1 ⟨rfl, hb1⟩
  go_wp2_with fail
  go_ret3
  exact ⟨rfl, hb1⟩

theorem cut_some (file : Int) (l : List TokV) (b o n c : Nat) (w : World) (hl : Lies w w.heap.size 4 (some ⟨b, o, none⟩) n (toksV file l)) (hn : n ≤ 1000000) (hnc : n ≤ c) (hi : incAt l < l.length) :
    Calls Tryd.prog 11 #[.slice (some ⟨b, o, none⟩) n c] w fun e w' =>
      e = .returned (.tuple #[.slice (some ⟨b, o, none⟩) (incAt l) c, .slice (some ⟨b, o + incAt l * 4, none⟩) (n - incAt l) (c - incAt l), .bool true]) ∧ Below w.heap.size w w' := by
  have hln : l.length = n := by have := hl.1; rw [toksV_len] at this; omega
  have HC := Lib.hid (indexFn_any file l _ n c w hl hn)
  rw [if_pos hi] at HC
  obtain ⟨i, hI⟩ : ∃ i, i = incAt l := ⟨_, rfl⟩
  rw [← hI] at HC hi ⊢
  have hin : i < n := by omega
  have hic : i < c := by omega
  clear hl hi hI hln
  go_enter Tryd.func11, Tryd.ntmps11
  go_wp2_with fail
  refine HC.out.mono ?_
  rintro e w1 ⟨rfl, hb1⟩
  go_wp2_with fail
  try go_quiet (fail)
  go_wp2_with fail
  go_ret3
  exact ⟨rfl, below_drewN hb1 _⟩

/-! ### Whether a number is among some -/
set_option maxHeartbeats 2000000 in
theorem index_ints (l : List Nat) (x : Nat) (A : Option Addr) (n c : Nat) (w : World) (hl : Lies w w.heap.size 1 A n (natsV l)) (hn : n ≤ 1000000) :
    Calls Tryd.prog 43 #[.slice A n c, .int .i64 (x : Int)] w
      fun e w' => (∃ v : Int, e = .returned (.int .i64 v) ∧ -1 ≤ v ∧ v ≤ 1000000 ∧ l.contains x = decide (0 ≤ v)) ∧ Below w.heap.size w w' := by
  have hln : l.length = n := by have := hl.1; rw [natsV_len] at this; omega
  have HL := Lib.hid hl
  have HLN := Lib.hid hln
  clear hl hln
  go_enter Tryd.func43, Tryd.ntmps43
  go_wp2_with fail
  go_loopw [8] (fun i wr => ∃ k : Nat, k ≤ n ∧ i = .int .i64 k ∧ Below w.heap.size w wr ∧ Hid (∀ j y, j < k → l[j]? = some y → y ≠ x)) (fun i _ => n - (intOf i).toNat)
  case atStart => exact ⟨0, by omega, rfl, Below.refl _ _, fun j t h => absurd h (Nat.not_lt_zero _)⟩
  case round =>
    obtain ⟨k, hk, rfl, hnx, HB⟩ := hrel
    by_cases hlt : k < n
    · obtain ⟨y, hy⟩ : ∃ y, l[k]? = some y := ⟨_, List.getElem?_eq_getElem (by have := HLN.out; omega)⟩
      obtain ⟨b, o, rfl, hb, hc⟩ := HL.out.2 (by omega)
      have t0 := (hnx.cell (p := ⟨b, o + k, none⟩) hb).trans (hc k (.int .i64 (y : Int)) (by simp [natsV, hy]))
      have HT := Lib.hid hy
      clear hc hy
      by_cases hxy : x = y
      · subst hxy
        have HE : Hid (l.contains x = true) := by
          unfold Hid
          rw [List.contains_iff_mem]
          exact List.mem_of_getElem? HT.out
        go_wp2_with fail
        try go_quiet (fail)
        go_wp2_with fail
        go_ret
        exact ⟨⟨k, rfl, by omega, by omega, by rw [HE.out]; simp⟩, hnx⟩
      · have hne : ¬ (x : Int) = (y : Int) := by omega
        have HB2 : Hid (∀ j z, j < k + 1 → l[j]? = some z → z ≠ x) := fun j u hj hu => by
          rcases Nat.lt_or_ge j k with h | h
          · exact HB.out j u h hu
          · obtain rfl : j = k := by omega
            rw [HT.out] at hu
            obtain rfl := Option.some.inj hu
            exact fun e => hxy e.symm
        clear hxy
        go_wp2_with fail
        try go_quiet (fail)
        go_wp2_with fail
        go_roundw
        case rel => exact ⟨k + 1, by omega, by go_num, hnx, HB2⟩
        case measure => simp [intOf]; omega
    · obtain rfl : k = n := by omega
      have HE : Hid (l.contains x = false) := by
        unfold Hid
        rw [Bool.eq_false_iff]
        intro h
        rw [List.contains_iff_mem] at h
        obtain ⟨j, hj, he⟩ := List.getElem_of_mem h
        exact HB.out j x (by have := HLN.out; omega) (by rw [List.getElem?_eq_getElem hj, he]) rfl
      go_wp2
      go_ret
      exact ⟨⟨-1, rfl, by omega, by omega, by rw [HE.out]; rfl⟩, hnx⟩

theorem contains_ints (l : List Nat) (x : Nat) (A : Option Addr) (n c : Nat) (w : World) (hl : Lies w w.heap.size 1 A n (natsV l)) (hn : n ≤ 1000000) :
    Calls Tryd.prog 27 #[.slice A n c, .int .i64 (x : Int)] w fun e w' => e = .returned (.bool (l.contains x)) ∧ Below w.heap.size w w' := by
  have HC := Lib.hid (index_ints l x A n c w hl hn)
  generalize l.contains x = R at *
  clear hl
  go_enter Tryd.func27, Tryd.ntmps27
  go_wp2_with fail
  refine HC.out.mono ?_
  rintro e w1 ⟨⟨v, rfl, h1, h2, he⟩, hb1⟩
  have HE := Lib.hid he
  clear he
  go_wp2_with fail
  go_ret
  exact ⟨by rw [HE.out]; rfl, hb1⟩

end Go.Proofs.YtdjhpgpekomjeaaDoor.LandedW
