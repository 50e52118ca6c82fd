/- Texts of mine put together (a claim has at most so many files): WcLib, WcCat. -/
import Derived.Test.YtdjhpgpekomjeaaGreatDoorWeaveRef
import Derived.Maps.AppendAt
import Derived.Lib.AppendZeros
/- What the landed weave asks of package slices, and its cut. No condition but sizes. -/
namespace Go.Proofs.YtdjhpgpekomjeaaGreatDoor.LandedW
open Go.RowKit

/-! ### Where the first include stands -/
/-- How many tokens stand ahead of the first include. -/
def incAt (l : List TokV) : Nat := (l.takeWhile fun t => !isInc t).length

theorem inc_le (l : List TokV) : incAt l ≤ l.length := by
  unfold incAt
  induction l with
  | nil => simp
  | cons t r ih =>
    rw [List.takeWhile_cons]
    split
    · simp only [List.length_cons]; omega
    · simp

theorem inc_step {l : List TokV} {k : Nat} (h : ∀ j t, j < k → l[j]? = some t → isInc t = false) (hk : k ≤ l.length) : incAt l = k + incAt (l.drop k) := by
  induction k generalizing l with
  | zero => simp
  | succ k ih =>
    cases l with
    | nil => simp at hk
    | cons t r =>
      have h0 : isInc t = false := h 0 t (by omega) rfl
      have := ih (l := r) (fun j u hj hu => h (j + 1) u (by omega) (by simpa using hu)) (by simpa using hk)
      unfold incAt at this ⊢
      rw [List.takeWhile_cons, h0]
      simp only [Bool.not_false, if_true, List.length_cons, List.drop_succ_cons]
      omega

theorem inc_here {t : TokV} {r : List TokV} (h : isInc t = true) : incAt (t :: r) = 0 := by
  unfold incAt
  rw [List.takeWhile_cons, h]
  rfl

theorem inc_before (l : List TokV) : ∀ j t, j < incAt l → l[j]? = some t → isInc t = false := by
  induction l with
  | nil => intro j t _ h; simp at h
  | cons u r ih =>
    intro j t hj ht
    cases hu : isInc u with
    | true => rw [inc_here hu] at hj; omega
    | false =>
      cases j with
      | zero => obtain rfl : u = t := by simpa using ht
                exact hu
      | succ j =>
        refine ih j t ?_ (by simpa using ht)
        unfold incAt at hj ⊢
        rw [List.takeWhile_cons, hu] at hj
        simp only [Bool.not_false, if_true, List.length_cons] at hj
        omega

theorem inc_at {l : List TokV} (h : incAt l < l.length) : ∃ t r, l.drop (incAt l) = t :: r ∧ isInc t = true := by
  induction l with
  | nil => simp at h
  | cons u r ih =>
    cases hu : isInc u with
    | true => rw [inc_here hu]; exact ⟨u, r, rfl, hu⟩
    | false =>
      have e : incAt (u :: r) = incAt r + 1 := by unfold incAt; rw [List.takeWhile_cons, hu]; rfl
      rw [e] at h ⊢
      exact ih (by simpa using h)

theorem incFn_any (file : Int) (t : TokV) (W : World) :
    Calls Tryz.prog 39 #[.agg #[.int .i64 t.kind, .string (strOf t.text), .int .i64 file, .complex .f64 (fl t.place.1) (fl t.place.2)]] W fun e w' => e = .returned (.bool (isInc t)) ∧ Below W.heap.size W w' := by
  have hst := store_cx
  have hq : ((strOf t.text).toList == [35, 105, 110, 99, 108, 117, 100, 101]) = (t.text == includeT) := by rw [strOf_toList]; rfl
  have hbn : Below W.heap.size W (W.alloc (.cells #[.int .i64 t.kind, .string (strOf t.text), .int .i64 file, .complex .f64 (fl t.place.1) (fl t.place.2)] 39)) := below_alloc (Below.refl _ _) (Nat.le_refl _) _
  have HI : Hid (isInc t = ((t.text == includeT) && (t.kind == 5))) := rfl
  generalize isInc t = I at *
  cases hk : (t.kind == 5) <;> cases hx : (t.text == includeT)
  all_goals
    rw [hk, hx] at HI
    rw [hx] at hq
    obtain ⟨⟩ : I = _ := HI
    clear hx
    go_enter Tryz.func39, Tryz.ntmps39
    go_wp2_with fail
    try go_quiet (fail)
    go_wp2_with fail
    go_ret
    exact ⟨rfl, hbn⟩

theorem enter_inc (args : Array Value) (w : World) : (callFunc 39 args).run Tryz.prog w = .ok (.enter 39 args) w := by kernel_rfl

set_option maxHeartbeats 2000000 in
theorem indexFn_any (file : Int) (l : List TokV) (A : Option Addr) (n c : Nat) (w : World) (hl : Lies w w.heap.size 4 A n (toksV file l)) (hn : n ≤ 1000000) :
    Calls Tryz.prog 38 #[.slice A n c, .func (.func 39) #[] #[]] w
      fun e w' => e = .returned (.int .i64 (if incAt l < l.length then (incAt l : Int) else -1)) ∧ Below w.heap.size w w' := by
  have hst := store_cx
  have hln : l.length = n := by have := hl.1; rw [toksV_len] at this; omega
  obtain ⟨R, hR⟩ : ∃ R : Int, R = if incAt l < l.length then (incAt l : Int) else -1 := ⟨_, rfl⟩
  have HR := Lib.hid hR
  have HL := Lib.hid hl
  have HLN := Lib.hid hln
  have HF : Hid (∀ (t : TokV) (W : World), Calls Tryz.prog 39 #[.agg #[.int .i64 t.kind, .string (strOf t.text), .int .i64 file, .complex .f64 (fl t.place.1) (fl t.place.2)]] W fun e w' => e = .returned (.bool (isInc t)) ∧ Below W.heap.size W w') := fun t W => incFn_any file t W
  have eg := enter_inc
  rw [← hR]
  clear hR hl hln
  go_enter Tryz.func38, Tryz.ntmps38
  go_wp2_with fail
  go_loopw [8] (fun i wr => ∃ k : Nat, k ≤ n ∧ i = .int .i64 k ∧ Below w.heap.size w wr ∧ Hid (∀ j t, j < k → l[j]? = some t → isInc t = false)) (fun i _ => n - (intOf i).toNat)
  case atStart => exact ⟨0, by omega, rfl, Below.refl _ _, fun j t h => absurd h (Nat.not_lt_zero _)⟩
  case round =>
    obtain ⟨k, hk, rfl, hnx, HB⟩ := hrel
    by_cases hlt : k < n
    · obtain ⟨t, ht⟩ : ∃ t, l[k]? = some t := ⟨_, List.getElem?_eq_getElem (by have := HLN.out; omega)⟩
      obtain ⟨b, o, rfl, hb, hc⟩ := HL.out.2 (by omega)
      obtain ⟨q0, q1, q2, q3⟩ := tok_cells file l k t ht
      have t0 := (hnx.cell (p := ⟨b, o + k * 4, none⟩) hb).trans (hc _ _ q0)
      have t1 := (hnx.cell (p := ⟨b, o + (k * 4 + 1), none⟩) hb).trans (hc _ _ q1)
      have t2 := (hnx.cell (p := ⟨b, o + (k * 4 + 2), none⟩) hb).trans (hc _ _ q2)
      have t3 := (hnx.cell (p := ⟨b, o + (k * 4 + 3), none⟩) hb).trans (hc _ _ q3)
      rw [← Nat.add_assoc] at t1 t2 t3
      have HT := Lib.hid ht
      have HC := Lib.hid (HF.out t)
      have HBS := Lib.hid (fun w' (h : Below wr.heap.size wr w') => hnx.trans (h.mono hnx.size))
      clear q0 q1 q2 q3 hc ht hnx
      cases hinc : isInc t with
      | true =>
        have HE : Hid (R = (k : Int)) := by
          have h1 := inc_step (l := l) (k := k) HB.out (by have := HLN.out; omega)
          have hd : l.drop k = t :: l.drop (k + 1) := by
            obtain ⟨h1, h2⟩ := List.getElem?_eq_some_iff.1 HT.out
            rw [List.drop_eq_getElem_cons h1, h2]
          rw [hd, inc_here hinc] at h1
          unfold Hid
          rw [HR.out, if_pos (by have := HLN.out; omega)]
          omega
        rw [hinc] at HC
        clear hinc
        go_wp2_with fail
        refine (HC.out _).mono ?_
        rintro e w1 ⟨rfl, hb1⟩
        go_wp2
        go_ret
        exact ⟨by rw [HE.out]; rfl, HBS.out _ hb1⟩
      | false =>
        rw [hinc] at HC
        have HB2 : Hid (∀ j t, j < k + 1 → l[j]? = some t → isInc t = false) := fun j u hj hu => by
          rcases Nat.lt_or_ge j k with h | h
          · exact HB.out j u h hu
          · obtain rfl : j = k := by omega
            rw [HT.out] at hu
            obtain rfl := Option.some.inj hu
            exact hinc
        clear hinc
        go_wp2_with fail
        refine (HC.out _).mono ?_
        rintro e w1 ⟨rfl, hb1⟩
        go_wp2
        go_roundw
        case rel => exact ⟨k + 1, by omega, by go_num, HBS.out _ hb1, HB2⟩
        case measure => simp [intOf]; omega
    · obtain rfl : k = n := by omega
      have HE : Hid (R = -1) := by
        have h1 := inc_step (l := l) (k := k) HB.out (by have := HLN.out; omega)
        unfold Hid
        rw [HR.out, if_neg (by have := HLN.out; omega)]
      go_wp2
      go_ret
      exact ⟨by rw [HE.out]; rfl, hnx⟩

/-! ### A list, cut at its first include -/
theorem cut_none (file : Int) (l : List TokV) (A : Option Addr) (n c : Nat) (w : World) (hl : Lies w w.heap.size 4 A n (toksV file l)) (hn : n ≤ 1000000) (hi : ¬ incAt l < l.length) :
    Calls Tryz.prog 24 #[.slice A n c] w fun e w' => e = .returned (.tuple #[.slice A n c, .slice none 0 0, .bool false]) ∧ Below w.heap.size w w' := by
  have HC := Lib.hid (indexFn_any file l A n c w hl hn)
  rw [if_neg hi] at HC
  clear hl hi
  go_enter Tryz.func24, Tryz.ntmps24
  go_wp2_with fail
  refine HC.out.mono ?_
  rintro e w1 ⟨rfl, hb1⟩
  go_wp2_with fail
  go_ret3
  exact ⟨rfl, hb1⟩

theorem cut_some (file : Int) (l : List TokV) (b o n c : Nat) (w : World) (hl : Lies w w.heap.size 4 (some ⟨b, o, none⟩) n (toksV file l)) (hn : n ≤ 1000000) (hnc : n ≤ c) (hi : incAt l < l.length) :
    Calls Tryz.prog 24 #[.slice (some ⟨b, o, none⟩) n c] w fun e w' =>
      e = .returned (.tuple #[.slice (some ⟨b, o, none⟩) (incAt l) c, .slice (some ⟨b, o + incAt l * 4, none⟩) (n - incAt l) (c - incAt l), .bool true]) ∧ Below w.heap.size w w' := by
  have hln : l.length = n := by have := hl.1; rw [toksV_len] at this; omega
  have HC := Lib.hid (indexFn_any file l _ n c w hl hn)
  rw [if_pos hi] at HC
  obtain ⟨i, hI⟩ : ∃ i, i = incAt l := ⟨_, rfl⟩
  rw [← hI] at HC hi ⊢
  have hin : i < n := by omega
  have hic : i < c := by omega
  clear hl hi hI hln
  go_enter Tryz.func24, Tryz.ntmps24
  go_wp2_with fail
  refine HC.out.mono ?_
  rintro e w1 ⟨rfl, hb1⟩
  go_wp2_with fail
  try go_quiet (fail)
  go_wp2_with fail
  go_ret3
  exact ⟨rfl, below_drewN hb1 _⟩

/-! ### Whether a number is among some -/
set_option maxHeartbeats 2000000 in
theorem index_ints (l : List Nat) (x : Nat) (A : Option Addr) (n c : Nat) (w : World) (hl : Lies w w.heap.size 1 A n (natsV l)) (hn : n ≤ 1000000) :
    Calls Tryz.prog 67 #[.slice A n c, .int .i64 (x : Int)] w
      fun e w' => (∃ v : Int, e = .returned (.int .i64 v) ∧ -1 ≤ v ∧ v ≤ 1000000 ∧ l.contains x = decide (0 ≤ v)) ∧ Below w.heap.size w w' := by
  have hln : l.length = n := by have := hl.1; rw [natsV_len] at this; omega
  have HL := Lib.hid hl
  have HLN := Lib.hid hln
  clear hl hln
  go_enter Tryz.func67, Tryz.ntmps67
  go_wp2_with fail
  go_loopw [8] (fun i wr => ∃ k : Nat, k ≤ n ∧ i = .int .i64 k ∧ Below w.heap.size w wr ∧ Hid (∀ j y, j < k → l[j]? = some y → y ≠ x)) (fun i _ => n - (intOf i).toNat)
  case atStart => exact ⟨0, by omega, rfl, Below.refl _ _, fun j t h => absurd h (Nat.not_lt_zero _)⟩
  case round =>
    obtain ⟨k, hk, rfl, hnx, HB⟩ := hrel
    by_cases hlt : k < n
    · obtain ⟨y, hy⟩ : ∃ y, l[k]? = some y := ⟨_, List.getElem?_eq_getElem (by have := HLN.out; omega)⟩
      obtain ⟨b, o, rfl, hb, hc⟩ := HL.out.2 (by omega)
      have t0 := (hnx.cell (p := ⟨b, o + k, none⟩) hb).trans (hc k (.int .i64 (y : Int)) (by simp [natsV, hy]))
      have HT := Lib.hid hy
      clear hc hy
      by_cases hxy : x = y
      · subst hxy
        have HE : Hid (l.contains x = true) := by
          unfold Hid
          rw [List.contains_iff_mem]
          exact List.mem_of_getElem? HT.out
        go_wp2_with fail
        try go_quiet (fail)
        go_wp2_with fail
        go_ret
        exact ⟨⟨k, rfl, by omega, by omega, by rw [HE.out]; simp⟩, hnx⟩
      · have hne : ¬ (x : Int) = (y : Int) := by omega
        have HB2 : Hid (∀ j z, j < k + 1 → l[j]? = some z → z ≠ x) := fun j u hj hu => by
          rcases Nat.lt_or_ge j k with h | h
          · exact HB.out j u h hu
          · obtain rfl : j = k := by omega
            rw [HT.out] at hu
            obtain rfl := Option.some.inj hu
            exact fun e => hxy e.symm
        clear hxy
        go_wp2_with fail
        try go_quiet (fail)
        go_wp2_with fail
        go_roundw
        case rel => exact ⟨k + 1, by omega, by go_num, hnx, HB2⟩
        case measure => simp [intOf]; omega
    · obtain rfl : k = n := by omega
      have HE : Hid (l.contains x = false) := by
        unfold Hid
        rw [Bool.eq_false_iff]
        intro h
        rw [List.contains_iff_mem] at h
        obtain ⟨j, hj, he⟩ := List.getElem_of_mem h
        exact HB.out j x (by have := HLN.out; omega) (by rw [List.getElem?_eq_getElem hj, he]) rfl
      go_wp2
      go_ret
      exact ⟨⟨-1, rfl, by omega, by omega, by rw [HE.out]; rfl⟩, hnx⟩

theorem contains_ints (l : List Nat) (x : Nat) (A : Option Addr) (n c : Nat) (w : World) (hl : Lies w w.heap.size 1 A n (natsV l)) (hn : n ≤ 1000000) :
    Calls Tryz.prog 51 #[.slice A n c, .int .i64 (x : Int)] w fun e w' => e = .returned (.bool (l.contains x)) ∧ Below w.heap.size w w' := by
  have HC := Lib.hid (index_ints l x A n c w hl hn)
  generalize l.contains x = R at *
  clear hl
  go_enter Tryz.func51, Tryz.ntmps51
  go_wp2_with fail
  refine HC.out.mono ?_
  rintro e w1 ⟨⟨v, rfl, h1, h2, he⟩, hb1⟩
  have HE := Lib.hid he
  clear he
  go_wp2_with fail
  go_ret
  exact ⟨by rw [HE.out]; rfl, hb1⟩

end Go.Proofs.YtdjhpgpekomjeaaGreatDoor.LandedW

/- What slices.Grow and slices.Concat give the landed weave: lists of tokens, put together in new memory. -/
namespace Go.Proofs.YtdjhpgpekomjeaaGreatDoor.LandedW
open Go.RowKit

set_option maxHeartbeats 2000000 in
theorem grow_any (N : Nat) (w : World) (hN : N ≤ 1000000000) :
    Calls Tryz.prog 26 #[.slice none 0 0, .int .i64 (N : Int)] w
      fun e w' => ∃ v, e = .returned v ∧ w'.ownsRow w.heap.size 39 4 v 0 [] ∧ Below w.heap.size w w' := by
  obtain ⟨i0, hi, hz0, hz1, hz2⟩ := info_parts Tryz.infoTok
  have h1 : ¬ ((N : Int) < 0) := by omega
  rcases Nat.eq_zero_or_pos N with rfl | h0
  · go_enter Tryz.func26, Tryz.ntmps26
    go_wp2_with fail
    try go_quiet (fail)
    go_wp2_with fail
    go_ret
    exact ⟨_, rfl, World.ownsRow_nil _ _ _ _, Below.refl _ _⟩
  · have hr := fun (W : World) ty => Lib.run_append_nil_zeros (P := Tryz.prog) W 26 3 ty 39 i0 _ .i64 .i64 Tryz.underlying26 Tryz.underlying3 hi hz0 N h0 (by omega) (by omega) (by rw [hz2]; omega)
    have hG0 := fun (W : World) => grownCap_ge W N 0 39
    have hG1 := fun (W : World) => grownCap_le_maxLen W N 0 39 (by unfold maxLen; omega)
    have hgt : (0 : Int) < (N : Int) := by omega
    go_enter Tryz.func26, Tryz.ntmps26
    go_wp2_with (at_builtin; refine Lib.wpList_append_run _ rfl _ _ _ _ rfl _ _ rfl rfl _ _ (hr _ _) ?_)
    go_ret
    refine ⟨_, rfl, ?_, (below_alloc (Below.refl _ _) (Nat.le_refl _) _).drew⟩
    refine World.ownsRow_made w _ _ (Nat.le_refl _) (hG1 w) ?_
    rw [Array.size_append, size_zeroCells, size_zeroCells]
    have := hG0 w
    show N * 4 + (grownCap w N 0 39 - N) * 4 = _
    omega

/-! ### Put together -/
/-- How many tokens the first k lists have. -/
def total (l : List (List FTok)) : Nat := l.flatten.length
theorem total_le (l : List (List FTok)) (h : ∀ r ∈ l, r.length ≤ 20000) : total l ≤ 20000 * l.length := by
  unfold total
  induction l with
  | nil => simp
  | cons r s ih =>
    have h1 := h r List.mem_cons_self
    have h2 := ih fun x hx => h x (List.mem_cons_of_mem _ hx)
    rw [List.flatten_cons, List.length_append, List.length_cons]
    omega
theorem total_take {l : List (List FTok)} {k : Nat} {r : List FTok} (h : l[k]? = some r) : total (l.take (k + 1)) = total (l.take k) + r.length := by
  unfold total
  rw [take_one h, List.flatten_append, List.length_append]
  simp

set_option maxHeartbeats 4000000 in
theorem concat_any (Q : Option Addr) (m c : Nat) (qs : List Value) (runs : List (List FTok)) (w : World) (hq : Lies w w.heap.size 1 Q m qs) (hm : m = runs.length) (hm3 : m ≤ 3000) (hr : ∀ r ∈ runs, r.length ≤ 20000)
    (hp : ∀ (i : Nat) (q : Value) (r : List FTok), qs[i]? = some q → runs[i]? = some r → ∃ (A : Option Addr) (c : Nat), q = Value.slice A r.length c ∧ Lies w w.heap.size 4 A r.length (ftoksV r)) :
    Calls Tryz.prog 15 #[.slice Q m c] w (NewRow 39 4 runs.flatten.length (ftoksV runs.flatten) w) := by
  obtain ⟨i0, hi, hz0, hz1, hz2⟩ := info_parts Tryz.infoTok
  have hql : qs.length = m := by have := hq.1; omega
  have HQ := Lib.hid hq
  have HQL := Lib.hid hql
  have HM := Lib.hid hm
  have HR := Lib.hid hr
  have HP := Lib.hid hp
  have HT : Hid (∀ k, total (runs.take k) ≤ 60000000) := fun k => by
    have h1 := total_le (runs.take k) (fun r h => hr r (List.mem_of_mem_take h))
    have h2 : (runs.take k).length ≤ runs.length := List.length_take_le' _ _
    omega
  have HG : Hid (∀ (N : Nat) (W : World), N ≤ 60000000 → Calls Tryz.prog 26 #[.slice none 0 0, .int .i64 (N : Int)] W
      fun e w' => ∃ v, e = .returned v ∧ w'.ownsRow W.heap.size 39 4 v 0 [] ∧ Below W.heap.size W w') := fun N W h => grow_any N W (by omega)
  have HAT : Hid (∀ k, k < m → ∃ q r, qs[k]? = some q ∧ runs[k]? = some r) := fun k hk => ⟨_, _, List.getElem?_eq_getElem (by omega), List.getElem?_eq_getElem (by omega)⟩
  obtain ⟨X, hX⟩ : ∃ X, X = runs.flatten := ⟨_, rfl⟩
  have HX := Lib.hid hX
  obtain ⟨NX, hNX⟩ : ∃ NX, NX = X.length := ⟨_, rfl⟩
  have HNX := Lib.hid hNX
  rw [← hX, ← hNX]
  clear hq hql hm hr hp hX hNX
  go_enter Tryz.func15, Tryz.ntmps15
  go_wp2_with fail
  go_loopw [3, 11] (fun z i wr => ∃ k : Nat, k ≤ m ∧ i = .int .i64 k ∧ z = .int .i64 (total (runs.take k) : Nat) ∧ Below w.heap.size w wr) (fun _ i _ => m - (intOf i).toNat)
  case atStart => exact ⟨0, by omega, rfl, by simp [total], Below.refl _ _⟩
  case round =>
    obtain ⟨k, hk, rfl, rfl, hnx⟩ := hrel
    by_cases hlt : k < m
    · obtain ⟨q, r, hqk, hrk⟩ := HAT.out k hlt
      obtain ⟨A, cc, rfl, _⟩ := HP.out k q r hqk hrk
      obtain ⟨b, o, rfl, hb, hc⟩ := HQ.out.2 (by omega)
      have t0 := (hnx.cell (p := ⟨b, o + k, none⟩) hb).trans (hc k _ hqk)
      have h1 := HT.out k
      have h2 := HT.out (k + 1)
      have h3 := total_take hrk
      have HT3 : Hid (total (runs.take (k + 1)) = total (runs.take k) + r.length) := h3
      rw [h3] at h2
      generalize total (runs.take k) = S at *
      obtain ⟨L, hL⟩ : ∃ L, L = r.length := ⟨_, rfl⟩
      rw [← hL] at HT3 h2 t0
      have hneg : ¬ ((S : Int) + (L : Int) < 0) := by omega
      have hw1 : wrap64 ((S : Int) + (L : Int)) = (S : Int) + (L : Int) := by unfold wrap64; omega
      clear hc hqk hrk h3 hL
      go_wp2_with fail
      try go_quiet (fail)
      go_wp2_with fail
      go_roundw
      case rel => exact ⟨k + 1, by omega, by go_num, by rw [HT3.out]; go_num, hnx⟩
      case measure => simp [intOf]; omega
    · obtain rfl : m = k := by omega
      have hT0 := HT.out m
      go_wp2_with fail
      refine (HG.out _ _ hT0).mono ?_
      rintro e w2 ⟨v2, rfl, hown2, hb2⟩
      have hnx2 := hnx.trans (hb2.mono hnx.size)
      have HOWN2 := Lib.hid (own_base hown2 hnx.size)
      clear hown2 hb2 hnx
      go_wp2_with fail
      go_loopw [6, 27] (fun v i wr => ∃ k : Nat, k ≤ m ∧ i = .int .i64 k ∧ wr.ownsRow w.heap.size 39 4 v (total (runs.take k)) (ftoksV (runs.take k).flatten) ∧ Below w.heap.size w wr) (fun _ i _ => m - (intOf i).toNat)
      case atStart => exact ⟨0, by omega, rfl, HOWN2.out, hnx2⟩
      case round =>
        obtain ⟨k, hk, rfl, hown, hnx⟩ := hrel
        by_cases hlt : k < m
        · obtain ⟨q, r, hqk, hrk⟩ := HAT.out k hlt
          obtain ⟨A, cc, rfl, hla⟩ := HP.out k q r hqk hrk
          obtain ⟨b, o, rfl, hb, hc⟩ := HQ.out.2 (by omega)
          have t0 := (hnx.cell (p := ⟨b, o + k, none⟩) hb).trans (hc k _ hqk)
          have h1 := HT.out k
          have h2 := HT.out (k + 1)
          have h3 := total_take hrk
          have HFL : Hid ((runs.take (k + 1)).flatten = (runs.take k).flatten ++ r) := by
            unfold Hid
            rw [take_one hrk, List.flatten_append]
            simp
          have HT3 : Hid (total (runs.take (k + 1)) = total (runs.take k) + r.length) := h3
          rw [h3] at h2
          have hla1 := hla.below hnx
          have HOW := Lib.hid hown
          have HN := Lib.hid hnx
          generalize total (runs.take k) = S at *
          obtain ⟨F, hF⟩ : ∃ F, F = (runs.take k).flatten := ⟨_, rfl⟩
          rw [← hF] at HFL HOW hown
          obtain ⟨L, hL⟩ : ∃ L, L = r.length := ⟨_, rfl⟩
          have HL := Lib.hid hL
          rw [← hL] at HT3 h2 t0 hla1
          have hws := hnx.size
          clear hc hqk hrk h3 hL hla hF hnx
          go_wp2_with (at_builtin; go_loud (refine wpList_append_lies _ rfl (.tmp 31) (.tmp 32) _ rfl w.heap.size 39 i0 _ 4 48 Tryz.underlying26 hi hz0 hz1 hz2 rfl (by omega) _ _ _ rfl hown _ A L cc (ftoksV r) rfl hla1 (ftoksV_cells _) (by unfold maxLen; omega) (by omega) (by omega) ?_))
          intro v4 w4 hown4 hg4
          have HOW4 := Lib.hid hown4
          have HN4 := Lib.hid (below_grown HN.out HOW.out (Nat.le_refl _) hws hg4)
          clear hown4 hg4 hown hla1
          go_wp2
          go_roundw
          case rel => exact ⟨k + 1, by omega, by go_num, by rw [HT3.out, HFL.out, ftoksV_append]; exact HOW4.out, HN4.out⟩
          case measure => simp [intOf]; omega
        · obtain rfl : m = k := by omega
          have HE : Hid (X = (runs.take m).flatten ∧ NX = total (runs.take m)) := by
            have h : runs.take m = runs := List.take_of_length_le (by rw [← HM.out]; exact Nat.le_refl _)
            refine ⟨by rw [h]; exact HX.out, ?_⟩
            rw [h, HNX.out, HX.out]
            rfl
          go_wp2
          go_ret
          exact ⟨_, rfl, by rw [HE.out.1, HE.out.2]; exact hown, hnx⟩

end Go.Proofs.YtdjhpgpekomjeaaGreatDoor.LandedW
