/- Texts of mine put together (a claim has at most so many files): OpenInts, TokApp, TokLines. -/
import Derived.Test.YtdjhpgpekomjeaaGreatDoorPart1
import Derived.Test.YtdjhpgpekomjeaaGreatDoorPart5
/- Slices of integers that came in, as lists. No condition. -/
namespace Go.Proofs.YtdjhpgpekomjeaaGreatDoor
open Go.RowKit Go.ChangeShapes Go.WideShapes Go.ChangeAt

theorem open_ints {H : Type} {enc : TypeId × Value → H} {P : Program} {w : World} {spare : Nat → Bool} {held : Bool} {k : IntKind} {t e : TypeId} {fuel n c : Nat} {A : Option Addr} {x : DataW H × List MemPlace}
    (ht : P.underlying t = some (.slice e)) (he : P.underlying e = some (.int k)) (hC : P.cellsOf e = 1)
    (h : DataW.trod enc P w 0 spare held fuel t [.slice A n c] = some x) :
    n ≤ c ∧ ((n = 0 ∧ x.1 = .nil) ∨ ∃ el sp, x.1 = .slice el sp ∧ n ≤ el.length + sp.length) ∧ ∃ l : List Int, Lies w w.heap.size 1 A n (l.map (Value.int k)) ∧ ∀ y ∈ l, (Lit.int k y).wf = true := by
  obtain ⟨hnc, hr, L, hL, hl, hel⟩ := open_slice_lies ht (C := 1) hC (by omega) h
  refine ⟨hnc, hr, ?_⟩
  obtain ⟨M, hM, hw⟩ := list_of (f := fun b : Int => [Value.int k b]) (p := fun b => (Lit.int k b).wf = true) L (fun cs hcs => by
    obtain ⟨m, y, hy⟩ := hel cs hcs
    obtain ⟨q, rfl, _, hw⟩ := DataW.trod_int he hy
    exact ⟨q, rfl, hw⟩)
  refine ⟨M, ?_, hw⟩
  have e : L.flatten = M.map (Value.int k) := by
    rw [hM]
    clear hM hw
    induction M with
    | nil => rfl
    | cons b M ih => simp at ih ⊢; exact ih
  rw [← e]
  exact hl

theorem wf_bd_i64 {y : Int} (h : (Lit.int .i64 y).wf = true) : -9223372036854775808 ≤ y ∧ y ≤ 9223372036854775807 := by simpa [Lit.wf, IntKind.min, IntKind.max, IntKind.signed, IntKind.bits] using h
theorem wf_bd_u32 {y : Int} (h : (Lit.int .u32 y).wf = true) : 0 ≤ y ∧ y ≤ 4294967295 := by simpa [Lit.wf, IntKind.min, IntKind.max, IntKind.signed, IntKind.bits] using h
theorem wf_bd_u64 {y : Int} (h : (Lit.int .u64 y).wf = true) : 0 ≤ y ∧ y ≤ 18446744073709551615 := by simpa [Lit.wf, IntKind.min, IntKind.max, IntKind.signed, IntKind.bits] using h

end Go.Proofs.YtdjhpgpekomjeaaGreatDoor

/- Two texts, line by line, are taken apart as each of them: plain facts. -/
namespace Go.Proofs.YtdjhpgpekomjeaaGreatDoor
open Go.RowKit

theorem run_app (p : UInt8 → Bool) (hp : p 10 = false) (t : List UInt8) : ∀ r : List UInt8, runLen p (r ++ 10 :: t) = runLen p r
  | [] => by
    rw [List.nil_append, run_no _ hp]
    rfl
  | c :: r => by
    rw [List.cons_append, runLen, runLen, run_app p hp t r]

theorem begins_app (t : List UInt8) : ∀ (w r : List UInt8), (10 : UInt8) ∉ w → beginsL w (r ++ 10 :: t) = beginsL w r
  | [], r, _ => by simp [beginsL]
  | a :: w, [], h => by
    have ha : ¬ (10 : UInt8) = a := fun e => h (by rw [e]; exact List.mem_cons_self ..)
    simp [beginsL, ha]
  | a :: w, b :: r, h => by
    have ih := begins_app t w r (fun hm => h (List.mem_cons_of_mem _ hm))
    unfold beginsL at ih ⊢
    simp only [List.length_cons, List.cons_append, List.take_succ_cons, List.cons_beq_cons]
    rw [ih]

theorem end_app (t : List UInt8) : ∀ (r : List UInt8) (m : Nat), endOf r = some m → endOf (r ++ 10 :: t) = some m
  | [], m, h => by cases h
  | c :: r, m, h => by
    have hb := begins_app t [42, 47] (c :: r) (by decide)
    rw [List.cons_append] at hb ⊢
    rw [endOf] at h ⊢
    rw [hb]
    by_cases hq : beginsL [42, 47] (c :: r) = true
    · rw [if_pos hq] at h ⊢
      exact h
    · rw [if_neg hq] at h ⊢
      cases he : endOf r with
      | none => rw [he] at h; cases h
      | some k =>
        rw [he] at h
        rw [end_app t r k he]
        exact h

theorem hex_app (t : List UInt8) (r : List UInt8) : hexAhead (r ++ 10 :: t) = hexAhead r := by
  cases r with
  | nil =>
    cases t with
    | nil => rfl
    | cons a t => simp [hexAhead]
  | cons a r =>
    cases r with
    | nil => simp [hexAhead]
    | cons b r => rfl
theorem hex_two {r : List UInt8} (h : hexAhead r = true) : 2 ≤ r.length := by
  cases r with
  | nil => cases h
  | cons a r =>
    cases r with
    | nil => cases h
    | cons b r => simp
theorem goes_app (t : List UInt8) (r : List UInt8) : goesOn (r ++ 10 :: t) = goesOn r := by
  cases r with
  | nil =>
    show wordB 10 = false
    decide
  | cons a r => rfl
theorem ishex_nl (base : Nat) : isHex base 10 = false := by
  have : hexOf 10 = -1 := by decide
  unfold isHex
  rw [this]
  rfl
theorem digits_app (base : Nat) (t : List UInt8) : ∀ (r : List UInt8) (n : Nat), digitsOf base n (r ++ 10 :: t) = digitsOf base n r
  | [], n => by
    rw [List.nil_append, digits_no (ishex_nl base)]
    rfl
  | c :: r, n => by
    rw [List.cons_append, digitsOf, digitsOf, digits_app base t r]
theorem drop_app (t : List UInt8) (r : List UInt8) (k : Nat) (h : k ≤ r.length) : (r ++ 10 :: t).drop k = r.drop k ++ 10 :: t := by
  rw [List.drop_append_of_le_length h]
theorem take_app (t : List UInt8) (r : List UInt8) (k : Nat) (h : k ≤ r.length) : (r ++ 10 :: t).take k = r.take k := by
  rw [List.take_append_of_le_length h]

theorem num_app (t : List UInt8) (r : List UInt8) : numL (r ++ 10 :: t) = numL r := by
  unfold numL
  dsimp only
  rw [hex_app]
  have hoff : (if hexAhead r then 2 else 0) ≤ r.length := by
    split
    · rename_i h; exact hex_two h
    · omega
  rw [drop_app t r _ hoff, digits_app]
  cases hd : digitsOf (if hexAhead r then 16 else 10) 0 (r.drop (if hexAhead r then 2 else 0)) with
  | none => rfl
  | some u =>
    obtain ⟨v, k⟩ := u
    have hk := digits_len _ _ _ _ _ hd
    rw [List.length_drop] at hk
    dsimp only
    rw [drop_app t r _ (by omega), goes_app]

theorem sign_app (t : List UInt8) (r : List UInt8) (hr : r ≠ []) : signL (r ++ 10 :: t) = signL r := by
  cases r with
  | nil => exact absurd rfl hr
  | cons a r =>
    cases r with
    | nil => simp [signL, twoSigns]
    | cons b r => simp [signL]

theorem one_app (t : List UInt8) (r : List UInt8) (v : Int × List UInt8 × Nat) (h : oneL r = some v) : oneL (r ++ 10 :: t) = some v := by
  cases r with
  | nil => cases h
  | cons c u =>
    have hnum := num_app t (c :: u)
    have hsign := sign_app t (c :: u) (by simp)
    have hb1 := begins_app t [35, 105, 110, 99, 108, 117, 100, 101] (c :: u) (by decide)
    have hb2 := begins_app t [35, 100, 101, 102, 105, 110, 101] (c :: u) (by decide)
    have hrun := run_app wordB (by decide) t (c :: u)
    have hstr := run_app (fun x => !(x == 34) && !(x == 10)) (by decide) t u
    rw [List.cons_append] at hnum hsign hb1 hb2 hrun ⊢
    unfold oneL at h ⊢
    dsimp only at h ⊢
    by_cases hl : letterB c = true
    rotate_left
    · rw [if_neg hl] at h ⊢
      by_cases hg : digB c = true
      rotate_left
      · rw [if_neg hg] at h ⊢
        by_cases h34 : c = 34
        · rw [if_pos h34] at h ⊢
          rw [hstr]
          generalize hn : runLen (fun x => !(x == 34) && !(x == 10)) u = n at *
          have hle : n ≤ u.length := by rw [← hn]; exact run_le _ _
          rw [drop_app t u n hle, take_app t u n hle]
          cases hd : u.drop n with
          | nil => rw [hd] at h; cases h
          | cons a w =>
            rw [hd] at h
            by_cases ha : a = 34
            · rw [ha] at h ⊢
              exact h
            · split at h
              · rename_i he
                simp only [List.cons.injEq] at he
                exact absurd he.1 ha
              · cases h
        · rw [if_neg h34] at h ⊢
          by_cases h35 : c = 35
          · rw [if_pos h35] at h ⊢
            rw [hb1, hb2]
            have g1 : beginsL [35, 105, 110, 99, 108, 117, 100, 101] (c :: u) = true → goesOn ((c :: (u ++ 10 :: t)).drop 8) = goesOn ((c :: u).drop 8) := fun hb => by
              rw [← List.cons_append, drop_app t (c :: u) 8 (begins_len hb), goes_app]
            have g2 : beginsL [35, 100, 101, 102, 105, 110, 101] (c :: u) = true → goesOn ((c :: (u ++ 10 :: t)).drop 7) = goesOn ((c :: u).drop 7) := fun hb => by
              rw [← List.cons_append, drop_app t (c :: u) 7 (begins_len hb), goes_app]
            cases e1 : beginsL [35, 105, 110, 99, 108, 117, 100, 101] (c :: u)
            · rw [e1] at h
              simp only [Bool.false_and, Bool.false_eq_true, if_false] at h ⊢
              cases e2 : beginsL [35, 100, 101, 102, 105, 110, 101] (c :: u)
              · rw [e2] at h
                simp at h
              · rw [e2] at h
                rw [g2 e2]
                exact h
            · rw [e1] at h
              rw [g1 e1]
              cases e2 : beginsL [35, 100, 101, 102, 105, 110, 101] (c :: u)
              · rw [e2] at h
                exact h
              · rw [e2] at h
                rw [g2 e2]
                exact h
          · rw [if_neg h35] at h ⊢
            rw [hsign]
            by_cases hs : signL (c :: u) = 0
            · rw [if_pos hs] at h
              cases h
            · rw [if_neg hs] at h ⊢
              rw [← List.cons_append, take_app t (c :: u) _ sign_len]
              exact h
      · rw [if_pos hg] at h ⊢
        rw [hnum]
        cases hn : numL (c :: u) with
        | none => rw [hn] at h; cases h
        | some w =>
          rw [hn] at h
          have h5 := Option.some.inj h
          show some (2, (c :: (u ++ 10 :: t)).take w.2, w.2) = some v
          rw [← List.cons_append, take_app t (c :: u) _ (num_len hn), ← h5]
    · rw [if_pos hl] at h ⊢
      rw [hrun, ← List.cons_append, take_app t (c :: u) _ (run_le _ _)]
      exact h

theorem skip_app (t : List UInt8) (r : List UInt8) (n : Nat) (hr : r ≠ []) (h : skipL r = some n) : skipL (r ++ 10 :: t) = some n := by
  cases r with
  | nil => exact absurd rfl hr
  | cons c u =>
    have h1 := begins_app t [47, 47] (c :: u) (by decide)
    have h2 := begins_app t [47, 42] (c :: u) (by decide)
    have h3 := run_app (fun x => !(x == 10)) (by decide) t (c :: u)
    rw [List.cons_append] at h1 h2 h3 ⊢
    cases hb : blankB c
    · cases e1 : beginsL [47, 47] (c :: u)
      · cases e2 : beginsL [47, 42] (c :: u)
        · rw [skip_no hb e1 e2] at h
          rw [skip_no hb (by rw [h1, e1]) (by rw [h2, e2])]
          exact h
        · rw [skip_far hb e1 e2] at h
          rw [skip_far hb (by rw [h1, e1]) (by rw [h2, e2]), ← List.cons_append, drop_app t (c :: u) 2 (begins_len e2)]
          cases he : endOf ((c :: u).drop 2) with
          | none => rw [he] at h; cases h
          | some m =>
            rw [he] at h
            rw [end_app t _ m he]
            exact h
      · rw [skip_line hb e1] at h
        rw [skip_line hb (by rw [h1, e1]), h3]
        exact h
    · rw [skip_blank hb] at h
      rw [skip_blank hb]
      exact h

end Go.Proofs.YtdjhpgpekomjeaaGreatDoor

/- The tokens of two texts, line by line: those of the first, then those of the second, further down. -/
namespace Go.Proofs.YtdjhpgpekomjeaaGreatDoor
open Go.RowKit

theorem splitL_fuel : ∀ (f g : Nat) (p : Nat × Nat) (r : List UInt8), r.length ≤ f → r.length ≤ g → splitL f p r = splitL g p r
  | f, g, p, [], _, _ => by rw [split_nil, split_nil]
  | 0, g, p, c :: t, h, _ => by simp at h
  | f + 1, 0, p, c :: t, _, h => by simp at h
  | f + 1, g + 1, p, c :: t, hf, hg => by
    rw [List.length_cons] at hf hg
    cases hs : skipL (c :: t) with
    | none => rw [split_far (by simp) hs, split_far (by simp) hs]
    | some n =>
      by_cases hn : 0 < n
      · rw [split_skip (by simp) hs hn, split_skip (by simp) hs hn]
        exact splitL_fuel f g _ _ (by rw [List.length_drop, List.length_cons]; omega) (by rw [List.length_drop, List.length_cons]; omega)
      · obtain rfl : n = 0 := by omega
        cases ho : oneL (c :: t) with
        | none => rw [split_bad (by simp) hs ho, split_bad (by simp) hs ho]
        | some v =>
          have := one_len ho
          rw [split_tok (by simp) hs ho, split_tok (by simp) hs ho, splitL_fuel f g _ _ (by rw [List.length_drop, List.length_cons]; omega) (by rw [List.length_drop, List.length_cons]; omega)]

theorem pos_app (p : Nat × Nat) (u v : List UInt8) : posFrom p (u ++ v) = posFrom (posFrom p u) v := by
  unfold posFrom
  rw [List.foldl_append]

theorem splitL_join (t : List UInt8) : ∀ (f : Nat) (p : Nat × Nat) (r : List UInt8) (l : List TokV), r.length ≤ f → splitL f p r = .ok l → ∀ g, r.length + 1 + t.length ≤ g →
    splitL g p (r ++ 10 :: t) = (splitL g (posFrom p (r ++ [10])) t).map (l ++ ·)
  | f, p, [], l, _, h, g, hg => by
    rw [split_nil] at h
    have hl : [] = l := by injection h
    subst hl
    obtain ⟨g', rfl⟩ : ∃ g', g = g' + 1 := ⟨g - 1, by simp at hg; omega⟩
    rw [List.nil_append, split_skip (n := 1) (by simp) (skip_blank (by decide)) (by omega), List.nil_append]
    show splitL g' (posFrom p [10]) t = (splitL (g' + 1) (posFrom p [10]) t).map fun x => [] ++ x
    rw [splitL_fuel g' (g' + 1) _ t (by simp at hg; omega) (by simp at hg; omega)]
    cases splitL (g' + 1) (posFrom p [10]) t <;> rfl
  | 0, p, c :: u, l, hf, _, g, _ => by simp at hf
  | f + 1, p, c :: u, l, hf, h, g, hg => by
    obtain ⟨g', rfl⟩ : ∃ g', g = g' + 1 := ⟨g - 1, by simp at hg; omega⟩
    have hlen : (c :: u).length ≤ f + 1 := hf
    generalize hr : c :: u = r at *
    have hne : r ≠ [] := by rw [← hr]; simp
    have hne2 : r ++ 10 :: t ≠ [] := by simp
    cases hs : skipL r with
    | none => rw [split_far hne hs] at h; cases h
    | some n =>
      have hnl := skip_len hs
      have hs2 := skip_app t r n hne hs
      by_cases hn : 0 < n
      · rw [split_skip hne hs hn] at h
        have hd : (r.drop n).length = r.length - n := List.length_drop ..
        have ih := splitL_join t f _ _ l (by omega) h g' (by omega)
        rw [split_skip hne2 hs2 hn, take_app t r n hnl, drop_app t r n hnl, ih, ← pos_app, ← List.append_assoc, List.take_append_drop]
        rw [splitL_fuel g' (g' + 1) _ t (by omega) (by omega)]
      · obtain rfl : n = 0 := by omega
        cases ho : oneL r with
        | none => rw [split_bad hne hs ho] at h; cases h
        | some v =>
          have hol := one_len ho
          have ho2 := one_app t r v ho
          rw [split_tok hne hs ho] at h
          cases hm : splitL f (posFrom p (r.take v.2.2)) (r.drop v.2.2) with
          | error e => rw [hm] at h; cases h
          | ok m =>
            rw [hm] at h
            have hl : (⟨v.1, v.2.1, p⟩ : TokV) :: m = l := by injection h
            have hd : (r.drop v.2.2).length = r.length - v.2.2 := List.length_drop ..
            have ih := splitL_join t f _ _ m (by omega) hm g' (by omega)
            rw [split_tok hne2 hs2 ho2, take_app t r _ hol.2, drop_app t r _ hol.2, ih, ← pos_app, ← List.append_assoc, List.take_append_drop]
            rw [splitL_fuel g' (g' + 1) _ t (by omega) (by omega), ← hl]
            cases splitL (g' + 1) (posFrom p (r ++ [10])) t <;> rfl

/-- A token so many lines further down. -/
def shiftT (L : Nat) (t : TokV) : TokV := ⟨t.kind, t.text, (L + t.place.1, t.place.2)⟩
def shiftR (L : Nat) : Except (Nat × Nat) (List TokV) → Except (Nat × Nat) (List TokV)
  | .error e => .error (L + e.1, e.2)
  | .ok l => .ok (l.map (shiftT L))
theorem pos_shift (L : Nat) : ∀ (u : List UInt8) (p : Nat × Nat), posFrom (L + p.1, p.2) u = (L + (posFrom p u).1, (posFrom p u).2)
  | [], p => rfl
  | b :: u, p => by
    have e : ∀ q : Nat × Nat, posFrom q (b :: u) = posFrom (stepPos q b) u := fun q => rfl
    rw [e, e, ← pos_shift L u]
    congr 1
    unfold stepPos
    split <;> simp [Nat.add_assoc]
theorem splitL_shift (L : Nat) : ∀ (f : Nat) (p : Nat × Nat) (r : List UInt8), splitL f (L + p.1, p.2) r = shiftR L (splitL f p r)
  | f, p, [] => by
    rw [split_nil, split_nil]
    rfl
  | 0, p, c :: t => rfl
  | f + 1, p, c :: t => by
    cases hs : skipL (c :: t) with
    | none =>
      rw [split_far (by simp) hs, split_far (by simp) hs]
      rfl
    | some n =>
      by_cases hn : 0 < n
      · rw [split_skip (by simp) hs hn, split_skip (by simp) hs hn, pos_shift]
        exact splitL_shift L f _ _
      · obtain rfl : n = 0 := by omega
        cases ho : oneL (c :: t) with
        | none =>
          rw [split_bad (by simp) hs ho, split_bad (by simp) hs ho]
          rfl
        | some v =>
          rw [split_tok (by simp) hs ho, split_tok (by simp) hs ho, pos_shift, splitL_shift L f]
          cases splitL f (posFrom p ((c :: t).take v.2.2)) ((c :: t).drop v.2.2) <;> rfl

theorem splitOf_ok {s : List UInt8} {l : List TokV} (h : splitOf s = .ok l) : s.length ≤ 20000 ∧ splitL s.length (1, 1) s = .ok l := by
  unfold splitOf at h
  by_cases hl : 20000 < s.length
  · rw [if_pos hl] at h
    cases h
  · rw [if_neg hl] at h
    cases hs : splitL s.length (1, 1) s with
    | error e => rw [hs] at h; cases h
    | ok m =>
      rw [hs] at h
      have hm : m = l := by injection h
      exact ⟨by omega, by rw [hm]⟩

theorem splitOf_join {s t : List UInt8} {x y : List TokV} (hx : splitOf s = .ok x) (hy : splitOf t = .ok y) (hl : s.length + 1 + t.length ≤ 20000) :
    splitOf (s ++ 10 :: t) = .ok (x ++ y.map (shiftT (posFrom (1, 1) s).1)) := by
  obtain ⟨_, hx⟩ := splitOf_ok hx
  obtain ⟨_, hy⟩ := splitOf_ok hy
  have hlen : (s ++ 10 :: t).length = s.length + 1 + t.length := by simp; omega
  unfold splitOf
  rw [if_neg (by rw [hlen]; omega), hlen, splitL_join t s.length (1, 1) s x (Nat.le_refl _) hx _ (Nat.le_refl _), pos_app]
  have hp : posFrom (posFrom (1, 1) s) [10] = ((posFrom (1, 1) s).1 + 1, 1) := by
    show stepPos (posFrom (1, 1) s) 10 = _
    unfold stepPos
    rw [if_pos rfl]
  have hsh := splitL_shift (posFrom (1, 1) s).1 (s.length + 1 + t.length) (1, 1) t
  rw [hp]
  have e : ((posFrom (1, 1) s).1 + 1, 1) = ((posFrom (1, 1) s).1 + ((1, 1) : Nat × Nat).1, ((1, 1) : Nat × Nat).2) := rfl
  rw [e, hsh, splitL_fuel _ t.length (1, 1) t (by omega) (Nat.le_refl _), hy]
  rfl

end Go.Proofs.YtdjhpgpekomjeaaGreatDoor
