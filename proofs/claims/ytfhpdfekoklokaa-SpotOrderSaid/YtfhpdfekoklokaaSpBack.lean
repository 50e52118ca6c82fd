/- The walk of the statement SpotBack. -/
import Derived.Test.YtfhpdfekoklokaaSpotFace
import Derived.Test.YtfhpdfekoklokaaFloatOrd
import Derived.StillTailTactics
import Derived.IntWalk
namespace Go.Proofs.Ytfhpdfekoklokaa
open Go.RowKit

theorem pos_append (p : Nat × Nat) (l m : List UInt8) : posFrom p (l ++ m) = posFrom (posFrom p l) m := by simp [posFrom, List.foldl_append]
theorem pos_move : ∀ (l : List UInt8) (p : Nat × Nat), 1 ≤ p.1 → 1 ≤ p.2 → 1 ≤ (posFrom p l).1 ∧ 1 ≤ (posFrom p l).2 ∧ (p.1 < (posFrom p l).1 ∨ ((posFrom p l).1 = p.1 ∧ (posFrom p l).2 = p.2 + l.length))
  | [], p, h1, h2 => ⟨h1, h2, .inr ⟨rfl, rfl⟩⟩
  | b :: l, p, h1, h2 => by
    have e : posFrom p (b :: l) = posFrom (stepPos p b) l := rfl
    rw [e]
    by_cases hb : b = 10
    · have hs : stepPos p b = (p.1 + 1, 1) := by unfold stepPos; rw [if_pos hb]
      rw [hs]
      obtain ⟨a1, a2, a3⟩ := pos_move l (p.1 + 1, 1) (by simp) (by simp)
      refine ⟨a1, a2, .inl ?_⟩
      rcases a3 with h | h
      · simp only at h; omega
      · have := h.1; simp only at this; omega
    · have hs : stepPos p b = (p.1, p.2 + 1) := by unfold stepPos; rw [if_neg hb]
      rw [hs]
      obtain ⟨a1, a2, a3⟩ := pos_move l (p.1, p.2 + 1) h1 (by simp)
      refine ⟨a1, a2, ?_⟩
      rcases a3 with h | h
      · exact .inl h
      · refine .inr ⟨h.1, ?_⟩
        have := h.2
        simp only [List.length_cons] at this ⊢
        omega

theorem posAt_take (s : List UInt8) (k : Nat) (h : k ≤ s.length) : posAt s (k : Int) = posFrom (1, 1) (s.take k) := by
  unfold posAt cutTo
  rw [if_neg (by omega), if_neg (by omega), Int.toNat_natCast]
theorem posAt_all (s : List UInt8) : posAt s (s.length : Int) = posFrom (1, 1) s := by
  rw [posAt_take s s.length (Nat.le_refl _), List.take_length]
theorem posAt_bd (s : List UInt8) (k : Nat) (h : k ≤ s.length) : 1 ≤ (posAt s (k : Int)).1 ∧ 1 ≤ (posAt s (k : Int)).2 ∧ (posAt s (k : Int)).1 ≤ 1 + s.length ∧ (posAt s (k : Int)).2 ≤ 1 + s.length := by
  rw [posAt_take s k h]
  obtain ⟨a1, a2, _⟩ := pos_move (s.take k) (1, 1) (by simp) (by simp)
  obtain ⟨b1, b2⟩ := pos_le (s.take k) (1, 1)
  have hl : (s.take k).length ≤ s.length := by rw [List.length_take]; omega
  simp only at b1 b2
  exact ⟨a1, a2, by omega, by omega⟩
theorem posAt_later (s : List UInt8) (i k : Nat) (hi : i < k) (hk : k ≤ s.length) :
    (posAt s (i : Int)).1 < (posAt s (k : Int)).1 ∨ ((posAt s (k : Int)).1 = (posAt s (i : Int)).1 ∧ (posAt s (k : Int)).2 = (posAt s (i : Int)).2 + (k - i)) := by
  rw [posAt_take s i (by omega), posAt_take s k hk]
  obtain ⟨a1, a2, _⟩ := pos_move (s.take i) (1, 1) (by simp) (by simp)
  have e : s.take k = s.take i ++ (s.drop i).take (k - i) := by
    rw [show k = i + (k - i) from by omega, List.take_add]
    simp
  rw [e, pos_append]
  obtain ⟨_, _, c⟩ := pos_move ((s.drop i).take (k - i)) (posFrom (1, 1) (s.take i)) a1 a2
  rcases c with c | ⟨c1, c2⟩
  · exact .inl c
  · refine .inr ⟨c1, ?_⟩
    rw [c2, List.length_take, List.length_drop]
    omega

theorem spot_self (s : List UInt8) (i j : Nat) (hi : i ≤ s.length) (hj : j ≤ s.length) (hs : s.length ≤ 1099511627776) :
    spotIs s (fl ((posAt s (i : Int)).1 : Int)) (fl ((posAt s (i : Int)).2 : Int)) j = decide (j = i) := by
  obtain ⟨a1, a2, a3, a4⟩ := posAt_bd s i hi
  obtain ⟨b1, b2, b3, b4⟩ := posAt_bd s j hj
  unfold spotIs
  rw [feq_fl _ _ b1 (by omega) a1 (by omega), feq_fl _ _ b2 (by omega) a2 (by omega)]
  by_cases h : j = i
  · subst h; simp
  · rw [decide_eq_false h]
    rcases (show j < i ∨ i < j from by omega) with hl | hl
    · rcases posAt_later s j i hl hi with c | ⟨c1, c2⟩
      · rw [show ((posAt s (j : Int)).1 == (posAt s (i : Int)).1) = false from by rw [beq_eq_false_iff_ne]; omega]; rfl
      · rw [show ((posAt s (j : Int)).2 == (posAt s (i : Int)).2) = false from by rw [beq_eq_false_iff_ne]; omega, Bool.and_false]
    · rcases posAt_later s i j hl hj with c | ⟨c1, c2⟩
      · rw [show ((posAt s (j : Int)).1 == (posAt s (i : Int)).1) = false from by rw [beq_eq_false_iff_ne]; omega]; rfl
      · rw [show ((posAt s (j : Int)).2 == (posAt s (i : Int)).2) = false from by rw [beq_eq_false_iff_ne]; omega, Bool.and_false]
theorem place_back (s : List UInt8) (i : Nat) (hi : i ≤ s.length) (hs : s.length ≤ 1099511627776) : placeOf s (fl ((posAt s (i : Int)).1 : Int)) (fl ((posAt s (i : Int)).2 : Int)) = (i, true) := by
  refine place_yes s _ _ i hi ?_ fun j hj => ?_
  · rw [spot_self s i i hi hi hs]; simp
  · rw [spot_self s i j hi (by omega) hs]
    exact decide_eq_false (by omega)

set_option maxRecDepth 100000 in
set_option maxHeartbeats 4000000 in
theorem sback_in (R : SpotSays) (s u : ByteArray) (i : Nat) (w : World) (hs : s.size ≤ 300) (ht : u.size ≤ 300) (hi : i ≤ s.size) :
    Calls Try.prog 4 #[.string s, .string u, .int .i64 (i : Int)] w fun e w' => e = .returned (.bool true) ∧ Below w.heap.size w w' := by
  have hz : s.data.toList.length = s.size := by simp
  have hzu : u.data.toList.length = u.size := by simp
  obtain ⟨P, hP⟩ : ∃ P, P = posAt s.data.toList (i : Int) := ⟨_, rfl⟩
  obtain ⟨S, hS⟩ : ∃ S, S = posFrom (1, 1) s.data.toList := ⟨_, rfl⟩
  obtain ⟨T, hT⟩ : ∃ T, T = posFrom S u.data.toList := ⟨_, rfl⟩
  have bP := posAt_bd s.data.toList i (by omega)
  rw [← hP] at bP
  have bS := posAt_bd s.data.toList s.data.toList.length (Nat.le_refl _)
  rw [posAt_all, ← hS] at bS
  have HA1 : Hid (∀ W : World, Calls Try.prog 10 #[.string s, .int .i64 (i : Int)] W fun e w' => e = .returned (.complex .f64 (fl (P.1 : Int)) (fl (P.2 : Int))) ∧ Below W.heap.size W w') := fun W => by rw [hP]; exact R.at_ s i W (by omega) (by omega) (by omega)
  have HP : Hid (∀ W : World, Calls Try.prog 8 #[.string s, .complex .f64 (fl (P.1 : Int)) (fl (P.2 : Int))] W fun e w' => e = .returned (.tuple #[.int .i64 (i : Int), .bool true]) ∧ Below W.heap.size W w') := fun W => by
    have := R.place s (fl (P.1 : Int)) (fl (P.2 : Int)) W (by omega)
    rw [show placeOf s.data.toList (fl (P.1 : Int)) (fl (P.2 : Int)) = (i, true) from by rw [hP]; exact place_back _ i (by omega) (by omega)] at this
    exact this
  have HA2 : Hid (∀ W : World, Calls Try.prog 10 #[.string s, .int .i64 (s.size : Int)] W fun e w' => e = .returned (.complex .f64 (fl (S.1 : Int)) (fl (S.2 : Int))) ∧ Below W.heap.size W w') := fun W => by
    have := R.at_ s (s.size : Int) W (by omega) (by omega) (by omega)
    rw [← hz, posAt_all, ← hS, hz] at this
    exact this
  have HB1 : Hid (∀ W : World, Calls Try.prog 12 #[.complex .f64 4607182418800017408 4607182418800017408, .string s] W fun e w' => e = .returned (.complex .f64 (fl (S.1 : Int)) (fl (S.2 : Int))) ∧ Below W.heap.size W w') := fun W => by
    have := R.behind (1, 1) s W (by omega) (by decide) (by decide) (by decide) (by decide)
    rw [← hS] at this
    unfold fcx at this
    rw [show (((1, 1) : Nat × Nat).1 : Int) = 1 from rfl, fl1] at this
    exact this
  have HB2 : Hid (∀ W : World, Calls Try.prog 12 #[.complex .f64 (fl (S.1 : Int)) (fl (S.2 : Int)), .string u] W fun e w' => e = .returned (.complex .f64 (fl (T.1 : Int)) (fl (T.2 : Int))) ∧ Below W.heap.size W w') := fun W => by
    have := R.behind S u W (by omega) bS.1 (by omega) bS.2.1 (by omega)
    rw [← hT] at this
    exact this
  have HA3 : Hid (∀ W : World, Calls Try.prog 10 #[.string (s ++ u), .int .i64 ((s.size : Int) + (u.size : Int))] W fun e w' => e = .returned (.complex .f64 (fl (T.1 : Int)) (fl (T.2 : Int))) ∧ Below W.heap.size W w') := fun W => by
    have := R.at_ (s ++ u) ((s.size : Int) + (u.size : Int)) W (by rw [ByteArray.size_append]; omega) (by omega) (by omega)
    have e1 : (s ++ u).data.toList = s.data.toList ++ u.data.toList := by simp
    have e2 : ((s.size : Int) + (u.size : Int)) = ((s.data.toList ++ u.data.toList).length : Int) := by rw [List.length_append, hz, hzu]; omega
    rw [e1, e2, posAt_all, pos_append, ← hS, ← hT] at this
    rw [e2]
    exact this
  have HB3 : Hid (∀ W : World, Calls Try.prog 12 #[.complex .f64 (fl (P.1 : Int)) (fl (P.2 : Int)), .string (s.extract i s.size)] W fun e w' => e = .returned (.complex .f64 (fl (S.1 : Int)) (fl (S.2 : Int))) ∧ Below W.heap.size W w') := fun W => by
    have := R.behind P (s.extract i s.size) W (by simp; omega) bP.1 (by omega) bP.2.1 (by omega)
    have e1 : posFrom P (s.extract i s.size).data.toList = S := by
      rw [Go.Lib.extract_data, hS, hP, posAt_take _ i (by omega), ← pos_append]
      rw [show (s.data.toList.drop i).take (s.size - i) = s.data.toList.drop i from List.take_of_length_le (by rw [List.length_drop, hz]; omega), List.take_append_drop]
    rw [e1] at this
    exact this
  have f1 := feq_refl (S.1 : Int)
  have f2 := feq_refl (S.2 : Int)
  have f3 := feq_refl (T.1 : Int)
  have f4 := feq_refl (T.2 : Int)
  unfold feq at f1 f2 f3 f4
  clear hP hS hT bP bS hz hzu
  go_enter Try.func4, Try.ntmps4
  go_wp2_with fail
  refine (salive_any R _).mono ?_
  rintro r w1 ⟨rfl, hb1⟩
  go_wp2_with fail
  refine (HA1.out _).mono ?_
  rintro r w2 ⟨rfl, hb2⟩
  have hn2 := below_step hb1 (Nat.le_refl _) hb2
  clear hb1 hb2
  go_wp2_with fail
  refine (HP.out _).mono ?_
  rintro r w3 ⟨rfl, hb3⟩
  have hn3 := below_step hn2 (Nat.le_refl _) hb3
  clear hb3 hn2
  go_wp2_with fail
  refine (HA2.out _).mono ?_
  rintro r w4 ⟨rfl, hb4⟩
  have hn4 := below_step hn3 (Nat.le_refl _) hb4
  clear hb4 hn3
  go_wp2_with fail
  have hd : Below w.heap.size w w4.drew := hn4.drew
  have s1 : ¬ 9223372036854775807 < s.size + u.size := by omega
  have s2 : IntKind.i64.wrap ((s.size : Int) + (u.size : Int)) = (s.size : Int) + (u.size : Int) := IntWalk.i64_in _ (by omega)
  have s3 : (0 : Int) ≤ (i : Int) := by omega
  have s4 : (i : Int) ≤ (s.size : Int) := by omega
  go_region_held3 (fun W => Below w.heap.size w W) (first | exact hd | exact hn5 | exact hn6 | exact hn7 | exact hn8 | exact hn9) (first
    | (go_at_call_of 12 (Value.complex FloatKind.f64 4607182418800017408 4607182418800017408); refine (HB1.out _).mono ?_; rintro r w5 ⟨rfl, hb5⟩; have hn5 := below_step hd (Nat.le_refl _) hb5)
    | (go_at_call_of 12 (Value.complex FloatKind.f64 (fl (S.1 : Int)) (fl (S.2 : Int))); refine (HB2.out _).mono ?_; rintro r w6 ⟨rfl, hb6⟩; have hn6 := below_step hn5 (Nat.le_refl _) hb6)
    | (go_at_call_of 10 (Value.string (s ++ u)); refine (HA3.out _).mono ?_; rintro r w7 ⟨rfl, hb7⟩; have hn7 := below_step hn6 (Nat.le_refl _) hb7)
    | (go_at_call_of 10 (Value.string s); refine (HA1.out _).mono ?_; rintro r w8 ⟨rfl, hb8⟩; have hn8 := below_step hn7 (Nat.le_refl _) hb8)
    | (go_at_call_of 12 (Value.complex FloatKind.f64 (fl (P.1 : Int)) (fl (P.2 : Int))); refine (HB3.out _).mono ?_; rintro r w9 ⟨rfl, hb9⟩; have hn9 := below_step hn8 (Nat.le_refl _) hb9))
  all_goals
    go_wp2
    go_ret
    exact ⟨rfl, hn9⟩

set_option maxHeartbeats 1000000 in
theorem sback_any (R : SpotSays) (s u : ByteArray) (i : Int) (w : World) :
    Calls Try.prog 4 #[.string s, .string u, .int .i64 i] w fun e w' => e = .returned (.bool true) ∧ Below w.heap.size w w' := by
  by_cases h : s.size ≤ 300 ∧ u.size ≤ 300 ∧ 0 ≤ i ∧ i ≤ (s.size : Int)
  · obtain ⟨n, rfl⟩ := Int.eq_ofNat_of_zero_le h.2.2.1
    exact sback_in R s u n w h.1 h.2.1 (by omega)
  · have h0 : 300 < s.size ∨ (s.size ≤ 300 ∧ 300 < u.size) ∨ (s.size ≤ 300 ∧ u.size ≤ 300 ∧ i < 0) ∨ (s.size ≤ 300 ∧ u.size ≤ 300 ∧ 0 ≤ i ∧ (s.size : Int) < i) := by omega
    clear h
    rcases h0 with h | ⟨h1, h⟩ | ⟨h1, h2, h⟩ | ⟨h1, h2, h3, h⟩
    all_goals
      go_enter Try.func4, Try.ntmps4
      go_wp2_with fail
      refine (salive_any R _).mono ?_
      rintro r w1 ⟨rfl, hb1⟩
      go_wp2
      go_ret
      exact ⟨rfl, hb1⟩

end Go.Proofs.Ytfhpdfekoklokaa
