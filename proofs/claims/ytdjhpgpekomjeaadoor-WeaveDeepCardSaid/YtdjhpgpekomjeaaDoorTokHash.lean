/- What the landed token's hash gives. No condition. -/
import Derived.Test.YtdjhpgpekomjeaaDoorPart7
namespace Go.Proofs.YtdjhpgpekomjeaaDoor
open Go.RowKit

theorem run_word (s : ByteArray) (hs : s.size ≤ 1000000) (w : World) : Calls Tryd.prog 32 #[.string s, .string ⟨#[97, 98, 99, 100, 101, 102, 103, 104, 105, 106, 107, 108, 109, 110, 111, 112, 113, 114, 115, 116, 117, 118, 119, 120, 121, 122, 65, 66, 67, 68, 69, 70, 71, 72, 73, 74, 75, 76, 77, 78, 79, 80, 81, 82, 83, 84, 85, 86, 87, 88, 89, 90, 95, 48, 49, 50, 51, 52, 53, 54, 55, 56, 57]⟩] w (Quietly (.int .i64 (runLen wordB s.data.toList : Nat)) w) :=
  run_any s ⟨#[97, 98, 99, 100, 101, 102, 103, 104, 105, 106, 107, 108, 109, 110, 111, 112, 113, 114, 115, 116, 117, 118, 119, 120, 121, 122, 65, 66, 67, 68, 69, 70, 71, 72, 73, 74, 75, 76, 77, 78, 79, 80, 81, 82, 83, 84, 85, 86, 87, 88, 89, 90, 95, 48, 49, 50, 51, 52, 53, 54, 55, 56, 57]⟩ wordB set_word (by decide) (by decide) hs w

theorem run_end (p : UInt8 → Bool) : ∀ (l : List UInt8), ∀ c r, l.drop (runLen p l) = c :: r → p c = false
  | [], c, r, h => by simp at h
  | x :: l, c, r, h => by
    rw [runLen] at h
    cases hx : p x
    · rw [hx] at h
      simp only [Bool.false_eq_true, if_false, List.drop_zero, List.cons.injEq] at h
      rw [← h.1]
      exact hx
    · rw [hx] at h
      simp only [if_true, List.drop_succ_cons] at h
      exact run_end p l c r h
theorem goes_end (l : List UInt8) : goesOn (l.drop (runLen wordB l)) = false := by
  cases h : l.drop (runLen wordB l) with
  | nil => rfl
  | cons c r => exact run_end wordB l c r h
theorem run_exact : ∀ (k : Nat) (l : List UInt8), (∀ b ∈ l.take k, wordB b = true) → k ≤ l.length → goesOn (l.drop k) = false → runLen wordB l = k
  | 0, l, _, _, h => (run_word0 l).2 (by simpa using h)
  | k + 1, [], _, hk, _ => by simp at hk
  | k + 1, c :: r, h, hk, hg => by
    rw [runLen, if_pos (h c (by simp)), run_exact k r (fun b hb => h b (by simp [hb])) (by simpa using hk) (by simpa using hg)]

/-- A word behind a '#' is that one. -/
theorem hash_is (t w : List UInt8) (hw : w.all wordB = true) : ((35 :: t).take (runLen wordB t + 1) = 35 :: w) ↔ (beginsL (35 :: w) (35 :: t) && !goesOn ((35 :: t).drop (w.length + 1))) = true := by
  have hle := run_le wordB t
  rw [List.take_succ_cons, List.drop_succ_cons]
  unfold beginsL
  rw [List.length_cons, List.take_succ_cons]
  simp only [List.cons.injEq, true_and, Bool.and_eq_true, beq_iff_eq, Bool.not_eq_true']
  constructor
  · intro h
    have hl := congrArg List.length h
    rw [List.length_take] at hl
    have hn : runLen wordB t = w.length := by omega
    rw [hn] at h
    refine ⟨h, ?_⟩
    rw [← hn]
    exact goes_end t
  · rintro ⟨h1, h2⟩
    have hl := congrArg List.length h1
    rw [List.length_take] at hl
    have hn := run_exact w.length t (fun b hb => by rw [h1] at hb; exact List.all_eq_true.1 hw b hb) (by omega) h2
    rw [hn]
    exact h1

/-- A word behind a '#'. -/
def hashL (r : List UInt8) : Option (Int × List UInt8 × Nat) :=
  if beginsL [35, 105, 110, 99, 108, 117, 100, 101] r && !goesOn (r.drop 8) then some (5, [35, 105, 110, 99, 108, 117, 100, 101], 8)
  else if beginsL [35, 100, 101, 102, 105, 110, 101] r && !goesOn (r.drop 7) then some (5, [35, 100, 101, 102, 105, 110, 101], 7)
  else none

theorem hash_at (t T : List UInt8) (hT : T = (35 :: t).take (runLen wordB t + 1)) : (T = [35, 105, 110, 99, 108, 117, 100, 101] ∧ hashL (35 :: t) = some (5, T, T.length)) ∨ (¬ T = [35, 105, 110, 99, 108, 117, 100, 101] ∧ T = [35, 100, 101, 102, 105, 110, 101] ∧ hashL (35 :: t) = some (5, T, T.length)) ∨ (¬ T = [35, 105, 110, 99, 108, 117, 100, 101] ∧ ¬ T = [35, 100, 101, 102, 105, 110, 101] ∧ hashL (35 :: t) = none) := by
  have h1 := hash_is t [105, 110, 99, 108, 117, 100, 101] (by decide)
  have h2 := hash_is t [100, 101, 102, 105, 110, 101] (by decide)
  rw [← hT] at h1 h2
  simp only [List.length_cons, List.length_nil] at h1 h2
  unfold hashL
  by_cases c1 : T = [35, 105, 110, 99, 108, 117, 100, 101]
  · refine .inl ⟨c1, ?_⟩
    rw [if_pos (h1.1 c1), c1]
    rfl
  · rw [if_neg (fun h => c1 (h1.2 h))]
    by_cases c2 : T = [35, 100, 101, 102, 105, 110, 101]
    · refine .inr (.inl ⟨c1, c2, ?_⟩)
      rw [if_pos (h2.1 c2), c2]
      rfl
    · exact .inr (.inr ⟨c1, c2, if_neg (fun h => c2 (h2.2 h))⟩)

theorem text_is (x : ByteArray) (l : List UInt8) : ((x.toList == l) = true ↔ x.data.toList = l) := by
  rw [Lib.toList_data, beq_iff_eq]

set_option maxRecDepth 100000 in
set_option maxHeartbeats 4000000 in
theorem hash_any (s : ByteArray) (t : List UInt8) (ht : s.data.toList = 35 :: t) (hs : s.size ≤ 1000000) (w : World) :
    Calls Tryd.prog 37 #[.string s] w (PieceRes (hashL s.data.toList) w) := by
  have hsz : s.size = t.length + 1 := by rw [Lib.size_eq, ht, List.length_cons]
  have hxs : (s.extract 1 s.size).data.toList = t := by rw [ext_drop, ht]; rfl
  have HR : Hid (∀ W : World, Calls Tryd.prog 32 #[.string (s.extract 1 s.size), .string ⟨#[97, 98, 99, 100, 101, 102, 103, 104, 105, 106, 107, 108, 109, 110, 111, 112, 113, 114, 115, 116, 117, 118, 119, 120, 121, 122, 65, 66, 67, 68, 69, 70, 71, 72, 73, 74, 75, 76, 77, 78, 79, 80, 81, 82, 83, 84, 85, 86, 87, 88, 89, 90, 95, 48, 49, 50, 51, 52, 53, 54, 55, 56, 57]⟩] W (Quietly (.int .i64 (runLen wordB t : Nat)) W)) := fun W => by
    have := run_word (s.extract 1 s.size) (by simp; omega) W
    rwa [hxs] at this
  have hle := run_le wordB t
  obtain ⟨n, hn⟩ : ∃ n, n = runLen wordB t := ⟨_, rfl⟩
  have hT : (s.extract 0 (n + 1)).data.toList = (35 :: t).take (runLen wordB t + 1) := by rw [ext_take, ht, hn]
  have hat := hash_at t _ hT
  rw [← hn] at HR hle
  rw [← ht] at hat
  have hTs : (s.extract 0 (n + 1)).size = (s.extract 0 (n + 1)).data.toList.length := Lib.size_eq _
  have hn1 : (1 : Int) + (n : Int) ≤ (s.size : Int) := by omega
  have hn2 : ((1 : Int) + (n : Int)).toNat = n + 1 := by omega
  have hn3 : (1 : Int) ≤ (s.size : Int) := by omega
  obtain ⟨V, hV⟩ : ∃ V, V = hashL s.data.toList := ⟨_, rfl⟩
  rw [← hV] at hat ⊢
  have HX : Hid (strOf (s.extract 0 (n + 1)).data.toList = s.extract 0 (n + 1)) := strOf_of _
  have HW := Lib.hid fun W => whole_any 5 (s.extract 0 (n + 1)) W
  have HTS := Lib.hid hTs
  have HMN : Hid ((s.extract 0 (n + 1)).size = min (n + 1) s.size) := by unfold Hid; simp
  have HE : Hid (∀ l, (((s.extract 0 (n + 1)).toList == l) = true) ↔ (s.extract 0 (n + 1)).data.toList = l) := fun l => text_is _ l
  clear hT hV ht hsz hxs hn hTs
  obtain ⟨hbx0, hn0⟩ := piece_start w
  have HBX := Lib.hid hbx0
  have HN0 := Lib.hid hn0
  clear hbx0 hn0
  rcases hat with ⟨d1, hq⟩ | ⟨d1, d2, hq⟩ | ⟨d1, d2, hq⟩
  · have q1 := (HE.out _).2 d1
    have HQ := Lib.hid hq
    clear hq d1
    go_enter Tryd.func37, Tryd.ntmps37
    go_wp2_with fail
    generalize hw0 : w.alloc (.cells #[.int .i64 0, .string ⟨#[]⟩, .int .i64 0] 67) = w0 at *
    clear hw0
    refine (HR.out _).mono ?_
    rintro r w1 ⟨rfl, hb1⟩
    have HBX1 := Lib.hid (HBX.out.step hb1)
    have HN1 := Lib.hid (below_step HN0.out (Nat.le_refl _) hb1)
    clear hb1
    go_wp2_with fail
    refine (HW.out _).mono ?_
    rintro r w2 ⟨rfl, hb2⟩
    have HBX2 := Lib.hid (HBX1.out.step hb2)
    have HN2 := Lib.hid (below_step HN1.out (Nat.le_refl _) hb2)
    obtain ⟨c0, c1, c2, f0, f1, f2, g0⟩ := box_cells HBX2.out
    clear hb2
    unfold pcCells
    go_wp2_with fail
    exact bodyPost_ret (results_box_tmp rfl _ _ w.heap.size 67 _ rfl (box_trio HBX2.out) _ Tryd.underlying67 rfl pieceSize) rfl ⟨by rw [HQ.out]; dsimp only; rw [HX.out, ← HTS.out, HMN.out]; rfl, set3_below (Nat.le_refl _) HN2.out _ _ _⟩
  · have q1 : ((s.extract 0 (n + 1)).toList == [35, 105, 110, 99, 108, 117, 100, 101]) = false := by
      cases hb : ((s.extract 0 (n + 1)).toList == [35, 105, 110, 99, 108, 117, 100, 101])
      · rfl
      · exact absurd ((HE.out _).1 hb) d1
    have q2 := (HE.out _).2 d2
    have HQ := Lib.hid hq
    clear hq d1 d2
    go_enter Tryd.func37, Tryd.ntmps37
    go_wp2_with fail
    generalize hw0 : w.alloc (.cells #[.int .i64 0, .string ⟨#[]⟩, .int .i64 0] 67) = w0 at *
    clear hw0
    refine (HR.out _).mono ?_
    rintro r w1 ⟨rfl, hb1⟩
    have HBX1 := Lib.hid (HBX.out.step hb1)
    have HN1 := Lib.hid (below_step HN0.out (Nat.le_refl _) hb1)
    clear hb1
    go_wp2_with fail
    refine (HW.out _).mono ?_
    rintro r w2 ⟨rfl, hb2⟩
    have HBX2 := Lib.hid (HBX1.out.step hb2)
    have HN2 := Lib.hid (below_step HN1.out (Nat.le_refl _) hb2)
    obtain ⟨c0, c1, c2, f0, f1, f2, g0⟩ := box_cells HBX2.out
    clear hb2
    unfold pcCells
    go_wp2_with fail
    exact bodyPost_ret (results_box_tmp rfl _ _ w.heap.size 67 _ rfl (box_trio HBX2.out) _ Tryd.underlying67 rfl pieceSize) rfl ⟨by rw [HQ.out]; dsimp only; rw [HX.out, ← HTS.out, HMN.out]; rfl, set3_below (Nat.le_refl _) HN2.out _ _ _⟩
  · have q1 : ((s.extract 0 (n + 1)).toList == [35, 105, 110, 99, 108, 117, 100, 101]) = false := by
      cases hb : ((s.extract 0 (n + 1)).toList == [35, 105, 110, 99, 108, 117, 100, 101])
      · rfl
      · exact absurd ((HE.out _).1 hb) d1
    have q2 : ((s.extract 0 (n + 1)).toList == [35, 100, 101, 102, 105, 110, 101]) = false := by
      cases hb : ((s.extract 0 (n + 1)).toList == [35, 100, 101, 102, 105, 110, 101])
      · rfl
      · exact absurd ((HE.out _).1 hb) d2
    have HQ := Lib.hid hq
    clear hq d1 d2
    go_enter Tryd.func37, Tryd.ntmps37
    go_wp2_with fail
    generalize hw0 : w.alloc (.cells #[.int .i64 0, .string ⟨#[]⟩, .int .i64 0] 67) = w0 at *
    clear hw0
    refine (HR.out _).mono ?_
    rintro r w1 ⟨rfl, hb1⟩
    have HBX1 := Lib.hid (HBX.out.step hb1)
    have HN1 := Lib.hid (below_step HN0.out (Nat.le_refl _) hb1)
    obtain ⟨c0, c1, c2, f0, f1, f2, g0⟩ := box_cells HBX1.out
    clear hb1
    go_wp2_with fail
    exact bodyPost_ret (results_box_tmp rfl _ _ w.heap.size 67 _ rfl (box_trio HBX1.out) _ Tryd.underlying67 rfl pieceSize) rfl ⟨by rw [HQ.out]; rfl, set3_below (Nat.le_refl _) HN1.out _ _ _⟩

end Go.Proofs.YtdjhpgpekomjeaaDoor
