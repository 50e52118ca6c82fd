/- The walk of the statement WeaveTwice. -/
import Derived.Test.YtdjhpgpekomjeaaGreatDoorWvTells
import Derived.Test.YtdjhpgpekomjeaaGreatDoorWeaveInc
namespace Go.Proofs.YtdjhpgpekomjeaaGreatDoor
open Go.RowKit
variable {L : World → Prop}

set_option maxRecDepth 100000 in
set_option maxHeartbeats 8000000 in
theorem wtwice_long (R : WeaveSays L) (s : ByteArray) (n : Int) (w : World) (hw : L w) (h : 100 < s.size) :
    Calls Tryz.prog 5 #[.string s, .int .i64 n] w fun e w' => e = .returned (.bool true) ∧ Below w.heap.size w w' := by
  have hst := store_cx
  have q1 : decide ((100 : Int) < (s.size : Int)) = true := decide_eq_true (by omega)
  go_enter Tryz.func5, Tryz.ntmps5
  go_wp2_with fail
  refine (walive_any R _ hw).mono ?_
  rintro r w1 ⟨rfl, hb1⟩
  go_wp2_with fail
  refine (split_any s 1 _).mono ?_
  intro r w2 h2
  obtain ⟨A2, n2, c2, e2, fi2, a2, b2, rfl, hb2, _⟩ := sres_any h2
  have HN2 := Lib.hid (below_step hb1 (Nat.le_refl _) hb2)
  clear h2 hb1 hb2
  dsimp only [faultCells]
  go_wp2
  all_goals (go_ret; exact ⟨rfl, below_alloc HN2.out (Nat.le_refl _) _⟩)

set_option maxRecDepth 100000 in
set_option maxHeartbeats 8000000 in
theorem wtwice_bad (R : WeaveSays L) (s : ByteArray) (n : Int) (w : World) (hw : L w) (h : s.size ≤ 100) (e : Int × Nat × Nat) (he : splitOf s.data.toList = .error e) :
    Calls Tryz.prog 5 #[.string s, .int .i64 n] w fun e w' => e = .returned (.bool true) ∧ Below w.heap.size w w' := by
  have hst := store_cx
  have q1 : decide ((100 : Int) < (s.size : Int)) = false := decide_eq_false (by omega)
  have h0 := split_err he
  go_enter Tryz.func5, Tryz.ntmps5
  go_wp2_with fail
  refine (walive_any R _ hw).mono ?_
  rintro r w1 ⟨rfl, hb1⟩
  go_wp2_with fail
  refine (split_any s 1 _).mono ?_
  intro r w2 h2
  obtain ⟨A2, n2, c2, e2, fi2, a2, b2, rfl, hb2, h3⟩ := sres_any h2
  have h4 : e2 ≠ 0 := by rw [h3 e he]; exact h0
  have q2 : (!(e2 == 0)) = true := by simpa using h4
  have q3 : (e2 != 0) = true := by simpa using h4
  have HN2 := Lib.hid (below_step hb1 (Nat.le_refl _) hb2)
  clear h2 hb1 hb2 h3
  dsimp only [faultCells]
  go_wp2
  all_goals (go_ret; exact ⟨rfl, below_alloc HN2.out (Nat.le_refl _) _⟩)

theorem inc_one_file (s : ByteArray) : incAll [(⟨#[]⟩, s)] = incCount s.data.toList := by simp [incAll]

set_option maxRecDepth 100000 in
set_option maxHeartbeats 8000000 in
theorem wtwice_incs (R : WeaveSays L) (s : ByteArray) (n : Int) (w : World) (hw : L w) (h : s.size ≤ 100) (x : List TokV) (hx : splitOf s.data.toList = .ok x) (hi : 0 < incCount s.data.toList) :
    Calls Tryz.prog 5 #[.string s, .int .i64 n] w fun e w' => e = .returned (.bool true) ∧ Below w.heap.size w w' := by
  have HI : Hid (∀ (A : Option Addr) (W : World), Lies W W.heap.size 2 A 1 [.string ⟨#[]⟩, .string s] → Calls Tryz.prog 8 #[.slice A 1 1] W (fun r w' => r = .returned (.int .i64 (incCount s.data.toList : Int)) ∧ W = w')) := fun A W h => by
    have := includes_any A 1 1 [(⟨#[]⟩, s)] W h (by omega) (fun f hf => by
      obtain rfl := List.mem_singleton.1 hf
      show s.size ≤ _
      omega)
    rw [inc_one_file] at this
    exact this
  have hst := store_cx
  have q1 : decide ((100 : Int) < (s.size : Int)) = false := decide_eq_false (by omega)
  obtain ⟨I, hI⟩ : ∃ I, I = incCount s.data.toList := ⟨_, rfl⟩
  rw [← hI] at HI hi
  have q2 : decide ((0 : Int) < (I : Int)) = true := decide_eq_true (by omega)
  have HX := Lib.hid hx
  clear hI hx
  go_enter Tryz.func5, Tryz.ntmps5
  go_wp2_with fail
  refine (walive_any R _ hw).mono ?_
  rintro r w1 ⟨rfl, hb1⟩
  go_wp2_with fail
  refine (split_any s 1 _).mono ?_
  rw [HX.out]
  intro r w2 h2
  obtain ⟨A2, c2, rfl, _, _, hb2⟩ := sres_ok h2
  have HN2 := Lib.hid (below_alloc (below_step hb1 (Nat.le_refl _) hb2) (Nat.le_refl _) (.cells (faultCells 0 0 0 0) 30))
  clear h2 hb1 hb2
  dsimp only [faultCells]
  unfold faultCells at HN2
  go_wp2_with fail
  refine (HI.out _ _ (by exact lies_new _ _ _ (by simp) rfl rfl)).mono ?_
  rintro r w3 ⟨rfl, rfl⟩
  go_wp2
  all_goals (go_ret; exact ⟨rfl, below_alloc HN2.out (Nat.le_refl _) _⟩)

set_option maxRecDepth 100000 in
set_option maxHeartbeats 8000000 in
theorem wtwice_in (R : WeaveSays L) (s : ByteArray) (N : Nat) (w : World) (hw : L w) (h : s.size ≤ 100) (x : List TokV) (hx : splitOf s.data.toList = .ok x) (hi : incCount s.data.toList = 0) (hN : N ≤ 20) :
    Calls Tryz.prog 5 #[.string s, .int .i64 N] w fun e w' => e = .returned (.bool true) ∧ Below w.heap.size w w' := by
  have HI : Hid (∀ (A : Option Addr) (W : World), Lies W W.heap.size 2 A 1 [.string ⟨#[]⟩, .string s] → Calls Tryz.prog 8 #[.slice A 1 1] W (fun r w' => r = .returned (.int .i64 0) ∧ W = w')) := fun A W h => by
    have := includes_any A 1 1 [(⟨#[]⟩, s)] W h (by omega) (fun f hf => by
      obtain rfl := List.mem_singleton.1 hf
      show s.size ≤ _
      omega)
    rw [inc_one_file, hi] at this
    exact this
  have HT : Hid (∀ (A : Option Addr) (W : World), Below w.heap.size w W → Lies W W.heap.size 2 A 2 [.string ⟨#[97]⟩, .string (againText N), .string ⟨#[98]⟩, .string s] → Calls Tryz.prog 9 #[.slice A 2 2, .string ⟨#[47, 97]⟩] W (WeaveRes (.ok (List.replicate N (x.map fun t => ((1 : Int), t))).flatten) W)) := fun A W hW hA => by
    have := R.tokens A 2 2 [(⟨#[97]⟩, againText N), (⟨#[98]⟩, s)] ⟨#[47, 97]⟩ W (R.keep w W hw hW) hA (by omega) (by omega) (by decide) (fun f hf => by
      rcases List.mem_cons.1 hf with rfl | hf
      · exact ⟨(by decide : (⟨#[97]⟩ : ByteArray).size ≤ 100000), by rw [again_size]; omega⟩
      · obtain rfl := List.mem_singleton.1 hf
        exact ⟨(by decide : (⟨#[98]⟩ : ByteArray).size ≤ 100000), by show s.size ≤ _; omega⟩)
    have e := weave_again N hN s x hx (split_inc hx hi)
    rw [e] at this
    exact this
  have hst := store_cx
  have hcx := fun W => eq_cx 0 0 W ord_0 ord_0
  have q1 : decide ((100 : Int) < (s.size : Int)) = false := decide_eq_false (by omega)
  have q2 : decide ((N : Int) < 0) = false := decide_eq_false (by omega)
  have q3 : decide ((20 : Int) < (N : Int)) = false := decide_eq_false (by omega)
  have hxl : x.length ≤ 20000 := split_most hx
  have HX := Lib.hid hx
  clear hx hi
  go_enter Tryz.func5, Tryz.ntmps5
  go_wp2_with fail
  refine (walive_any R _ hw).mono ?_
  rintro r w1 ⟨rfl, hb1⟩
  go_wp2_with fail
  refine (split_any s 1 _).mono ?_
  rw [HX.out]
  intro r w2 h2
  obtain ⟨A2, c2, rfl, hc2, hl2, hb2⟩ := sres_ok h2
  have HN2 := Lib.hid (below_alloc (below_step hb1 (Nat.le_refl _) hb2) (Nat.le_refl _) (.cells (faultCells 0 0 0 0) 30))
  have HL2 := Lib.hid (hl2.below ((Below.refl w2.heap.size w2).alloc (Nat.le_refl _) (.cells (faultCells 0 0 0 0) 30)))
  clear h2 hb1 hb2 hl2
  dsimp only [faultCells]
  unfold faultCells at HN2 HL2
  go_wp2_with fail
  refine (HI.out _ _ (by exact lies_new _ _ _ (by simp) rfl rfl)).mono ?_
  rintro r w3 ⟨rfl, rfl⟩
  have HN5 := Lib.hid (below_alloc HN2.out (Nat.le_refl _) (.cells #[.string ⟨#[]⟩, .string s] 36))
  have HL5 := Lib.hid (HL2.out.below ((Below.refl w2.heap.size (w2.alloc (.cells #[.int .i64 0, .int .i64 0, .complex .f64 0 0] 30))).alloc (by simp) (.cells #[.string ⟨#[]⟩, .string s] 36)))
  clear HN2 HL2
  have HG : Hid (w2.heap.size ≤ ((w2.alloc (.cells #[.int .i64 0, .int .i64 0, .complex .f64 0 0] 30)).alloc (.cells #[.string ⟨#[]⟩, .string s] 36)).heap.size) := by
    unfold Hid
    simp
    omega
  go_wp2_with fail
  generalize ((w2.alloc (.cells #[.int .i64 0, .int .i64 0, .complex .f64 0 0] 30)).alloc (.cells #[.string ⟨#[]⟩, .string s] 36)) = w5 at *
  go_loopw [8, 9] (fun v i wr => ∃ k : Nat, k ≤ N ∧ i = .int .i64 k ∧ v = .string (againText k) ∧ w5 = wr) (fun _ i _ => N - (intOf i).toNat)
  case atStart => exact ⟨0, by omega, rfl, rfl, rfl⟩
  case round =>
    obtain ⟨k, hk, rfl, rfl, rfl⟩ := hrel
    by_cases hlt : k < N
    · have hz : (againText k).size = k * 29 := again_size k
      go_wp2
      go_roundw
      case rel => exact ⟨k + 1, by omega, by go_num, rfl, by first | rfl | trivial⟩
      case measure => simp [intOf]; omega
    · obtain rfl : k = N := by omega
      go_wp2_with fail
      refine (HT.out _ _ (by exact below_alloc HN5.out (Nat.le_refl _) _) (by exact lies_new _ _ _ rfl rfl rfl)).mono ?_
      intro r w6 h6
      obtain ⟨A6, c6, rfl, hc6, hl6, hb6⟩ := wres_ok h6
      rw [rep_len, List.length_map]
      rw [rep_len, List.length_map] at hl6 hc6
      have hn6 := below_step (below_alloc HN5.out (Nat.le_refl _) (.cells #[.string ⟨#[97]⟩, .string (againText k), .string ⟨#[98]⟩, .string s] 36)) (Nat.le_refl _) hb6
      have hx6 := (HL5.out.below ((Below.refl w2.heap.size w5).alloc HG.out (.cells #[.string ⟨#[97]⟩, .string (againText k), .string ⟨#[98]⟩, .string s] 36))).below (hb6.mono (by simp; exact Nat.le_succ_of_le HG.out))
      have HG6 : w2.heap.size ≤ w6.heap.size := Nat.le_trans HG.out (Nat.le_trans (by simp) hb6.size)
      clear h6 hb6
      have w9 : IntKind.i64.wrap ((k : Int) * (x.length : Int)) = ((k * x.length : Nat) : Int) := by
        have h1 : k * x.length ≤ 20 * 20000 := Nat.mul_le_mul hN hxl
        rw [IntKind.wrap_i64, Int.natCast_mul] at *
        rw [← Int.natCast_mul]
        omega
      have HN7 := Lib.hid (below_alloc hn6 (Nat.le_refl _) (.cells (faultCells 0 0 0 0) 30))
      have hs6 : w2.heap.size ≤ w6.heap.size := HG6
      have HA7 := Lib.hid (hx6.below ((Below.refl w2.heap.size w6).alloc hs6 (.cells (faultCells 0 0 0 0) 30)))
      have HB7 := Lib.hid (hl6.below ((Below.refl w6.heap.size w6).alloc (Nat.le_refl _) (.cells (faultCells 0 0 0 0) 30)))
      have HG7 : Hid (w6.heap.size ≤ (w6.alloc (.cells (faultCells 0 0 0 0) 30)).heap.size) := by
        unfold Hid
        simp
      clear hl6 hx6 hn6
      dsimp only [faultCells]
      unfold faultCells at HN7 HA7 HB7 HG7
      rw [← ftoksV_file] at HA7
      go_wp2_with fail
      generalize (w6.alloc (.cells #[.int .i64 0, .int .i64 0, .complex .f64 0 0] 30)) = w7 at *
      obtain ⟨M, hM⟩ : ∃ M, M = k * x.length := ⟨_, rfl⟩
      have hMi : (k : Int) * (x.length : Int) = (M : Int) := by rw [hM, Int.natCast_mul]
      have hM5 : M ≤ 400000 := by
        have h1 : k * x.length ≤ 20 * 20000 := Nat.mul_le_mul hN hxl
        omega
      have HM := Lib.hid hM
      rw [← hM] at hc6 HB7 w9 ⊢
      rw [hMi]
      clear hM
      go_loopw [12] (fun i wr => ∃ j : Nat, j ≤ M ∧ i = .int .i64 j ∧ Below w7.heap.size w7 wr) (fun i _ => M - (intOf i).toNat)
      case atStart => exact ⟨0, by omega, rfl, Below.refl _ _⟩
      case round =>
        obtain ⟨j, hj, rfl, hnx⟩ := hrel
        by_cases hjl : j < M
        · have hxp : 0 < x.length := by
            rcases Nat.eq_zero_or_pos x.length with h0 | h0
            · have := HM.out; rw [h0] at this; omega
            · exact h0
          obtain ⟨q, hq⟩ : ∃ q, q = j % x.length := ⟨_, rfl⟩
          have hql : q < x.length := by rw [hq]; exact Nat.mod_lt _ hxp
          obtain ⟨t, ht⟩ : ∃ t, x[q]? = some t := ⟨_, List.getElem?_eq_getElem hql⟩
          have hy : (x.map fun t => ((1 : Int), t))[q]? = some (1, t) := by rw [List.getElem?_map, ht]; rfl
          have hr : (List.replicate k (x.map fun t => ((1 : Int), t))).flatten[j]? = some (1, t) := by
            have := rep_at (x.map fun t => ((1 : Int), t)) k j (by rw [List.length_map]; have := HM.out; omega)
            rw [this, List.length_map, ← hq, hy]
          obtain ⟨a0, a1, a2, a3⟩ := ftok_cells _ _ _ hr
          obtain ⟨d0, d1, d2, d3⟩ := ftok_cells _ _ _ hy
          obtain ⟨b1, o1, rfl, hb1, hc1⟩ := HB7.out.2 (by omega)
          obtain ⟨b2, o2, rfl, hb2, hc2⟩ := HA7.out.2 (by omega)
          have hv1 : b1 < w7.heap.size := Nat.lt_of_lt_of_le hb1 HG7.out
          have hv2 : b2 < w7.heap.size := Nat.lt_of_lt_of_le hb2 (Nat.le_trans hs6 HG7.out)
          have e0 := (hnx.cell (p := ⟨b1, o1 + j * 4, none⟩) hv1).trans (hc1 _ _ a0)
          have e1 := (hnx.cell (p := ⟨b1, o1 + (j * 4 + 1), none⟩) hv1).trans (hc1 _ _ a1)
          have e2 := (hnx.cell (p := ⟨b1, o1 + (j * 4 + 2), none⟩) hv1).trans (hc1 _ _ a2)
          have e3 := (hnx.cell (p := ⟨b1, o1 + (j * 4 + 3), none⟩) hv1).trans (hc1 _ _ a3)
          have f0 := (hnx.cell (p := ⟨b2, o2 + q * 4, none⟩) hv2).trans (hc2 _ _ d0)
          have f1 := (hnx.cell (p := ⟨b2, o2 + (q * 4 + 1), none⟩) hv2).trans (hc2 _ _ d1)
          have f2 := (hnx.cell (p := ⟨b2, o2 + (q * 4 + 2), none⟩) hv2).trans (hc2 _ _ d2)
          have f3 := (hnx.cell (p := ⟨b2, o2 + (q * 4 + 3), none⟩) hv2).trans (hc2 _ _ d3)
          rw [← Nat.add_assoc] at e1 e2 e3 f1 f2 f3
          have hcy := fun W => eq_cx (fl t.place.1) (fl t.place.2) W (ord_fl _) (ord_fl _)
          dsimp only at e0 e1 e2 e3 f0 f1 f2 f3
          have hxi : ¬ (x.length : Int) = 0 := by omega
          have hxe : ¬ x = [] := by intro h; rw [h] at hxp; simp at hxp
          have hxz : ¬ x.length = 0 := by omega
          have hqv : j % x.length < x.length := Nat.mod_lt _ hxp
          rw [hq] at f0 f1 f2 f3
          clear a0 a1 a2 a3 d0 d1 d2 d3 hc1 hc2 ht hr hy
          go_wp2_with fail
          go_quiet (fail)
          go_wp2
          go_roundw
          case rel => exact ⟨j + 1, by omega, by go_num, below_drewN hnx _⟩
          case measure => simp [intOf]; omega
        · obtain rfl : j = M := by omega
          go_wp2
          go_ret
          exact ⟨rfl, below_step HN7.out (Nat.le_refl _) hnx⟩

set_option maxRecDepth 100000 in
set_option maxHeartbeats 8000000 in
theorem wtwice_out (R : WeaveSays L) (s : ByteArray) (n : Int) (w : World) (hw : L w) (h : s.size ≤ 100) (x : List TokV) (hx : splitOf s.data.toList = .ok x) (hi : incCount s.data.toList = 0) (hn : n < 0 ∨ 20 < n) :
    Calls Tryz.prog 5 #[.string s, .int .i64 n] w fun e w' => e = .returned (.bool true) ∧ Below w.heap.size w w' := by
  have HI : Hid (∀ (A : Option Addr) (W : World), Lies W W.heap.size 2 A 1 [.string ⟨#[]⟩, .string s] → Calls Tryz.prog 8 #[.slice A 1 1] W (fun r w' => r = .returned (.int .i64 0) ∧ W = w')) := fun A W h => by
    have := includes_any A 1 1 [(⟨#[]⟩, s)] W h (by omega) (fun f hf => by
      obtain rfl := List.mem_singleton.1 hf
      show s.size ≤ _
      omega)
    rw [inc_one_file, hi] at this
    exact this
  have hst := store_cx
  have q1 : decide ((100 : Int) < (s.size : Int)) = false := decide_eq_false (by omega)
  have HX := Lib.hid hx
  have q2 : (decide (n < 0) || decide (20 < n)) = true := by
    simp only [Bool.or_eq_true, decide_eq_true_eq]
    exact hn
  clear hi hn hx
  go_enter Tryz.func5, Tryz.ntmps5
  go_wp2_with fail
  refine (walive_any R _ hw).mono ?_
  rintro r w1 ⟨rfl, hb1⟩
  go_wp2_with fail
  refine (split_any s 1 _).mono ?_
  rw [HX.out]
  intro r w2 h2
  obtain ⟨A2, c2, rfl, _, _, hb2⟩ := sres_ok h2
  have HN2 := Lib.hid (below_alloc (below_step hb1 (Nat.le_refl _) hb2) (Nat.le_refl _) (.cells (faultCells 0 0 0 0) 30))
  clear h2 hb1 hb2
  dsimp only [faultCells]
  unfold faultCells at HN2
  go_wp2_with fail
  refine (HI.out _ _ (by exact lies_new _ _ _ (by simp) rfl rfl)).mono ?_
  rintro r w3 ⟨rfl, rfl⟩
  go_wp2
  all_goals (go_ret; exact ⟨rfl, below_alloc HN2.out (Nat.le_refl _) _⟩)

theorem wtwice_any (R : WeaveSays L) (s : ByteArray) (n : Int) (w : World) (hw : L w) :
    Calls Tryz.prog 5 #[.string s, .int .i64 n] w fun e w' => e = .returned (.bool true) ∧ Below w.heap.size w w' := by
  by_cases h : s.size ≤ 100
  · cases hx : splitOf s.data.toList with
    | error e => exact wtwice_bad R s n w hw h e hx
    | ok x =>
      by_cases hi : incCount s.data.toList = 0
      · by_cases hn : 0 ≤ n ∧ n ≤ 20
        · obtain ⟨N, rfl⟩ := Int.eq_ofNat_of_zero_le hn.1
          exact wtwice_in R s N w hw h x hx hi (by omega)
        · exact wtwice_out R s n w hw h x hx hi (by omega)
      · exact wtwice_incs R s n w hw h x hx (by omega)
  · exact wtwice_long R s n w hw (by omega)

end Go.Proofs.YtdjhpgpekomjeaaGreatDoor
