/- How long a filter may be: plain facts, and the walk of the statement CheckerLong. -/
import Derived.Test.YtlghhnfpmekdnaaChkMorePlain
import Derived.Test.YtlghhnfpmekdnaaMid
namespace Go.Proofs.Ytlghhnfpmekdnaa
open Go.RowKit

def negI : Ins := ⟨132, 0, 0, 0⟩
def retAI : Ins := ⟨22, 0, 0, 0⟩
def zeroI : Ins := ⟨0, 0, 0, 0⟩
def longL (n : Nat) : List Ins := (List.replicate n negI).set (n - 1) retAI
def partL (n k : Nat) : List Ins := List.replicate k negI ++ List.replicate (n - k) zeroI

theorem long_len (n : Nat) : (longL n).length = n := by simp [longL]
theorem part_len (n k : Nat) (h : k ≤ n) : (partL n k).length = n := by simp [partL]; omega
theorem partL_step (n k : Nat) (h : k < n) : (partL n k).set k negI = partL n (k + 1) := by
  unfold partL
  rw [List.set_append_right _ _ (by simp), List.length_replicate, Nat.sub_self, show n - k = (n - (k + 1)) + 1 from by omega, List.replicate_succ, List.set_cons_zero, List.replicate_succ', List.append_assoc]
  rfl
theorem partL_all (n : Nat) : partL n n = List.replicate n negI := by simp [partL]
theorem partL_none (n : Nat) : partL n 0 = List.replicate n zeroI := by simp [partL]

theorem long_at (n i : Nat) (h : i + 1 < n) : (longL n)[i]? = some negI := by
  unfold longL
  rw [List.getElem?_set_ne (by omega), List.getElem?_replicate, if_pos (by omega)]
theorem long_last (n : Nat) (h : 0 < n) : (longL n)[n - 1]? = some retAI := by
  unfold longL
  rw [List.getElem?_set_self (by simp; omega)]

theorem long_ok (n : Nat) : ∀ y ∈ longL n, y.Ok := by
  intro y hy
  unfold longL at hy
  rcases List.mem_or_eq_of_mem_set hy with h | rfl
  · rw [(List.mem_replicate.1 h).2]
    exact ins_ok (by omega) (by omega) (by omega) (by omega)
  · exact ins_ok (by omega) (by omega) (by omega) (by omega)

theorem neg_fine (left : Int) (h : left ≠ 0) : refusedB negI left = false := by
  have h1 : isCode 132 = true := by decide +kernel
  have hj : isJump 132 = false := rfl
  simp [refusedB, negI, h1, hj, h]
theorem retA_fine (left : Int) : refusedB retAI left = false := by
  have h1 : isCode 22 = true := by decide +kernel
  have hj : isJump 22 = false := rfl
  simp [refusedB, retAI, h1, hj]

theorem long_check (n : Nat) (h0 : 0 < n) (h : n ≤ 4096) : checkOf (longL n) = (-1, true) := by
  have hr : ∀ i, i < (longL n).length → refusedAt (longL n) i = false := by
    intro i hi
    rw [long_len] at hi
    unfold refusedAt
    by_cases hl : i + 1 < n
    · rw [long_at n i hl, long_len]
      exact neg_fine _ (by omega)
    · obtain rfl : i = n - 1 := by omega
      rw [long_last n h0]
      exact retA_fine _
  have hm := most_all _ hr
  have hb : ∀ i, i < (longL n).length → badAt (longL n) (outOf (longL n)) i = false := by
    intro i hi
    rw [long_len] at hi
    unfold badAt
    by_cases hl : i + 1 < n
    · rw [long_at n i hl]
      rfl
    · obtain rfl : i = n - 1 := by omega
      rw [long_last n h0]
      rfl
  unfold checkOf
  rw [if_neg (by rw [long_len]; omega), hm, find_range_none _ _ hb]
  simp

theorem long_over (n : Nat) (h : 4096 < n) : checkOf (longL n) = (0, false) := by
  unfold checkOf
  rw [if_pos (by rw [long_len]; omega)]

theorem neg_step (l : List Ins) (d : Dat) (p : Nat) (h : l[p]? = some negI) : stepOf l d p Mac.zero = .inr (p + 1, Mac.zero) := by
  unfold stepOf
  rw [h]
  rfl
theorem retA_step (l : List Ins) (d : Dat) (p : Nat) (h : l[p]? = some retAI) : stepOf l d p Mac.zero = .inl (0, 1, true) := by
  unfold stepOf
  rw [h]
  rfl

theorem long_from (n : Nat) (d : Dat) : ∀ (f p : Nat), p < n → runFrom (longL n) d f p p Mac.zero = if n ≤ p + f then (0, n, true) else (0, p + f, false)
  | 0, p, hp => by rw [if_neg (by omega)]; rfl
  | f + 1, p, hp => by
    rw [run_step _ _ _ _ _ _ (by omega)]
    by_cases hl : p + 1 < n
    · rw [neg_step _ d p (long_at n p hl)]
      show runFrom (longL n) d (f + 1 - 1) (p + 1) (p + 1) Mac.zero = _
      rw [Nat.add_sub_cancel, long_from n d f (p + 1) hl, show p + 1 + f = p + (f + 1) from by omega]
    · obtain rfl : p = n - 1 := by omega
      rw [retA_step _ d _ (long_last n (by omega)), if_pos (by omega)]
      simp only [Prod.mk.injEq, true_and, and_true]
      omega

theorem long_run (n : Nat) (d : Dat) (h0 : 0 < n) : runOf (longL n) d = if n ≤ 4096 then (0, n, true) else (0, 4096, false) := by
  have h := long_from n d 4096 0 h0
  rw [Nat.zero_add] at h
  exact h

theorem made_ins (n : Nat) : (madeCells #[Value.int .i64 0, .int .i64 0, .int .i64 0, .int .u32 0] (n * 4)).toList = cellsOf (partL n 0) := by
  rw [partL_none]
  apply List.ext_getElem?
  intro i
  by_cases hi : i < n * 4
  · obtain ⟨x, hx⟩ : ∃ x, (List.replicate n zeroI)[i / 4]? = some x := ⟨zeroI, by rw [List.getElem?_replicate, if_pos (by omega)]⟩
    obtain rfl : x = zeroI := (List.mem_replicate.1 (List.mem_of_getElem? hx)).2
    obtain ⟨a0, a1, a2, a3⟩ := cell_at _ _ _ hx
    rcases (show i % 4 = 0 ∨ i % 4 = 1 ∨ i % 4 = 2 ∨ i % 4 = 3 from by omega) with h | h | h | h
    · rw [show i = i / 4 * 4 from by omega, a0]
      simp [madeCells, zeroI, show i / 4 * 4 < n * 4 from by omega]
    · rw [show i = i / 4 * 4 + 1 from by omega, a1]
      simp [madeCells, zeroI, show i / 4 * 4 + 1 < n * 4 from by omega, show (i / 4 * 4 + 1) % 4 = 1 from by omega]
    · rw [show i = i / 4 * 4 + 2 from by omega, a2]
      simp [madeCells, zeroI, show i / 4 * 4 + 2 < n * 4 from by omega, show (i / 4 * 4 + 2) % 4 = 2 from by omega]
    · rw [show i = i / 4 * 4 + 3 from by omega, a3]
      simp [madeCells, zeroI, show i / 4 * 4 + 3 < n * 4 from by omega, show (i / 4 * 4 + 3) % 4 = 3 from by omega]
  · rw [List.getElem?_eq_none (by simp [madeCells]; omega), List.getElem?_eq_none (by rw [cells_len]; simp; omega)]

theorem box_of_row {w : World} {base g n size : Nat} {e : TypeId} {xs : List Value} (h : w.ownsRow base e size (.slice (some ⟨g, 0, none⟩) n n) n xs) : Box w g e xs.toArray := by
  obtain ⟨h1, h2⟩ := h
  rcases h2 with ⟨h2, _⟩ | ⟨g', cap, cur, hv, hb, hg, _, _, hs, ht⟩
  · cases h2
  · simp only [Value.slice.injEq, Option.some.injEq, Addr.mk.injEq, and_true, true_and] at hv
    obtain ⟨rfl, rfl⟩ := hv
    unfold Box
    rw [hg]
    have : cur.toList = xs := by rw [← ht, List.take_of_length_le (by rw [Array.length_toList]; omega)]
    rw [← this]

set_option maxRecDepth 100000 in
set_option maxHeartbeats 2000000 in
theorem clong_in (M : MacSays) (R : ChkSays) (n : Nat) (w : World) (h0 : 1 ≤ n) (h1 : n ≤ 4200) :
    Calls Try.prog 6 #[.int .i64 n] w fun r w' => r = .returned (.bool true) ∧ Below w.heap.size w w' := by
  obtain ⟨i0, hi, hz0, hz1, hz2⟩ := info_parts Try.infoInsK
  have b0 : decide ((n : Int) < 1) = false := decide_eq_false (by omega)
  have b0' : decide (n < 1) = false := decide_eq_false (by omega)
  have b1 : decide ((4200 : Int) < (n : Int)) = false := decide_eq_false (by omega)
  have b1' : decide (4200 < n) = false := decide_eq_false (by omega)
  go_enter Try.func6, Try.ntmps6
  go_wp2_with fail
  refine (calive_any R _).mono ?_
  rintro r w1 ⟨rfl, hb1⟩
  have hs1 := hb1.size
  go_wp2_with (at_make; go_loud (refine wpList_make_full _ rfl _ _ 22 rfl w.heap.size 39 i0 _ 4 Try.underlying22 hi hz0 hz1 .i64 .i64 _ _ n rfl rfl rfl rfl (by rw [hz2]; omega) (by unfold maxLen; omega) (by omega) ?_))
  intro w2 hown2 hg2
  have hn2 : Below w.heap.size w w2 := hb1.grown hg2 (by omega) (by simp)
  have hm : (madeCells #[Value.int .i64 0, .int .i64 0, .int .i64 0, .int .u32 0] (n * 4)).toList = cellsOf (partL n 0) := made_ins n
  rw [hm] at hown2
  obtain ⟨g, hg⟩ : ∃ g, g = w1.heap.size := ⟨_, rfl⟩
  rw [← hg] at hown2 ⊢
  have hgw : w.heap.size ≤ g := by omega
  have hbx2 := box_of_row hown2
  have hgl2 := hbx2.lt
  clear hown2 hg2 hm hb1 hs1 hg hi hz0 hz1 hz2
  go_wp2_with fail
  go_loopw [5] (fun i wr => ∃ k : Nat, k ≤ n ∧ i = .int .i64 k ∧ Box wr g 39 (cellsOf (partL n k)).toArray ∧ Below w.heap.size w wr) (fun i _ => n - (intOf i).toNat)
  case atStart => exact ⟨0, by omega, rfl, hbx2, hn2⟩
  case round =>
    obtain ⟨k, hk, rfl, hbx, hnx⟩ := hrel
    have hgl := hbx.lt
    clear hbx2 hn2 hgl2
    by_cases hlt : k < n
    · have hth := hbx.there_mid (k * 4) 4 (by rw [cells_len, part_len n k hk]; omega)
      have hset : Box (wr.setCells g (k * 4) negI.cells) g 39 (cellsOf (partL n (k + 1))).toArray := by
        have := Box.mid negI.cells (k * 4) wr _ (by rw [cells_len, part_len n k hk]; simp [Ins.cells]; omega) hbx
        rwa [cellsOf_set _ _ _ (by rw [part_len n k hk]; omega), partL_step n k hlt] at this
      have HSET := Lib.hid hset
      have HTH := Lib.hid hth
      have hnx3 : Below w.heap.size w (wr.setCells g (k * 4) negI.cells) := below_only hnx hgw hnx.size (only_setCells _ _ _)
      have HN3 := Lib.hid hnx3
      clear hset hth hbx hnx3
      go_wp2_with (refine wpList_store_mid rfl 39 (.tmp 33) (.tmp 32) rfl g (k * 4) #[.int .i64 132, .int .i64 0, .int .i64 0, .int .u32 0] (by rfl) (by rfl) HTH.out (by kernel_rfl) (by simp [Value.oneCell']) ?_; change wpList _ _ _ _ _ (wr.setCells g (k * 4) negI.cells); have hx := HSET.out; have hnx3 := HN3.out; clear HSET HN3 HTH; generalize wr.setCells g (k * 4) negI.cells = w5 at *)
      go_roundw
      case rel => exact ⟨k + 1, by omega, by go_num, hx, hnx3⟩
      case measure => simp [intOf]; omega
    · obtain rfl : k = n := by omega
      rw [partL_all] at hbx
      have hth := hbx.there_mid ((k - 1) * 4) 4 (by rw [cells_len, List.length_replicate]; omega)
      have hset : Box (wr.setCells g ((k - 1) * 4) retAI.cells) g 39 (cellsOf (longL k)).toArray := by
        have := Box.mid retAI.cells ((k - 1) * 4) wr _ (by rw [cells_len, List.length_replicate]; simp [Ins.cells]; omega) hbx
        rwa [cellsOf_set _ _ _ (by rw [List.length_replicate]; omega)] at this
      have HSET := Lib.hid hset
      have HTH := Lib.hid hth
      have HN3 := Lib.hid (below_only hnx hgw hnx.size (only_setCells retAI.cells ((k - 1) * 4) _))
      have q0 : (0 : Int) ≤ (k : Int) - 1 := by omega
      have q1 : ((k : Int) - 1).toNat = k - 1 := by omega
      have HLC1 : Hid (k ≤ 4096 → checkOf (longL k) = (-1, true)) := long_check k h0
      have HLC2 : Hid (4096 < k → checkOf (longL k) = (0, false)) := long_over k
      have HLR := Lib.hid (long_run k dat0 h0)
      clear hset hth hbx hnx
      go_wp2_with (refine wpList_store_mid rfl 39 (.tmp 38) (.tmp 37) rfl g ((k - 1) * 4) #[.int .i64 22, .int .i64 0, .int .i64 0, .int .u32 0] (by rfl) (by rfl) HTH.out (by kernel_rfl) (by simp [Value.oneCell']) ?_; change wpList _ _ _ _ _ (wr.setCells g ((k - 1) * 4) retAI.cells); have hx := HSET.out; have hnx3 := HN3.out; clear HSET HN3 HTH; generalize wr.setCells g ((k - 1) * 4) retAI.cells = w5 at *)
      have hl5 : Lies w5 w5.heap.size 4 (some ⟨g, 0, none⟩) k (cellsOf (longL k)) := by
        have := Box.lies (B := w5.heap.size) (n := k) (size := 4) hx hx.lt (by rw [List.size_toArray, cells_len, long_len]; omega)
        simpa using this
      clear hx
      by_cases h4 : k ≤ 4096
      · have d1 : decide ((k : Int) ≤ 4096) = true := decide_eq_true (by omega)
        have d1' : decide (k ≤ 4096) = true := decide_eq_true h4
        have HC := Lib.hid (HLC1.out h4)
        have HR : Hid (runOf (longL k) dat0 = (0, k, true)) := by
          show _ = _
          rw [HLR.out, if_pos h4]
        clear HLC1 HLC2 HLR
        go_wp2_with fail
        refine (R.check _ k k (longL k) _ hl5 (Nat.le_refl _) (long_ok k) (by omega)).mono ?_
        rw [HC.out]
        rintro r w6 ⟨rfl, hb6⟩
        have hl6 := (hl5.below hb6).wider hb6.size
        have hn6 := below_step hnx3 (Nat.le_refl _) hb6
        clear hb6 hl5 hnx3
        go_wp2_with fail
        refine (M.run _ k k (longL k) dat0 _ hl6 (long_ok k) dat0_ok (by omega)).mono ?_
        rw [HR.out]
        rintro r w7 ⟨rfl, hb7⟩
        have hn7 := below_step hn6 (Nat.le_refl _) hb7
        clear hb7 hl6 hn6
        go_wp2
        go_ret
        exact ⟨rfl, hn7⟩
      · have d1 : decide ((k : Int) ≤ 4096) = false := decide_eq_false (by omega)
        have d1' : decide (k ≤ 4096) = false := decide_eq_false h4
        have HC := Lib.hid (HLC2.out (by omega))
        have HR : Hid (runOf (longL k) dat0 = (0, 4096, false)) := by
          show _ = _
          rw [HLR.out, if_neg h4]
        clear HLC1 HLC2 HLR
        go_wp2_with fail
        refine (R.check _ k k (longL k) _ hl5 (Nat.le_refl _) (long_ok k) (by omega)).mono ?_
        rw [HC.out]
        rintro r w6 ⟨rfl, hb6⟩
        have hl6 := (hl5.below hb6).wider hb6.size
        have hn6 := below_step hnx3 (Nat.le_refl _) hb6
        clear hb6 hl5 hnx3
        go_wp2_with fail
        refine (M.run _ k k (longL k) dat0 _ hl6 (long_ok k) dat0_ok (by omega)).mono ?_
        rw [HR.out]
        rintro r w7 ⟨rfl, hb7⟩
        have hn7 := below_step hn6 (Nat.le_refl _) hb7
        clear hb7 hl6 hn6
        go_wp2
        go_ret
        exact ⟨rfl, hn7⟩

set_option maxRecDepth 100000 in
theorem clong_out (R : ChkSays) (n : Int) (w : World) (h : n < 1 ∨ 4200 < n) :
    Calls Try.prog 6 #[.int .i64 n] w fun r w' => r = .returned (.bool true) ∧ Below w.heap.size w w' := by
  by_cases h0 : n < 1
  · clear h
    go_enter Try.func6, Try.ntmps6
    go_wp2_with fail
    refine (calive_any R _).mono ?_
    rintro r w1 ⟨rfl, hb1⟩
    go_wp2
    go_ret
    exact ⟨rfl, hb1⟩
  · have h2 : 4200 < n := by omega
    clear h
    go_enter Try.func6, Try.ntmps6
    go_wp2_with fail
    refine (calive_any R _).mono ?_
    rintro r w1 ⟨rfl, hb1⟩
    go_wp2
    go_ret
    exact ⟨rfl, hb1⟩

theorem clong_any (M : MacSays) (R : ChkSays) (n : Int) (w : World) :
    Calls Try.prog 6 #[.int .i64 n] w fun r w' => r = .returned (.bool true) ∧ Below w.heap.size w w' := by
  by_cases h : n < 1 ∨ 4200 < n
  · exact clong_out R n w h
  · obtain ⟨k, rfl⟩ := Int.eq_ofNat_of_zero_le (show 0 ≤ n by omega)
    exact clong_in M R k w (by omega) (by omega)

end Go.Proofs.Ytlghhnfpmekdnaa
