/- The walk of the statement MachineJumps: it returns true, and writes nothing that was there. -/
import Derived.Test.YtljkkbfokjhfpaaReckPlain
import Derived.Test.YtljkkbfokjhfpaaStore
import Derived.Deep.DeepCutAuto
namespace Go.Proofs.Ytljkkbfokjhfpaa
open Go.RowKit

def retsL (n : Nat) : List Ins := (List.range n).map fun i : Nat => ⟨6, 0, 0, (i : Int)⟩
def jumpL (c a b jt jf kb : Int) (n : Nat) : List Ins := [⟨1, 0, 0, b⟩, ⟨0, 0, 0, a⟩, ⟨c, jt, jf, kb⟩] ++ retsL n

theorem jumpL_step (c a b jt jf kb : Int) (n : Nat) : cellsOf (jumpL c a b jt jf kb (n + 1)) = cellsOf (jumpL c a b jt jf kb n) ++ [.int .i64 6, .int .i64 0, .int .i64 0, .int .u32 n] := by
  simp [jumpL, retsL, cellsOf, List.range_succ, Ins.cells]

theorem jumpL_len (c a b jt jf kb : Int) (n : Nat) : (jumpL c a b jt jf kb n).length = 3 + n := by
  simp [jumpL, retsL]
  omega

theorem jumpL_ok (c a b jt jf kb : Int) (n : Nat) (hn : n ≤ 100) (hc : 0 ≤ c ∧ c ≤ 1000) (ha : 0 ≤ a ∧ a ≤ 4294967295) (hb : 0 ≤ b ∧ b ≤ 4294967295) (hk : 0 ≤ kb ∧ kb ≤ 4294967295) (ht : 0 ≤ jt ∧ jt ≤ 20) (hf : 0 ≤ jf ∧ jf ≤ 20) : ∀ y ∈ jumpL c a b jt jf kb n, y.Ok := by
  intro y hy
  simp only [jumpL, List.mem_append, List.mem_cons, List.not_mem_nil, or_false, retsL, List.mem_map, List.mem_range] at hy
  rcases hy with (rfl | rfl | rfl) | ⟨i, hi, rfl⟩
  · exact ins_ok (by omega) (by omega) (by omega) hb
  · exact ins_ok (by omega) (by omega) (by omega) ha
  · exact ins_ok (by omega) (by omega) (by omega) hk
  · exact ins_ok (by omega) (by omega) (by omega) (by omega)

theorem jump_run (c a b jt jf kb : Int) (J : Nat) (d : Dat) (hc : isJump c = true ∧ c ≠ 6 ∧ c ≠ 22 ∧ c ≠ 5) (hJ : (if jumpOf c a (if c % 16 < 8 then kb else b) then jt else jf) = (J : Int)) (h20 : J ≤ 20) :
    runOf (jumpL c a b jt jf kb 21) d = ((J : Int), 4, true) := by
  obtain ⟨h1, h2, h3, h4⟩ := hc
  have r1 := run_on (run_start (l := jumpL c a b jt jf kb 21) (d := d)) (by omega) (q := 1) (t := ⟨0, b, List.replicate 16 0⟩) rfl
  have r2 := run_on r1 (by omega) (q := 2) (t := ⟨a, b, List.replicate 16 0⟩) rfl
  have ho : other ⟨a, b, List.replicate 16 0⟩ c kb = if c % 16 < 8 then kb else b := rfl
  have e : stepOf (jumpL c a b jt jf kb 21) d 2 ⟨a, b, List.replicate 16 0⟩ = .inr (3 + J, ⟨a, b, List.replicate 16 0⟩) := by
    have hx : (jumpL c a b jt jf kb 21)[2]? = some ⟨c, jt, jf, kb⟩ := rfl
    unfold stepOf
    rw [hx]
    simp only [h2, h3, h4, h1, if_false, if_true, ho, hJ, jumpL_len]
    congr 2
    unfold jumpTo
    rw [if_neg (by omega)]
    omega
  have r3 := run_on r2 (by omega) e
  have hx : (jumpL c a b jt jf kb 21)[3 + J]? = some ⟨6, 0, 0, (J : Int)⟩ := by
    unfold jumpL
    rw [List.getElem?_append_right (by simp), show 3 + J - [(⟨1, 0, 0, b⟩ : Ins), ⟨0, 0, 0, a⟩, ⟨c, jt, jf, kb⟩].length = J from by simp]
    simp [retsL, show J < 21 by omega]
  have e2 : stepOf (jumpL c a b jt jf kb 21) d (3 + J) ⟨a, b, List.replicate 16 0⟩ = .inl ((J : Int), 1, true) := by
    unfold stepOf
    rw [hx]
    rfl
  exact run_end r3 (by omega) e2

theorem Try.infoIns : (Try.prog.info? 34).map (fun i => (i.zero, i.size, i.bytes)) = some (some (.agg #[.int .i64 0, .int .i64 0, .int .i64 0, .int .u32 0]), 4, 32) := by kernel_rfl

set_option maxRecDepth 100000 in
set_option maxHeartbeats 2000000 in
theorem jumps_0_true (R : MacSays) (a b : Int) (jt jf : Nat) (w : World) (ha : 0 ≤ a ∧ a ≤ 4294967295) (hb : 0 ≤ b ∧ b ≤ 4294967295) (ht : jt ≤ 20) (hf : jf ≤ 20) (hB : (a == b) = true) :
    Calls Try.prog 5 #[.int .i64 0, .int .u32 a, .int .u32 b, .int .i64 jt, .int .i64 jf] w fun r w' => r = .returned (.bool true) ∧ Below w.heap.size w w' := by
  obtain ⟨i0, hi, hz0, hz1, hz2⟩ := info_parts Try.infoIns
  have H1 : Hid (runOf (jumpL 21 a b jt jf b 21) dat0 = ((jt : Int), 4, true)) := jump_run 21 a b jt jf b jt dat0 ⟨rfl, by decide, by decide, by decide⟩ (by
    show (if jumpOf 21 a b then (jt : Int) else (jf : Int)) = _
    rw [show jumpOf 21 a b = (a == b) from rfl, hB]
    rfl) ht
  have H2 : Hid (runOf (jumpL 29 a b jt jf 0 21) dat0 = ((jt : Int), 4, true)) := jump_run 29 a b jt jf 0 jt dat0 ⟨rfl, by decide, by decide, by decide⟩ (by
    show (if jumpOf 29 a b then (jt : Int) else (jf : Int)) = _
    rw [show jumpOf 29 a b = (a == b) from rfl, hB]
    rfl) ht
  have g0 : decide ((jt : Int) < 0) = false := decide_eq_false (by omega)
  have g1 : decide ((20 : Int) < (jt : Int)) = false := decide_eq_false (by omega)
  have g2 : decide ((jf : Int) < 0) = false := decide_eq_false (by omega)
  have g3 : decide ((20 : Int) < (jf : Int)) = false := decide_eq_false (by omega)
  obtain ⟨a0, a1⟩ := id ha
  obtain ⟨b0, b1⟩ := id hb
  go_enter Try.func5, Try.ntmps5
  go_wp2_with fail
  refine (malive_any R _).mono ?_
  rintro r w1 ⟨rfl, hb1⟩
  have hsz1 := hb1.size
  go_wp2_with fail
  have ho1 : ∀ (W : World) (g : Nat), g = W.heap.size → w.heap.size ≤ W.heap.size → (W.alloc (.cells #[.int .i64 1, .int .i64 0, .int .i64 0, .int .u32 b, .int .i64 0, .int .i64 0, .int .i64 0, .int .u32 a, .int .i64 21, .int .i64 jt, .int .i64 jf, .int .u32 b] 34)).ownsRow w.heap.size 34 4 (.slice (some ⟨g, 0, none⟩) 3 3) 3 (cellsOf (jumpL 21 a b jt jf b 0)) :=
    fun W g hg hW => by subst hg; exact World.ownsRow_lit W _ 3 hW (by unfold maxLen; omega) rfl
  have ho2 : ∀ (W : World) (g : Nat), g = W.heap.size → w.heap.size ≤ W.heap.size → (W.alloc (.cells #[.int .i64 1, .int .i64 0, .int .i64 0, .int .u32 b, .int .i64 0, .int .i64 0, .int .i64 0, .int .u32 a, .int .i64 29, .int .i64 jt, .int .i64 jf, .int .u32 0] 34)).ownsRow w.heap.size 34 4 (.slice (some ⟨g, 0, none⟩) 3 3) 3 (cellsOf (jumpL 29 a b jt jf 0 0)) :=
    fun W g hg hW => by subst hg; exact World.ownsRow_lit W _ 3 hW (by unfold maxLen; omega) rfl
  have HO1 := Lib.hid ho1
  have HO2 := Lib.hid ho2
  clear ho1 ho2 hB
  go_loopw [15, 16, 17] (fun v u i wr => ∃ k : Nat, k ≤ 21 ∧ i = .int .i64 k ∧ wr.ownsRow w.heap.size 34 4 v (3 + k) (cellsOf (jumpL 21 a b jt jf b k)) ∧ wr.ownsRow w.heap.size 34 4 u (3 + k) (cellsOf (jumpL 29 a b jt jf 0 k)) ∧ Apart v u ∧ Below w.heap.size w wr) (fun _ _ i _ => 21 - (intOf i).toNat)
  case atStart =>
    refine ⟨0, by omega, rfl, ?_, ?_, ?_, below_alloc (below_alloc (below_alloc (below_alloc hb1 (Nat.le_refl _) _) (Nat.le_refl _) _) (Nat.le_refl _) _) (Nat.le_refl _) _⟩
    · exact (HO1.out _ _ (by simp) (by simp; omega)).alloc _
    · exact HO2.out _ _ (by simp) (by simp; omega)
    · intro k h1 h2
      simp [Value.ownBlock] at h1 h2
      omega
  case round =>
    obtain ⟨k, hk, rfl, hown1, hown2, hap, hnx⟩ := hrel
    have hsw := hnx.size
    by_cases hlt : k < 21
    · go_wp2_with (at_builtin; go_loud (refine wpList_append_lit_at _ rfl (.tmp 103) (.tmp 107) _ rfl w.heap.size 34 i0 _ 4 32 Try.underlying22 hi hz0 hz1 hz2 rfl (by omega) _ _ _ rfl hown1 _ _ 1 1 rfl rfl ?c1 ?c2 ?c3 ?c4 ?_))
      case c1 => exact ⟨rfl, rfl, rfl⟩
      case c2 => unfold maxLen; omega
      case c3 => omega
      case c4 => omega
      intro v' w' hown3 hg3 hat3
      have hnx3 : Below w.heap.size w w' := below_grown (hnx.alloc (by omega) _) (hown1.alloc _) (Nat.le_refl _) (by simp; omega) hg3
      have hown4 : w'.ownsRow w.heap.size 34 4 v' (3 + (k + 1)) (cellsOf (jumpL 21 a b jt jf b (k + 1))) := by
        rw [jumpL_step]
        exact hown3
      have hown5 := own_apart (hown2.alloc _) hg3 hap
      have hap5 := hap.grown hown2 (Nat.le_succ _) hat3
      clear hg3 hown1 hown2 hown3 hnx hap hat3
      have hsz := hnx3.size
      go_wp2_with (at_builtin; go_loud (refine wpList_append_lit_at _ rfl (.tmp 109) (.tmp 113) _ rfl w.heap.size 34 i0 _ 4 32 Try.underlying22 hi hz0 hz1 hz2 rfl (by omega) _ _ _ rfl hown5 _ _ 1 1 rfl rfl ?d1 ?d2 ?d3 ?d4 ?_))
      case d1 => exact ⟨rfl, rfl, rfl⟩
      case d2 => unfold maxLen; omega
      case d3 => omega
      case d4 => omega
      intro v6 w6 hown6 hg6 hat6
      have hnx6 : Below w.heap.size w w6 := below_grown (hnx3.alloc (by omega) _) (hown5.alloc _) (Nat.le_refl _) (by simp; omega) hg6
      have hown7 : w6.ownsRow w.heap.size 34 4 v6 (3 + (k + 1)) (cellsOf (jumpL 29 a b jt jf 0 (k + 1))) := by
        rw [jumpL_step]
        exact hown6
      have hown8 := own_apart (hown4.alloc _) hg6 hap5.symm
      have hap8 := hap5.symm.grown hown4 (Nat.le_succ _) hat6
      clear hg6 hown4 hown5 hown6 hnx3 hap5 hat6
      go_wp2
      go_roundw
      case rel => exact ⟨k + 1, by omega, by go_num, hown8, hown7, hap8.symm, hnx6⟩
      case measure => simp [intOf]; omega
    · obtain rfl : k = 21 := by omega
      obtain ⟨A1, c1, rfl, hc1, hl1⟩ := own_form hown1
      obtain ⟨A2, c2, rfl, hc2, hl2⟩ := own_form hown2
      clear hown1 hown2 hap
      go_wp2_with fail
      refine (R.run A1 _ c1 (jumpL 21 a b jt jf b 21) dat0 _ hl1 (jumpL_ok _ _ _ _ _ _ _ (by omega) (by omega) ha hb hb (by omega) (by omega)) dat0_ok (by omega)).mono ?_
      rw [H1.out]
      rintro r w7 ⟨rfl, hb7⟩
      have hl7 := (hl2.below hb7).wider hb7.size
      have hn7 := below_step hnx (Nat.le_refl _) hb7
      clear hb7 hl1 hl2 hnx
      go_wp2_with fail
      refine (R.run A2 _ c2 (jumpL 29 a b jt jf 0 21) dat0 _ hl7 (jumpL_ok _ _ _ _ _ _ _ (by omega) (by omega) ha hb (by omega) (by omega) (by omega)) dat0_ok (by omega)).mono ?_
      rw [H2.out]
      rintro r w8 ⟨rfl, hb8⟩
      have hn8 := below_step hn7 (Nat.le_refl _) hb8
      clear hb8 hl7 hn7
      go_wp2
      go_ret
      exact ⟨rfl, hn8⟩

set_option maxRecDepth 100000 in
set_option maxHeartbeats 2000000 in
theorem jumps_0_false (R : MacSays) (a b : Int) (jt jf : Nat) (w : World) (ha : 0 ≤ a ∧ a ≤ 4294967295) (hb : 0 ≤ b ∧ b ≤ 4294967295) (ht : jt ≤ 20) (hf : jf ≤ 20) (hB : (a == b) = false) :
    Calls Try.prog 5 #[.int .i64 0, .int .u32 a, .int .u32 b, .int .i64 jt, .int .i64 jf] w fun r w' => r = .returned (.bool true) ∧ Below w.heap.size w w' := by
  obtain ⟨i0, hi, hz0, hz1, hz2⟩ := info_parts Try.infoIns
  have H1 : Hid (runOf (jumpL 21 a b jt jf b 21) dat0 = ((jf : Int), 4, true)) := jump_run 21 a b jt jf b jf dat0 ⟨rfl, by decide, by decide, by decide⟩ (by
    show (if jumpOf 21 a b then (jt : Int) else (jf : Int)) = _
    rw [show jumpOf 21 a b = (a == b) from rfl, hB]
    rfl) hf
  have H2 : Hid (runOf (jumpL 29 a b jt jf 0 21) dat0 = ((jf : Int), 4, true)) := jump_run 29 a b jt jf 0 jf dat0 ⟨rfl, by decide, by decide, by decide⟩ (by
    show (if jumpOf 29 a b then (jt : Int) else (jf : Int)) = _
    rw [show jumpOf 29 a b = (a == b) from rfl, hB]
    rfl) hf
  have g0 : decide ((jt : Int) < 0) = false := decide_eq_false (by omega)
  have g1 : decide ((20 : Int) < (jt : Int)) = false := decide_eq_false (by omega)
  have g2 : decide ((jf : Int) < 0) = false := decide_eq_false (by omega)
  have g3 : decide ((20 : Int) < (jf : Int)) = false := decide_eq_false (by omega)
  obtain ⟨a0, a1⟩ := id ha
  obtain ⟨b0, b1⟩ := id hb
  go_enter Try.func5, Try.ntmps5
  go_wp2_with fail
  refine (malive_any R _).mono ?_
  rintro r w1 ⟨rfl, hb1⟩
  have hsz1 := hb1.size
  go_wp2_with fail
  have ho1 : ∀ (W : World) (g : Nat), g = W.heap.size → w.heap.size ≤ W.heap.size → (W.alloc (.cells #[.int .i64 1, .int .i64 0, .int .i64 0, .int .u32 b, .int .i64 0, .int .i64 0, .int .i64 0, .int .u32 a, .int .i64 21, .int .i64 jt, .int .i64 jf, .int .u32 b] 34)).ownsRow w.heap.size 34 4 (.slice (some ⟨g, 0, none⟩) 3 3) 3 (cellsOf (jumpL 21 a b jt jf b 0)) :=
    fun W g hg hW => by subst hg; exact World.ownsRow_lit W _ 3 hW (by unfold maxLen; omega) rfl
  have ho2 : ∀ (W : World) (g : Nat), g = W.heap.size → w.heap.size ≤ W.heap.size → (W.alloc (.cells #[.int .i64 1, .int .i64 0, .int .i64 0, .int .u32 b, .int .i64 0, .int .i64 0, .int .i64 0, .int .u32 a, .int .i64 29, .int .i64 jt, .int .i64 jf, .int .u32 0] 34)).ownsRow w.heap.size 34 4 (.slice (some ⟨g, 0, none⟩) 3 3) 3 (cellsOf (jumpL 29 a b jt jf 0 0)) :=
    fun W g hg hW => by subst hg; exact World.ownsRow_lit W _ 3 hW (by unfold maxLen; omega) rfl
  have HO1 := Lib.hid ho1
  have HO2 := Lib.hid ho2
  clear ho1 ho2 hB
  go_loopw [15, 16, 17] (fun v u i wr => ∃ k : Nat, k ≤ 21 ∧ i = .int .i64 k ∧ wr.ownsRow w.heap.size 34 4 v (3 + k) (cellsOf (jumpL 21 a b jt jf b k)) ∧ wr.ownsRow w.heap.size 34 4 u (3 + k) (cellsOf (jumpL 29 a b jt jf 0 k)) ∧ Apart v u ∧ Below w.heap.size w wr) (fun _ _ i _ => 21 - (intOf i).toNat)
  case atStart =>
    refine ⟨0, by omega, rfl, ?_, ?_, ?_, below_alloc (below_alloc (below_alloc (below_alloc hb1 (Nat.le_refl _) _) (Nat.le_refl _) _) (Nat.le_refl _) _) (Nat.le_refl _) _⟩
    · exact (HO1.out _ _ (by simp) (by simp; omega)).alloc _
    · exact HO2.out _ _ (by simp) (by simp; omega)
    · intro k h1 h2
      simp [Value.ownBlock] at h1 h2
      omega
  case round =>
    obtain ⟨k, hk, rfl, hown1, hown2, hap, hnx⟩ := hrel
    have hsw := hnx.size
    by_cases hlt : k < 21
    · go_wp2_with (at_builtin; go_loud (refine wpList_append_lit_at _ rfl (.tmp 103) (.tmp 107) _ rfl w.heap.size 34 i0 _ 4 32 Try.underlying22 hi hz0 hz1 hz2 rfl (by omega) _ _ _ rfl hown1 _ _ 1 1 rfl rfl ?c1 ?c2 ?c3 ?c4 ?_))
      case c1 => exact ⟨rfl, rfl, rfl⟩
      case c2 => unfold maxLen; omega
      case c3 => omega
      case c4 => omega
      intro v' w' hown3 hg3 hat3
      have hnx3 : Below w.heap.size w w' := below_grown (hnx.alloc (by omega) _) (hown1.alloc _) (Nat.le_refl _) (by simp; omega) hg3
      have hown4 : w'.ownsRow w.heap.size 34 4 v' (3 + (k + 1)) (cellsOf (jumpL 21 a b jt jf b (k + 1))) := by
        rw [jumpL_step]
        exact hown3
      have hown5 := own_apart (hown2.alloc _) hg3 hap
      have hap5 := hap.grown hown2 (Nat.le_succ _) hat3
      clear hg3 hown1 hown2 hown3 hnx hap hat3
      have hsz := hnx3.size
      go_wp2_with (at_builtin; go_loud (refine wpList_append_lit_at _ rfl (.tmp 109) (.tmp 113) _ rfl w.heap.size 34 i0 _ 4 32 Try.underlying22 hi hz0 hz1 hz2 rfl (by omega) _ _ _ rfl hown5 _ _ 1 1 rfl rfl ?d1 ?d2 ?d3 ?d4 ?_))
      case d1 => exact ⟨rfl, rfl, rfl⟩
      case d2 => unfold maxLen; omega
      case d3 => omega
      case d4 => omega
      intro v6 w6 hown6 hg6 hat6
      have hnx6 : Below w.heap.size w w6 := below_grown (hnx3.alloc (by omega) _) (hown5.alloc _) (Nat.le_refl _) (by simp; omega) hg6
      have hown7 : w6.ownsRow w.heap.size 34 4 v6 (3 + (k + 1)) (cellsOf (jumpL 29 a b jt jf 0 (k + 1))) := by
        rw [jumpL_step]
        exact hown6
      have hown8 := own_apart (hown4.alloc _) hg6 hap5.symm
      have hap8 := hap5.symm.grown hown4 (Nat.le_succ _) hat6
      clear hg6 hown4 hown5 hown6 hnx3 hap5 hat6
      go_wp2
      go_roundw
      case rel => exact ⟨k + 1, by omega, by go_num, hown8, hown7, hap8.symm, hnx6⟩
      case measure => simp [intOf]; omega
    · obtain rfl : k = 21 := by omega
      obtain ⟨A1, c1, rfl, hc1, hl1⟩ := own_form hown1
      obtain ⟨A2, c2, rfl, hc2, hl2⟩ := own_form hown2
      clear hown1 hown2 hap
      go_wp2_with fail
      refine (R.run A1 _ c1 (jumpL 21 a b jt jf b 21) dat0 _ hl1 (jumpL_ok _ _ _ _ _ _ _ (by omega) (by omega) ha hb hb (by omega) (by omega)) dat0_ok (by omega)).mono ?_
      rw [H1.out]
      rintro r w7 ⟨rfl, hb7⟩
      have hl7 := (hl2.below hb7).wider hb7.size
      have hn7 := below_step hnx (Nat.le_refl _) hb7
      clear hb7 hl1 hl2 hnx
      go_wp2_with fail
      refine (R.run A2 _ c2 (jumpL 29 a b jt jf 0 21) dat0 _ hl7 (jumpL_ok _ _ _ _ _ _ _ (by omega) (by omega) ha hb (by omega) (by omega) (by omega)) dat0_ok (by omega)).mono ?_
      rw [H2.out]
      rintro r w8 ⟨rfl, hb8⟩
      have hn8 := below_step hn7 (Nat.le_refl _) hb8
      clear hb8 hl7 hn7
      go_wp2
      go_ret
      exact ⟨rfl, hn8⟩

set_option maxRecDepth 100000 in
set_option maxHeartbeats 2000000 in
theorem jumps_1_true (R : MacSays) (a b : Int) (jt jf : Nat) (w : World) (ha : 0 ≤ a ∧ a ≤ 4294967295) (hb : 0 ≤ b ∧ b ≤ 4294967295) (ht : jt ≤ 20) (hf : jf ≤ 20) (hB : decide (b < a) = true) :
    Calls Try.prog 5 #[.int .i64 1, .int .u32 a, .int .u32 b, .int .i64 jt, .int .i64 jf] w fun r w' => r = .returned (.bool true) ∧ Below w.heap.size w w' := by
  obtain ⟨i0, hi, hz0, hz1, hz2⟩ := info_parts Try.infoIns
  have H1 : Hid (runOf (jumpL 37 a b jt jf b 21) dat0 = ((jt : Int), 4, true)) := jump_run 37 a b jt jf b jt dat0 ⟨rfl, by decide, by decide, by decide⟩ (by
    show (if jumpOf 37 a b then (jt : Int) else (jf : Int)) = _
    rw [show jumpOf 37 a b = decide (b < a) from rfl, hB]
    rfl) ht
  have H2 : Hid (runOf (jumpL 45 a b jt jf 0 21) dat0 = ((jt : Int), 4, true)) := jump_run 45 a b jt jf 0 jt dat0 ⟨rfl, by decide, by decide, by decide⟩ (by
    show (if jumpOf 45 a b then (jt : Int) else (jf : Int)) = _
    rw [show jumpOf 45 a b = decide (b < a) from rfl, hB]
    rfl) ht
  have g0 : decide ((jt : Int) < 0) = false := decide_eq_false (by omega)
  have g1 : decide ((20 : Int) < (jt : Int)) = false := decide_eq_false (by omega)
  have g2 : decide ((jf : Int) < 0) = false := decide_eq_false (by omega)
  have g3 : decide ((20 : Int) < (jf : Int)) = false := decide_eq_false (by omega)
  obtain ⟨a0, a1⟩ := id ha
  obtain ⟨b0, b1⟩ := id hb
  go_enter Try.func5, Try.ntmps5
  go_wp2_with fail
  refine (malive_any R _).mono ?_
  rintro r w1 ⟨rfl, hb1⟩
  have hsz1 := hb1.size
  go_wp2_with fail
  have ho1 : ∀ (W : World) (g : Nat), g = W.heap.size → w.heap.size ≤ W.heap.size → (W.alloc (.cells #[.int .i64 1, .int .i64 0, .int .i64 0, .int .u32 b, .int .i64 0, .int .i64 0, .int .i64 0, .int .u32 a, .int .i64 37, .int .i64 jt, .int .i64 jf, .int .u32 b] 34)).ownsRow w.heap.size 34 4 (.slice (some ⟨g, 0, none⟩) 3 3) 3 (cellsOf (jumpL 37 a b jt jf b 0)) :=
    fun W g hg hW => by subst hg; exact World.ownsRow_lit W _ 3 hW (by unfold maxLen; omega) rfl
  have ho2 : ∀ (W : World) (g : Nat), g = W.heap.size → w.heap.size ≤ W.heap.size → (W.alloc (.cells #[.int .i64 1, .int .i64 0, .int .i64 0, .int .u32 b, .int .i64 0, .int .i64 0, .int .i64 0, .int .u32 a, .int .i64 45, .int .i64 jt, .int .i64 jf, .int .u32 0] 34)).ownsRow w.heap.size 34 4 (.slice (some ⟨g, 0, none⟩) 3 3) 3 (cellsOf (jumpL 45 a b jt jf 0 0)) :=
    fun W g hg hW => by subst hg; exact World.ownsRow_lit W _ 3 hW (by unfold maxLen; omega) rfl
  have HO1 := Lib.hid ho1
  have HO2 := Lib.hid ho2
  clear ho1 ho2 hB
  go_loopw [15, 16, 17] (fun v u i wr => ∃ k : Nat, k ≤ 21 ∧ i = .int .i64 k ∧ wr.ownsRow w.heap.size 34 4 v (3 + k) (cellsOf (jumpL 37 a b jt jf b k)) ∧ wr.ownsRow w.heap.size 34 4 u (3 + k) (cellsOf (jumpL 45 a b jt jf 0 k)) ∧ Apart v u ∧ Below w.heap.size w wr) (fun _ _ i _ => 21 - (intOf i).toNat)
  case atStart =>
    refine ⟨0, by omega, rfl, ?_, ?_, ?_, below_alloc (below_alloc (below_alloc (below_alloc hb1 (Nat.le_refl _) _) (Nat.le_refl _) _) (Nat.le_refl _) _) (Nat.le_refl _) _⟩
    · exact (HO1.out _ _ (by simp) (by simp; omega)).alloc _
    · exact HO2.out _ _ (by simp) (by simp; omega)
    · intro k h1 h2
      simp [Value.ownBlock] at h1 h2
      omega
  case round =>
    obtain ⟨k, hk, rfl, hown1, hown2, hap, hnx⟩ := hrel
    have hsw := hnx.size
    by_cases hlt : k < 21
    · go_wp2_with (at_builtin; go_loud (refine wpList_append_lit_at _ rfl (.tmp 103) (.tmp 107) _ rfl w.heap.size 34 i0 _ 4 32 Try.underlying22 hi hz0 hz1 hz2 rfl (by omega) _ _ _ rfl hown1 _ _ 1 1 rfl rfl ?c1 ?c2 ?c3 ?c4 ?_))
      case c1 => exact ⟨rfl, rfl, rfl⟩
      case c2 => unfold maxLen; omega
      case c3 => omega
      case c4 => omega
      intro v' w' hown3 hg3 hat3
      have hnx3 : Below w.heap.size w w' := below_grown (hnx.alloc (by omega) _) (hown1.alloc _) (Nat.le_refl _) (by simp; omega) hg3
      have hown4 : w'.ownsRow w.heap.size 34 4 v' (3 + (k + 1)) (cellsOf (jumpL 37 a b jt jf b (k + 1))) := by
        rw [jumpL_step]
        exact hown3
      have hown5 := own_apart (hown2.alloc _) hg3 hap
      have hap5 := hap.grown hown2 (Nat.le_succ _) hat3
      clear hg3 hown1 hown2 hown3 hnx hap hat3
      have hsz := hnx3.size
      go_wp2_with (at_builtin; go_loud (refine wpList_append_lit_at _ rfl (.tmp 109) (.tmp 113) _ rfl w.heap.size 34 i0 _ 4 32 Try.underlying22 hi hz0 hz1 hz2 rfl (by omega) _ _ _ rfl hown5 _ _ 1 1 rfl rfl ?d1 ?d2 ?d3 ?d4 ?_))
      case d1 => exact ⟨rfl, rfl, rfl⟩
      case d2 => unfold maxLen; omega
      case d3 => omega
      case d4 => omega
      intro v6 w6 hown6 hg6 hat6
      have hnx6 : Below w.heap.size w w6 := below_grown (hnx3.alloc (by omega) _) (hown5.alloc _) (Nat.le_refl _) (by simp; omega) hg6
      have hown7 : w6.ownsRow w.heap.size 34 4 v6 (3 + (k + 1)) (cellsOf (jumpL 45 a b jt jf 0 (k + 1))) := by
        rw [jumpL_step]
        exact hown6
      have hown8 := own_apart (hown4.alloc _) hg6 hap5.symm
      have hap8 := hap5.symm.grown hown4 (Nat.le_succ _) hat6
      clear hg6 hown4 hown5 hown6 hnx3 hap5 hat6
      go_wp2
      go_roundw
      case rel => exact ⟨k + 1, by omega, by go_num, hown8, hown7, hap8.symm, hnx6⟩
      case measure => simp [intOf]; omega
    · obtain rfl : k = 21 := by omega
      obtain ⟨A1, c1, rfl, hc1, hl1⟩ := own_form hown1
      obtain ⟨A2, c2, rfl, hc2, hl2⟩ := own_form hown2
      clear hown1 hown2 hap
      go_wp2_with fail
      refine (R.run A1 _ c1 (jumpL 37 a b jt jf b 21) dat0 _ hl1 (jumpL_ok _ _ _ _ _ _ _ (by omega) (by omega) ha hb hb (by omega) (by omega)) dat0_ok (by omega)).mono ?_
      rw [H1.out]
      rintro r w7 ⟨rfl, hb7⟩
      have hl7 := (hl2.below hb7).wider hb7.size
      have hn7 := below_step hnx (Nat.le_refl _) hb7
      clear hb7 hl1 hl2 hnx
      go_wp2_with fail
      refine (R.run A2 _ c2 (jumpL 45 a b jt jf 0 21) dat0 _ hl7 (jumpL_ok _ _ _ _ _ _ _ (by omega) (by omega) ha hb (by omega) (by omega) (by omega)) dat0_ok (by omega)).mono ?_
      rw [H2.out]
      rintro r w8 ⟨rfl, hb8⟩
      have hn8 := below_step hn7 (Nat.le_refl _) hb8
      clear hb8 hl7 hn7
      go_wp2
      go_ret
      exact ⟨rfl, hn8⟩

set_option maxRecDepth 100000 in
set_option maxHeartbeats 2000000 in
theorem jumps_1_false (R : MacSays) (a b : Int) (jt jf : Nat) (w : World) (ha : 0 ≤ a ∧ a ≤ 4294967295) (hb : 0 ≤ b ∧ b ≤ 4294967295) (ht : jt ≤ 20) (hf : jf ≤ 20) (hB : decide (b < a) = false) :
    Calls Try.prog 5 #[.int .i64 1, .int .u32 a, .int .u32 b, .int .i64 jt, .int .i64 jf] w fun r w' => r = .returned (.bool true) ∧ Below w.heap.size w w' := by
  obtain ⟨i0, hi, hz0, hz1, hz2⟩ := info_parts Try.infoIns
  have H1 : Hid (runOf (jumpL 37 a b jt jf b 21) dat0 = ((jf : Int), 4, true)) := jump_run 37 a b jt jf b jf dat0 ⟨rfl, by decide, by decide, by decide⟩ (by
    show (if jumpOf 37 a b then (jt : Int) else (jf : Int)) = _
    rw [show jumpOf 37 a b = decide (b < a) from rfl, hB]
    rfl) hf
  have H2 : Hid (runOf (jumpL 45 a b jt jf 0 21) dat0 = ((jf : Int), 4, true)) := jump_run 45 a b jt jf 0 jf dat0 ⟨rfl, by decide, by decide, by decide⟩ (by
    show (if jumpOf 45 a b then (jt : Int) else (jf : Int)) = _
    rw [show jumpOf 45 a b = decide (b < a) from rfl, hB]
    rfl) hf
  have g0 : decide ((jt : Int) < 0) = false := decide_eq_false (by omega)
  have g1 : decide ((20 : Int) < (jt : Int)) = false := decide_eq_false (by omega)
  have g2 : decide ((jf : Int) < 0) = false := decide_eq_false (by omega)
  have g3 : decide ((20 : Int) < (jf : Int)) = false := decide_eq_false (by omega)
  obtain ⟨a0, a1⟩ := id ha
  obtain ⟨b0, b1⟩ := id hb
  go_enter Try.func5, Try.ntmps5
  go_wp2_with fail
  refine (malive_any R _).mono ?_
  rintro r w1 ⟨rfl, hb1⟩
  have hsz1 := hb1.size
  go_wp2_with fail
  have ho1 : ∀ (W : World) (g : Nat), g = W.heap.size → w.heap.size ≤ W.heap.size → (W.alloc (.cells #[.int .i64 1, .int .i64 0, .int .i64 0, .int .u32 b, .int .i64 0, .int .i64 0, .int .i64 0, .int .u32 a, .int .i64 37, .int .i64 jt, .int .i64 jf, .int .u32 b] 34)).ownsRow w.heap.size 34 4 (.slice (some ⟨g, 0, none⟩) 3 3) 3 (cellsOf (jumpL 37 a b jt jf b 0)) :=
    fun W g hg hW => by subst hg; exact World.ownsRow_lit W _ 3 hW (by unfold maxLen; omega) rfl
  have ho2 : ∀ (W : World) (g : Nat), g = W.heap.size → w.heap.size ≤ W.heap.size → (W.alloc (.cells #[.int .i64 1, .int .i64 0, .int .i64 0, .int .u32 b, .int .i64 0, .int .i64 0, .int .i64 0, .int .u32 a, .int .i64 45, .int .i64 jt, .int .i64 jf, .int .u32 0] 34)).ownsRow w.heap.size 34 4 (.slice (some ⟨g, 0, none⟩) 3 3) 3 (cellsOf (jumpL 45 a b jt jf 0 0)) :=
    fun W g hg hW => by subst hg; exact World.ownsRow_lit W _ 3 hW (by unfold maxLen; omega) rfl
  have HO1 := Lib.hid ho1
  have HO2 := Lib.hid ho2
  clear ho1 ho2 hB
  go_loopw [15, 16, 17] (fun v u i wr => ∃ k : Nat, k ≤ 21 ∧ i = .int .i64 k ∧ wr.ownsRow w.heap.size 34 4 v (3 + k) (cellsOf (jumpL 37 a b jt jf b k)) ∧ wr.ownsRow w.heap.size 34 4 u (3 + k) (cellsOf (jumpL 45 a b jt jf 0 k)) ∧ Apart v u ∧ Below w.heap.size w wr) (fun _ _ i _ => 21 - (intOf i).toNat)
  case atStart =>
    refine ⟨0, by omega, rfl, ?_, ?_, ?_, below_alloc (below_alloc (below_alloc (below_alloc hb1 (Nat.le_refl _) _) (Nat.le_refl _) _) (Nat.le_refl _) _) (Nat.le_refl _) _⟩
    · exact (HO1.out _ _ (by simp) (by simp; omega)).alloc _
    · exact HO2.out _ _ (by simp) (by simp; omega)
    · intro k h1 h2
      simp [Value.ownBlock] at h1 h2
      omega
  case round =>
    obtain ⟨k, hk, rfl, hown1, hown2, hap, hnx⟩ := hrel
    have hsw := hnx.size
    by_cases hlt : k < 21
    · go_wp2_with (at_builtin; go_loud (refine wpList_append_lit_at _ rfl (.tmp 103) (.tmp 107) _ rfl w.heap.size 34 i0 _ 4 32 Try.underlying22 hi hz0 hz1 hz2 rfl (by omega) _ _ _ rfl hown1 _ _ 1 1 rfl rfl ?c1 ?c2 ?c3 ?c4 ?_))
      case c1 => exact ⟨rfl, rfl, rfl⟩
      case c2 => unfold maxLen; omega
      case c3 => omega
      case c4 => omega
      intro v' w' hown3 hg3 hat3
      have hnx3 : Below w.heap.size w w' := below_grown (hnx.alloc (by omega) _) (hown1.alloc _) (Nat.le_refl _) (by simp; omega) hg3
      have hown4 : w'.ownsRow w.heap.size 34 4 v' (3 + (k + 1)) (cellsOf (jumpL 37 a b jt jf b (k + 1))) := by
        rw [jumpL_step]
        exact hown3
      have hown5 := own_apart (hown2.alloc _) hg3 hap
      have hap5 := hap.grown hown2 (Nat.le_succ _) hat3
      clear hg3 hown1 hown2 hown3 hnx hap hat3
      have hsz := hnx3.size
      go_wp2_with (at_builtin; go_loud (refine wpList_append_lit_at _ rfl (.tmp 109) (.tmp 113) _ rfl w.heap.size 34 i0 _ 4 32 Try.underlying22 hi hz0 hz1 hz2 rfl (by omega) _ _ _ rfl hown5 _ _ 1 1 rfl rfl ?d1 ?d2 ?d3 ?d4 ?_))
      case d1 => exact ⟨rfl, rfl, rfl⟩
      case d2 => unfold maxLen; omega
      case d3 => omega
      case d4 => omega
      intro v6 w6 hown6 hg6 hat6
      have hnx6 : Below w.heap.size w w6 := below_grown (hnx3.alloc (by omega) _) (hown5.alloc _) (Nat.le_refl _) (by simp; omega) hg6
      have hown7 : w6.ownsRow w.heap.size 34 4 v6 (3 + (k + 1)) (cellsOf (jumpL 45 a b jt jf 0 (k + 1))) := by
        rw [jumpL_step]
        exact hown6
      have hown8 := own_apart (hown4.alloc _) hg6 hap5.symm
      have hap8 := hap5.symm.grown hown4 (Nat.le_succ _) hat6
      clear hg6 hown4 hown5 hown6 hnx3 hap5 hat6
      go_wp2
      go_roundw
      case rel => exact ⟨k + 1, by omega, by go_num, hown8, hown7, hap8.symm, hnx6⟩
      case measure => simp [intOf]; omega
    · obtain rfl : k = 21 := by omega
      obtain ⟨A1, c1, rfl, hc1, hl1⟩ := own_form hown1
      obtain ⟨A2, c2, rfl, hc2, hl2⟩ := own_form hown2
      clear hown1 hown2 hap
      go_wp2_with fail
      refine (R.run A1 _ c1 (jumpL 37 a b jt jf b 21) dat0 _ hl1 (jumpL_ok _ _ _ _ _ _ _ (by omega) (by omega) ha hb hb (by omega) (by omega)) dat0_ok (by omega)).mono ?_
      rw [H1.out]
      rintro r w7 ⟨rfl, hb7⟩
      have hl7 := (hl2.below hb7).wider hb7.size
      have hn7 := below_step hnx (Nat.le_refl _) hb7
      clear hb7 hl1 hl2 hnx
      go_wp2_with fail
      refine (R.run A2 _ c2 (jumpL 45 a b jt jf 0 21) dat0 _ hl7 (jumpL_ok _ _ _ _ _ _ _ (by omega) (by omega) ha hb (by omega) (by omega) (by omega)) dat0_ok (by omega)).mono ?_
      rw [H2.out]
      rintro r w8 ⟨rfl, hb8⟩
      have hn8 := below_step hn7 (Nat.le_refl _) hb8
      clear hb8 hl7 hn7
      go_wp2
      go_ret
      exact ⟨rfl, hn8⟩

set_option maxRecDepth 100000 in
set_option maxHeartbeats 2000000 in
theorem jumps_2_true (R : MacSays) (a b : Int) (jt jf : Nat) (w : World) (ha : 0 ≤ a ∧ a ≤ 4294967295) (hb : 0 ≤ b ∧ b ≤ 4294967295) (ht : jt ≤ 20) (hf : jf ≤ 20) (hB : decide (b ≤ a) = true) :
    Calls Try.prog 5 #[.int .i64 2, .int .u32 a, .int .u32 b, .int .i64 jt, .int .i64 jf] w fun r w' => r = .returned (.bool true) ∧ Below w.heap.size w w' := by
  obtain ⟨i0, hi, hz0, hz1, hz2⟩ := info_parts Try.infoIns
  have H1 : Hid (runOf (jumpL 53 a b jt jf b 21) dat0 = ((jt : Int), 4, true)) := jump_run 53 a b jt jf b jt dat0 ⟨rfl, by decide, by decide, by decide⟩ (by
    show (if jumpOf 53 a b then (jt : Int) else (jf : Int)) = _
    rw [show jumpOf 53 a b = decide (b ≤ a) from rfl, hB]
    rfl) ht
  have H2 : Hid (runOf (jumpL 61 a b jt jf 0 21) dat0 = ((jt : Int), 4, true)) := jump_run 61 a b jt jf 0 jt dat0 ⟨rfl, by decide, by decide, by decide⟩ (by
    show (if jumpOf 61 a b then (jt : Int) else (jf : Int)) = _
    rw [show jumpOf 61 a b = decide (b ≤ a) from rfl, hB]
    rfl) ht
  have g0 : decide ((jt : Int) < 0) = false := decide_eq_false (by omega)
  have g1 : decide ((20 : Int) < (jt : Int)) = false := decide_eq_false (by omega)
  have g2 : decide ((jf : Int) < 0) = false := decide_eq_false (by omega)
  have g3 : decide ((20 : Int) < (jf : Int)) = false := decide_eq_false (by omega)
  obtain ⟨a0, a1⟩ := id ha
  obtain ⟨b0, b1⟩ := id hb
  go_enter Try.func5, Try.ntmps5
  go_wp2_with fail
  refine (malive_any R _).mono ?_
  rintro r w1 ⟨rfl, hb1⟩
  have hsz1 := hb1.size
  go_wp2_with fail
  have ho1 : ∀ (W : World) (g : Nat), g = W.heap.size → w.heap.size ≤ W.heap.size → (W.alloc (.cells #[.int .i64 1, .int .i64 0, .int .i64 0, .int .u32 b, .int .i64 0, .int .i64 0, .int .i64 0, .int .u32 a, .int .i64 53, .int .i64 jt, .int .i64 jf, .int .u32 b] 34)).ownsRow w.heap.size 34 4 (.slice (some ⟨g, 0, none⟩) 3 3) 3 (cellsOf (jumpL 53 a b jt jf b 0)) :=
    fun W g hg hW => by subst hg; exact World.ownsRow_lit W _ 3 hW (by unfold maxLen; omega) rfl
  have ho2 : ∀ (W : World) (g : Nat), g = W.heap.size → w.heap.size ≤ W.heap.size → (W.alloc (.cells #[.int .i64 1, .int .i64 0, .int .i64 0, .int .u32 b, .int .i64 0, .int .i64 0, .int .i64 0, .int .u32 a, .int .i64 61, .int .i64 jt, .int .i64 jf, .int .u32 0] 34)).ownsRow w.heap.size 34 4 (.slice (some ⟨g, 0, none⟩) 3 3) 3 (cellsOf (jumpL 61 a b jt jf 0 0)) :=
    fun W g hg hW => by subst hg; exact World.ownsRow_lit W _ 3 hW (by unfold maxLen; omega) rfl
  have HO1 := Lib.hid ho1
  have HO2 := Lib.hid ho2
  clear ho1 ho2 hB
  go_loopw [15, 16, 17] (fun v u i wr => ∃ k : Nat, k ≤ 21 ∧ i = .int .i64 k ∧ wr.ownsRow w.heap.size 34 4 v (3 + k) (cellsOf (jumpL 53 a b jt jf b k)) ∧ wr.ownsRow w.heap.size 34 4 u (3 + k) (cellsOf (jumpL 61 a b jt jf 0 k)) ∧ Apart v u ∧ Below w.heap.size w wr) (fun _ _ i _ => 21 - (intOf i).toNat)
  case atStart =>
    refine ⟨0, by omega, rfl, ?_, ?_, ?_, below_alloc (below_alloc (below_alloc (below_alloc hb1 (Nat.le_refl _) _) (Nat.le_refl _) _) (Nat.le_refl _) _) (Nat.le_refl _) _⟩
    · exact (HO1.out _ _ (by simp) (by simp; omega)).alloc _
    · exact HO2.out _ _ (by simp) (by simp; omega)
    · intro k h1 h2
      simp [Value.ownBlock] at h1 h2
      omega
  case round =>
    obtain ⟨k, hk, rfl, hown1, hown2, hap, hnx⟩ := hrel
    have hsw := hnx.size
    by_cases hlt : k < 21
    · go_wp2_with (at_builtin; go_loud (refine wpList_append_lit_at _ rfl (.tmp 103) (.tmp 107) _ rfl w.heap.size 34 i0 _ 4 32 Try.underlying22 hi hz0 hz1 hz2 rfl (by omega) _ _ _ rfl hown1 _ _ 1 1 rfl rfl ?c1 ?c2 ?c3 ?c4 ?_))
      case c1 => exact ⟨rfl, rfl, rfl⟩
      case c2 => unfold maxLen; omega
      case c3 => omega
      case c4 => omega
      intro v' w' hown3 hg3 hat3
      have hnx3 : Below w.heap.size w w' := below_grown (hnx.alloc (by omega) _) (hown1.alloc _) (Nat.le_refl _) (by simp; omega) hg3
      have hown4 : w'.ownsRow w.heap.size 34 4 v' (3 + (k + 1)) (cellsOf (jumpL 53 a b jt jf b (k + 1))) := by
        rw [jumpL_step]
        exact hown3
      have hown5 := own_apart (hown2.alloc _) hg3 hap
      have hap5 := hap.grown hown2 (Nat.le_succ _) hat3
      clear hg3 hown1 hown2 hown3 hnx hap hat3
      have hsz := hnx3.size
      go_wp2_with (at_builtin; go_loud (refine wpList_append_lit_at _ rfl (.tmp 109) (.tmp 113) _ rfl w.heap.size 34 i0 _ 4 32 Try.underlying22 hi hz0 hz1 hz2 rfl (by omega) _ _ _ rfl hown5 _ _ 1 1 rfl rfl ?d1 ?d2 ?d3 ?d4 ?_))
      case d1 => exact ⟨rfl, rfl, rfl⟩
      case d2 => unfold maxLen; omega
      case d3 => omega
      case d4 => omega
      intro v6 w6 hown6 hg6 hat6
      have hnx6 : Below w.heap.size w w6 := below_grown (hnx3.alloc (by omega) _) (hown5.alloc _) (Nat.le_refl _) (by simp; omega) hg6
      have hown7 : w6.ownsRow w.heap.size 34 4 v6 (3 + (k + 1)) (cellsOf (jumpL 61 a b jt jf 0 (k + 1))) := by
        rw [jumpL_step]
        exact hown6
      have hown8 := own_apart (hown4.alloc _) hg6 hap5.symm
      have hap8 := hap5.symm.grown hown4 (Nat.le_succ _) hat6
      clear hg6 hown4 hown5 hown6 hnx3 hap5 hat6
      go_wp2
      go_roundw
      case rel => exact ⟨k + 1, by omega, by go_num, hown8, hown7, hap8.symm, hnx6⟩
      case measure => simp [intOf]; omega
    · obtain rfl : k = 21 := by omega
      obtain ⟨A1, c1, rfl, hc1, hl1⟩ := own_form hown1
      obtain ⟨A2, c2, rfl, hc2, hl2⟩ := own_form hown2
      clear hown1 hown2 hap
      go_wp2_with fail
      refine (R.run A1 _ c1 (jumpL 53 a b jt jf b 21) dat0 _ hl1 (jumpL_ok _ _ _ _ _ _ _ (by omega) (by omega) ha hb hb (by omega) (by omega)) dat0_ok (by omega)).mono ?_
      rw [H1.out]
      rintro r w7 ⟨rfl, hb7⟩
      have hl7 := (hl2.below hb7).wider hb7.size
      have hn7 := below_step hnx (Nat.le_refl _) hb7
      clear hb7 hl1 hl2 hnx
      go_wp2_with fail
      refine (R.run A2 _ c2 (jumpL 61 a b jt jf 0 21) dat0 _ hl7 (jumpL_ok _ _ _ _ _ _ _ (by omega) (by omega) ha hb (by omega) (by omega) (by omega)) dat0_ok (by omega)).mono ?_
      rw [H2.out]
      rintro r w8 ⟨rfl, hb8⟩
      have hn8 := below_step hn7 (Nat.le_refl _) hb8
      clear hb8 hl7 hn7
      go_wp2
      go_ret
      exact ⟨rfl, hn8⟩

set_option maxRecDepth 100000 in
set_option maxHeartbeats 2000000 in
theorem jumps_2_false (R : MacSays) (a b : Int) (jt jf : Nat) (w : World) (ha : 0 ≤ a ∧ a ≤ 4294967295) (hb : 0 ≤ b ∧ b ≤ 4294967295) (ht : jt ≤ 20) (hf : jf ≤ 20) (hB : decide (b ≤ a) = false) :
    Calls Try.prog 5 #[.int .i64 2, .int .u32 a, .int .u32 b, .int .i64 jt, .int .i64 jf] w fun r w' => r = .returned (.bool true) ∧ Below w.heap.size w w' := by
  obtain ⟨i0, hi, hz0, hz1, hz2⟩ := info_parts Try.infoIns
  have H1 : Hid (runOf (jumpL 53 a b jt jf b 21) dat0 = ((jf : Int), 4, true)) := jump_run 53 a b jt jf b jf dat0 ⟨rfl, by decide, by decide, by decide⟩ (by
    show (if jumpOf 53 a b then (jt : Int) else (jf : Int)) = _
    rw [show jumpOf 53 a b = decide (b ≤ a) from rfl, hB]
    rfl) hf
  have H2 : Hid (runOf (jumpL 61 a b jt jf 0 21) dat0 = ((jf : Int), 4, true)) := jump_run 61 a b jt jf 0 jf dat0 ⟨rfl, by decide, by decide, by decide⟩ (by
    show (if jumpOf 61 a b then (jt : Int) else (jf : Int)) = _
    rw [show jumpOf 61 a b = decide (b ≤ a) from rfl, hB]
    rfl) hf
  have g0 : decide ((jt : Int) < 0) = false := decide_eq_false (by omega)
  have g1 : decide ((20 : Int) < (jt : Int)) = false := decide_eq_false (by omega)
  have g2 : decide ((jf : Int) < 0) = false := decide_eq_false (by omega)
  have g3 : decide ((20 : Int) < (jf : Int)) = false := decide_eq_false (by omega)
  obtain ⟨a0, a1⟩ := id ha
  obtain ⟨b0, b1⟩ := id hb
  go_enter Try.func5, Try.ntmps5
  go_wp2_with fail
  refine (malive_any R _).mono ?_
  rintro r w1 ⟨rfl, hb1⟩
  have hsz1 := hb1.size
  go_wp2_with fail
  have ho1 : ∀ (W : World) (g : Nat), g = W.heap.size → w.heap.size ≤ W.heap.size → (W.alloc (.cells #[.int .i64 1, .int .i64 0, .int .i64 0, .int .u32 b, .int .i64 0, .int .i64 0, .int .i64 0, .int .u32 a, .int .i64 53, .int .i64 jt, .int .i64 jf, .int .u32 b] 34)).ownsRow w.heap.size 34 4 (.slice (some ⟨g, 0, none⟩) 3 3) 3 (cellsOf (jumpL 53 a b jt jf b 0)) :=
    fun W g hg hW => by subst hg; exact World.ownsRow_lit W _ 3 hW (by unfold maxLen; omega) rfl
  have ho2 : ∀ (W : World) (g : Nat), g = W.heap.size → w.heap.size ≤ W.heap.size → (W.alloc (.cells #[.int .i64 1, .int .i64 0, .int .i64 0, .int .u32 b, .int .i64 0, .int .i64 0, .int .i64 0, .int .u32 a, .int .i64 61, .int .i64 jt, .int .i64 jf, .int .u32 0] 34)).ownsRow w.heap.size 34 4 (.slice (some ⟨g, 0, none⟩) 3 3) 3 (cellsOf (jumpL 61 a b jt jf 0 0)) :=
    fun W g hg hW => by subst hg; exact World.ownsRow_lit W _ 3 hW (by unfold maxLen; omega) rfl
  have HO1 := Lib.hid ho1
  have HO2 := Lib.hid ho2
  clear ho1 ho2 hB
  go_loopw [15, 16, 17] (fun v u i wr => ∃ k : Nat, k ≤ 21 ∧ i = .int .i64 k ∧ wr.ownsRow w.heap.size 34 4 v (3 + k) (cellsOf (jumpL 53 a b jt jf b k)) ∧ wr.ownsRow w.heap.size 34 4 u (3 + k) (cellsOf (jumpL 61 a b jt jf 0 k)) ∧ Apart v u ∧ Below w.heap.size w wr) (fun _ _ i _ => 21 - (intOf i).toNat)
  case atStart =>
    refine ⟨0, by omega, rfl, ?_, ?_, ?_, below_alloc (below_alloc (below_alloc (below_alloc hb1 (Nat.le_refl _) _) (Nat.le_refl _) _) (Nat.le_refl _) _) (Nat.le_refl _) _⟩
    · exact (HO1.out _ _ (by simp) (by simp; omega)).alloc _
    · exact HO2.out _ _ (by simp) (by simp; omega)
    · intro k h1 h2
      simp [Value.ownBlock] at h1 h2
      omega
  case round =>
    obtain ⟨k, hk, rfl, hown1, hown2, hap, hnx⟩ := hrel
    have hsw := hnx.size
    by_cases hlt : k < 21
    · go_wp2_with (at_builtin; go_loud (refine wpList_append_lit_at _ rfl (.tmp 103) (.tmp 107) _ rfl w.heap.size 34 i0 _ 4 32 Try.underlying22 hi hz0 hz1 hz2 rfl (by omega) _ _ _ rfl hown1 _ _ 1 1 rfl rfl ?c1 ?c2 ?c3 ?c4 ?_))
      case c1 => exact ⟨rfl, rfl, rfl⟩
      case c2 => unfold maxLen; omega
      case c3 => omega
      case c4 => omega
      intro v' w' hown3 hg3 hat3
      have hnx3 : Below w.heap.size w w' := below_grown (hnx.alloc (by omega) _) (hown1.alloc _) (Nat.le_refl _) (by simp; omega) hg3
      have hown4 : w'.ownsRow w.heap.size 34 4 v' (3 + (k + 1)) (cellsOf (jumpL 53 a b jt jf b (k + 1))) := by
        rw [jumpL_step]
        exact hown3
      have hown5 := own_apart (hown2.alloc _) hg3 hap
      have hap5 := hap.grown hown2 (Nat.le_succ _) hat3
      clear hg3 hown1 hown2 hown3 hnx hap hat3
      have hsz := hnx3.size
      go_wp2_with (at_builtin; go_loud (refine wpList_append_lit_at _ rfl (.tmp 109) (.tmp 113) _ rfl w.heap.size 34 i0 _ 4 32 Try.underlying22 hi hz0 hz1 hz2 rfl (by omega) _ _ _ rfl hown5 _ _ 1 1 rfl rfl ?d1 ?d2 ?d3 ?d4 ?_))
      case d1 => exact ⟨rfl, rfl, rfl⟩
      case d2 => unfold maxLen; omega
      case d3 => omega
      case d4 => omega
      intro v6 w6 hown6 hg6 hat6
      have hnx6 : Below w.heap.size w w6 := below_grown (hnx3.alloc (by omega) _) (hown5.alloc _) (Nat.le_refl _) (by simp; omega) hg6
      have hown7 : w6.ownsRow w.heap.size 34 4 v6 (3 + (k + 1)) (cellsOf (jumpL 61 a b jt jf 0 (k + 1))) := by
        rw [jumpL_step]
        exact hown6
      have hown8 := own_apart (hown4.alloc _) hg6 hap5.symm
      have hap8 := hap5.symm.grown hown4 (Nat.le_succ _) hat6
      clear hg6 hown4 hown5 hown6 hnx3 hap5 hat6
      go_wp2
      go_roundw
      case rel => exact ⟨k + 1, by omega, by go_num, hown8, hown7, hap8.symm, hnx6⟩
      case measure => simp [intOf]; omega
    · obtain rfl : k = 21 := by omega
      obtain ⟨A1, c1, rfl, hc1, hl1⟩ := own_form hown1
      obtain ⟨A2, c2, rfl, hc2, hl2⟩ := own_form hown2
      clear hown1 hown2 hap
      go_wp2_with fail
      refine (R.run A1 _ c1 (jumpL 53 a b jt jf b 21) dat0 _ hl1 (jumpL_ok _ _ _ _ _ _ _ (by omega) (by omega) ha hb hb (by omega) (by omega)) dat0_ok (by omega)).mono ?_
      rw [H1.out]
      rintro r w7 ⟨rfl, hb7⟩
      have hl7 := (hl2.below hb7).wider hb7.size
      have hn7 := below_step hnx (Nat.le_refl _) hb7
      clear hb7 hl1 hl2 hnx
      go_wp2_with fail
      refine (R.run A2 _ c2 (jumpL 61 a b jt jf 0 21) dat0 _ hl7 (jumpL_ok _ _ _ _ _ _ _ (by omega) (by omega) ha hb (by omega) (by omega) (by omega)) dat0_ok (by omega)).mono ?_
      rw [H2.out]
      rintro r w8 ⟨rfl, hb8⟩
      have hn8 := below_step hn7 (Nat.le_refl _) hb8
      clear hb8 hl7 hn7
      go_wp2
      go_ret
      exact ⟨rfl, hn8⟩

set_option maxRecDepth 100000 in
set_option maxHeartbeats 2000000 in
theorem jumps_3_true (R : MacSays) (a b : Int) (jt jf : Nat) (w : World) (ha : 0 ≤ a ∧ a ≤ 4294967295) (hb : 0 ≤ b ∧ b ≤ 4294967295) (ht : jt ≤ 20) (hf : jf ≤ 20) (hB : (bits .and .u32 a b != 0) = true) :
    Calls Try.prog 5 #[.int .i64 3, .int .u32 a, .int .u32 b, .int .i64 jt, .int .i64 jf] w fun r w' => r = .returned (.bool true) ∧ Below w.heap.size w w' := by
  obtain ⟨i0, hi, hz0, hz1, hz2⟩ := info_parts Try.infoIns
  have H1 : Hid (runOf (jumpL 69 a b jt jf b 21) dat0 = ((jt : Int), 4, true)) := jump_run 69 a b jt jf b jt dat0 ⟨rfl, by decide, by decide, by decide⟩ (by
    show (if jumpOf 69 a b then (jt : Int) else (jf : Int)) = _
    rw [show jumpOf 69 a b = (bits .and .u32 a b != 0) from rfl, hB]
    rfl) ht
  have H2 : Hid (runOf (jumpL 77 a b jt jf 0 21) dat0 = ((jt : Int), 4, true)) := jump_run 77 a b jt jf 0 jt dat0 ⟨rfl, by decide, by decide, by decide⟩ (by
    show (if jumpOf 77 a b then (jt : Int) else (jf : Int)) = _
    rw [show jumpOf 77 a b = (bits .and .u32 a b != 0) from rfl, hB]
    rfl) ht
  have g0 : decide ((jt : Int) < 0) = false := decide_eq_false (by omega)
  have g1 : decide ((20 : Int) < (jt : Int)) = false := decide_eq_false (by omega)
  have g2 : decide ((jf : Int) < 0) = false := decide_eq_false (by omega)
  have g3 : decide ((20 : Int) < (jf : Int)) = false := decide_eq_false (by omega)
  obtain ⟨a0, a1⟩ := id ha
  obtain ⟨b0, b1⟩ := id hb
  go_enter Try.func5, Try.ntmps5
  go_wp2_with fail
  refine (malive_any R _).mono ?_
  rintro r w1 ⟨rfl, hb1⟩
  have hsz1 := hb1.size
  go_wp2_with fail
  have ho1 : ∀ (W : World) (g : Nat), g = W.heap.size → w.heap.size ≤ W.heap.size → (W.alloc (.cells #[.int .i64 1, .int .i64 0, .int .i64 0, .int .u32 b, .int .i64 0, .int .i64 0, .int .i64 0, .int .u32 a, .int .i64 69, .int .i64 jt, .int .i64 jf, .int .u32 b] 34)).ownsRow w.heap.size 34 4 (.slice (some ⟨g, 0, none⟩) 3 3) 3 (cellsOf (jumpL 69 a b jt jf b 0)) :=
    fun W g hg hW => by subst hg; exact World.ownsRow_lit W _ 3 hW (by unfold maxLen; omega) rfl
  have ho2 : ∀ (W : World) (g : Nat), g = W.heap.size → w.heap.size ≤ W.heap.size → (W.alloc (.cells #[.int .i64 1, .int .i64 0, .int .i64 0, .int .u32 b, .int .i64 0, .int .i64 0, .int .i64 0, .int .u32 a, .int .i64 77, .int .i64 jt, .int .i64 jf, .int .u32 0] 34)).ownsRow w.heap.size 34 4 (.slice (some ⟨g, 0, none⟩) 3 3) 3 (cellsOf (jumpL 77 a b jt jf 0 0)) :=
    fun W g hg hW => by subst hg; exact World.ownsRow_lit W _ 3 hW (by unfold maxLen; omega) rfl
  have HO1 := Lib.hid ho1
  have HO2 := Lib.hid ho2
  clear ho1 ho2 hB
  go_loopw [15, 16, 17] (fun v u i wr => ∃ k : Nat, k ≤ 21 ∧ i = .int .i64 k ∧ wr.ownsRow w.heap.size 34 4 v (3 + k) (cellsOf (jumpL 69 a b jt jf b k)) ∧ wr.ownsRow w.heap.size 34 4 u (3 + k) (cellsOf (jumpL 77 a b jt jf 0 k)) ∧ Apart v u ∧ Below w.heap.size w wr) (fun _ _ i _ => 21 - (intOf i).toNat)
  case atStart =>
    refine ⟨0, by omega, rfl, ?_, ?_, ?_, below_alloc (below_alloc (below_alloc (below_alloc hb1 (Nat.le_refl _) _) (Nat.le_refl _) _) (Nat.le_refl _) _) (Nat.le_refl _) _⟩
    · exact (HO1.out _ _ (by simp) (by simp; omega)).alloc _
    · exact HO2.out _ _ (by simp) (by simp; omega)
    · intro k h1 h2
      simp [Value.ownBlock] at h1 h2
      omega
  case round =>
    obtain ⟨k, hk, rfl, hown1, hown2, hap, hnx⟩ := hrel
    have hsw := hnx.size
    by_cases hlt : k < 21
    · go_wp2_with (at_builtin; go_loud (refine wpList_append_lit_at _ rfl (.tmp 103) (.tmp 107) _ rfl w.heap.size 34 i0 _ 4 32 Try.underlying22 hi hz0 hz1 hz2 rfl (by omega) _ _ _ rfl hown1 _ _ 1 1 rfl rfl ?c1 ?c2 ?c3 ?c4 ?_))
      case c1 => exact ⟨rfl, rfl, rfl⟩
      case c2 => unfold maxLen; omega
      case c3 => omega
      case c4 => omega
      intro v' w' hown3 hg3 hat3
      have hnx3 : Below w.heap.size w w' := below_grown (hnx.alloc (by omega) _) (hown1.alloc _) (Nat.le_refl _) (by simp; omega) hg3
      have hown4 : w'.ownsRow w.heap.size 34 4 v' (3 + (k + 1)) (cellsOf (jumpL 69 a b jt jf b (k + 1))) := by
        rw [jumpL_step]
        exact hown3
      have hown5 := own_apart (hown2.alloc _) hg3 hap
      have hap5 := hap.grown hown2 (Nat.le_succ _) hat3
      clear hg3 hown1 hown2 hown3 hnx hap hat3
      have hsz := hnx3.size
      go_wp2_with (at_builtin; go_loud (refine wpList_append_lit_at _ rfl (.tmp 109) (.tmp 113) _ rfl w.heap.size 34 i0 _ 4 32 Try.underlying22 hi hz0 hz1 hz2 rfl (by omega) _ _ _ rfl hown5 _ _ 1 1 rfl rfl ?d1 ?d2 ?d3 ?d4 ?_))
      case d1 => exact ⟨rfl, rfl, rfl⟩
      case d2 => unfold maxLen; omega
      case d3 => omega
      case d4 => omega
      intro v6 w6 hown6 hg6 hat6
      have hnx6 : Below w.heap.size w w6 := below_grown (hnx3.alloc (by omega) _) (hown5.alloc _) (Nat.le_refl _) (by simp; omega) hg6
      have hown7 : w6.ownsRow w.heap.size 34 4 v6 (3 + (k + 1)) (cellsOf (jumpL 77 a b jt jf 0 (k + 1))) := by
        rw [jumpL_step]
        exact hown6
      have hown8 := own_apart (hown4.alloc _) hg6 hap5.symm
      have hap8 := hap5.symm.grown hown4 (Nat.le_succ _) hat6
      clear hg6 hown4 hown5 hown6 hnx3 hap5 hat6
      go_wp2
      go_roundw
      case rel => exact ⟨k + 1, by omega, by go_num, hown8, hown7, hap8.symm, hnx6⟩
      case measure => simp [intOf]; omega
    · obtain rfl : k = 21 := by omega
      obtain ⟨A1, c1, rfl, hc1, hl1⟩ := own_form hown1
      obtain ⟨A2, c2, rfl, hc2, hl2⟩ := own_form hown2
      clear hown1 hown2 hap
      go_wp2_with fail
      refine (R.run A1 _ c1 (jumpL 69 a b jt jf b 21) dat0 _ hl1 (jumpL_ok _ _ _ _ _ _ _ (by omega) (by omega) ha hb hb (by omega) (by omega)) dat0_ok (by omega)).mono ?_
      rw [H1.out]
      rintro r w7 ⟨rfl, hb7⟩
      have hl7 := (hl2.below hb7).wider hb7.size
      have hn7 := below_step hnx (Nat.le_refl _) hb7
      clear hb7 hl1 hl2 hnx
      go_wp2_with fail
      refine (R.run A2 _ c2 (jumpL 77 a b jt jf 0 21) dat0 _ hl7 (jumpL_ok _ _ _ _ _ _ _ (by omega) (by omega) ha hb (by omega) (by omega) (by omega)) dat0_ok (by omega)).mono ?_
      rw [H2.out]
      rintro r w8 ⟨rfl, hb8⟩
      have hn8 := below_step hn7 (Nat.le_refl _) hb8
      clear hb8 hl7 hn7
      go_wp2
      go_ret
      exact ⟨rfl, hn8⟩

set_option maxRecDepth 100000 in
set_option maxHeartbeats 2000000 in
theorem jumps_3_false (R : MacSays) (a b : Int) (jt jf : Nat) (w : World) (ha : 0 ≤ a ∧ a ≤ 4294967295) (hb : 0 ≤ b ∧ b ≤ 4294967295) (ht : jt ≤ 20) (hf : jf ≤ 20) (hB : (bits .and .u32 a b != 0) = false) :
    Calls Try.prog 5 #[.int .i64 3, .int .u32 a, .int .u32 b, .int .i64 jt, .int .i64 jf] w fun r w' => r = .returned (.bool true) ∧ Below w.heap.size w w' := by
  obtain ⟨i0, hi, hz0, hz1, hz2⟩ := info_parts Try.infoIns
  have H1 : Hid (runOf (jumpL 69 a b jt jf b 21) dat0 = ((jf : Int), 4, true)) := jump_run 69 a b jt jf b jf dat0 ⟨rfl, by decide, by decide, by decide⟩ (by
    show (if jumpOf 69 a b then (jt : Int) else (jf : Int)) = _
    rw [show jumpOf 69 a b = (bits .and .u32 a b != 0) from rfl, hB]
    rfl) hf
  have H2 : Hid (runOf (jumpL 77 a b jt jf 0 21) dat0 = ((jf : Int), 4, true)) := jump_run 77 a b jt jf 0 jf dat0 ⟨rfl, by decide, by decide, by decide⟩ (by
    show (if jumpOf 77 a b then (jt : Int) else (jf : Int)) = _
    rw [show jumpOf 77 a b = (bits .and .u32 a b != 0) from rfl, hB]
    rfl) hf
  have g0 : decide ((jt : Int) < 0) = false := decide_eq_false (by omega)
  have g1 : decide ((20 : Int) < (jt : Int)) = false := decide_eq_false (by omega)
  have g2 : decide ((jf : Int) < 0) = false := decide_eq_false (by omega)
  have g3 : decide ((20 : Int) < (jf : Int)) = false := decide_eq_false (by omega)
  obtain ⟨a0, a1⟩ := id ha
  obtain ⟨b0, b1⟩ := id hb
  go_enter Try.func5, Try.ntmps5
  go_wp2_with fail
  refine (malive_any R _).mono ?_
  rintro r w1 ⟨rfl, hb1⟩
  have hsz1 := hb1.size
  go_wp2_with fail
  have ho1 : ∀ (W : World) (g : Nat), g = W.heap.size → w.heap.size ≤ W.heap.size → (W.alloc (.cells #[.int .i64 1, .int .i64 0, .int .i64 0, .int .u32 b, .int .i64 0, .int .i64 0, .int .i64 0, .int .u32 a, .int .i64 69, .int .i64 jt, .int .i64 jf, .int .u32 b] 34)).ownsRow w.heap.size 34 4 (.slice (some ⟨g, 0, none⟩) 3 3) 3 (cellsOf (jumpL 69 a b jt jf b 0)) :=
    fun W g hg hW => by subst hg; exact World.ownsRow_lit W _ 3 hW (by unfold maxLen; omega) rfl
  have ho2 : ∀ (W : World) (g : Nat), g = W.heap.size → w.heap.size ≤ W.heap.size → (W.alloc (.cells #[.int .i64 1, .int .i64 0, .int .i64 0, .int .u32 b, .int .i64 0, .int .i64 0, .int .i64 0, .int .u32 a, .int .i64 77, .int .i64 jt, .int .i64 jf, .int .u32 0] 34)).ownsRow w.heap.size 34 4 (.slice (some ⟨g, 0, none⟩) 3 3) 3 (cellsOf (jumpL 77 a b jt jf 0 0)) :=
    fun W g hg hW => by subst hg; exact World.ownsRow_lit W _ 3 hW (by unfold maxLen; omega) rfl
  have HO1 := Lib.hid ho1
  have HO2 := Lib.hid ho2
  clear ho1 ho2 hB
  go_loopw [15, 16, 17] (fun v u i wr => ∃ k : Nat, k ≤ 21 ∧ i = .int .i64 k ∧ wr.ownsRow w.heap.size 34 4 v (3 + k) (cellsOf (jumpL 69 a b jt jf b k)) ∧ wr.ownsRow w.heap.size 34 4 u (3 + k) (cellsOf (jumpL 77 a b jt jf 0 k)) ∧ Apart v u ∧ Below w.heap.size w wr) (fun _ _ i _ => 21 - (intOf i).toNat)
  case atStart =>
    refine ⟨0, by omega, rfl, ?_, ?_, ?_, below_alloc (below_alloc (below_alloc (below_alloc hb1 (Nat.le_refl _) _) (Nat.le_refl _) _) (Nat.le_refl _) _) (Nat.le_refl _) _⟩
    · exact (HO1.out _ _ (by simp) (by simp; omega)).alloc _
    · exact HO2.out _ _ (by simp) (by simp; omega)
    · intro k h1 h2
      simp [Value.ownBlock] at h1 h2
      omega
  case round =>
    obtain ⟨k, hk, rfl, hown1, hown2, hap, hnx⟩ := hrel
    have hsw := hnx.size
    by_cases hlt : k < 21
    · go_wp2_with (at_builtin; go_loud (refine wpList_append_lit_at _ rfl (.tmp 103) (.tmp 107) _ rfl w.heap.size 34 i0 _ 4 32 Try.underlying22 hi hz0 hz1 hz2 rfl (by omega) _ _ _ rfl hown1 _ _ 1 1 rfl rfl ?c1 ?c2 ?c3 ?c4 ?_))
      case c1 => exact ⟨rfl, rfl, rfl⟩
      case c2 => unfold maxLen; omega
      case c3 => omega
      case c4 => omega
      intro v' w' hown3 hg3 hat3
      have hnx3 : Below w.heap.size w w' := below_grown (hnx.alloc (by omega) _) (hown1.alloc _) (Nat.le_refl _) (by simp; omega) hg3
      have hown4 : w'.ownsRow w.heap.size 34 4 v' (3 + (k + 1)) (cellsOf (jumpL 69 a b jt jf b (k + 1))) := by
        rw [jumpL_step]
        exact hown3
      have hown5 := own_apart (hown2.alloc _) hg3 hap
      have hap5 := hap.grown hown2 (Nat.le_succ _) hat3
      clear hg3 hown1 hown2 hown3 hnx hap hat3
      have hsz := hnx3.size
      go_wp2_with (at_builtin; go_loud (refine wpList_append_lit_at _ rfl (.tmp 109) (.tmp 113) _ rfl w.heap.size 34 i0 _ 4 32 Try.underlying22 hi hz0 hz1 hz2 rfl (by omega) _ _ _ rfl hown5 _ _ 1 1 rfl rfl ?d1 ?d2 ?d3 ?d4 ?_))
      case d1 => exact ⟨rfl, rfl, rfl⟩
      case d2 => unfold maxLen; omega
      case d3 => omega
      case d4 => omega
      intro v6 w6 hown6 hg6 hat6
      have hnx6 : Below w.heap.size w w6 := below_grown (hnx3.alloc (by omega) _) (hown5.alloc _) (Nat.le_refl _) (by simp; omega) hg6
      have hown7 : w6.ownsRow w.heap.size 34 4 v6 (3 + (k + 1)) (cellsOf (jumpL 77 a b jt jf 0 (k + 1))) := by
        rw [jumpL_step]
        exact hown6
      have hown8 := own_apart (hown4.alloc _) hg6 hap5.symm
      have hap8 := hap5.symm.grown hown4 (Nat.le_succ _) hat6
      clear hg6 hown4 hown5 hown6 hnx3 hap5 hat6
      go_wp2
      go_roundw
      case rel => exact ⟨k + 1, by omega, by go_num, hown8, hown7, hap8.symm, hnx6⟩
      case measure => simp [intOf]; omega
    · obtain rfl : k = 21 := by omega
      obtain ⟨A1, c1, rfl, hc1, hl1⟩ := own_form hown1
      obtain ⟨A2, c2, rfl, hc2, hl2⟩ := own_form hown2
      clear hown1 hown2 hap
      go_wp2_with fail
      refine (R.run A1 _ c1 (jumpL 69 a b jt jf b 21) dat0 _ hl1 (jumpL_ok _ _ _ _ _ _ _ (by omega) (by omega) ha hb hb (by omega) (by omega)) dat0_ok (by omega)).mono ?_
      rw [H1.out]
      rintro r w7 ⟨rfl, hb7⟩
      have hl7 := (hl2.below hb7).wider hb7.size
      have hn7 := below_step hnx (Nat.le_refl _) hb7
      clear hb7 hl1 hl2 hnx
      go_wp2_with fail
      refine (R.run A2 _ c2 (jumpL 77 a b jt jf 0 21) dat0 _ hl7 (jumpL_ok _ _ _ _ _ _ _ (by omega) (by omega) ha hb (by omega) (by omega) (by omega)) dat0_ok (by omega)).mono ?_
      rw [H2.out]
      rintro r w8 ⟨rfl, hb8⟩
      have hn8 := below_step hn7 (Nat.le_refl _) hb8
      clear hb8 hl7 hn7
      go_wp2
      go_ret
      exact ⟨rfl, hn8⟩

set_option maxRecDepth 100000 in
set_option maxHeartbeats 2000000 in
theorem mjumps_out (R : MacSays) (which a b jt jf : Int) (w : World) (h : which < 0 ∨ 3 < which ∨ jt < 0 ∨ 20 < jt ∨ jf < 0 ∨ 20 < jf) :
    Calls Try.prog 5 #[.int .i64 which, .int .u32 a, .int .u32 b, .int .i64 jt, .int .i64 jf] w fun r w' => r = .returned (.bool true) ∧ Below w.heap.size w w' := by
  by_cases h0 : which < 0
  · clear h
    go_enter Try.func5, Try.ntmps5
    go_wp2_with fail
    refine (malive_any R _).mono ?_
    rintro r w1 ⟨rfl, hb1⟩
    have hn1 := below_alloc hb1 (Nat.le_refl _) (.cells #[.int .i64 21, .int .i64 37, .int .i64 53, .int .i64 69] 3)
    clear hb1
    go_wp2
    go_ret
    exact ⟨rfl, hn1⟩
  · by_cases h1 : 3 < which
    · clear h
      go_enter Try.func5, Try.ntmps5
      go_wp2_with fail
      refine (malive_any R _).mono ?_
      rintro r w1 ⟨rfl, hb1⟩
      have hn1 := below_alloc hb1 (Nat.le_refl _) (.cells #[.int .i64 21, .int .i64 37, .int .i64 53, .int .i64 69] 3)
      clear hb1
      go_wp2
      go_ret
      exact ⟨rfl, hn1⟩
    · by_cases h2 : jt < 0
      · clear h
        go_enter Try.func5, Try.ntmps5
        go_wp2_with fail
        refine (malive_any R _).mono ?_
        rintro r w1 ⟨rfl, hb1⟩
        have hn1 := below_alloc hb1 (Nat.le_refl _) (.cells #[.int .i64 21, .int .i64 37, .int .i64 53, .int .i64 69] 3)
        clear hb1
        go_wp2
        go_ret
        exact ⟨rfl, hn1⟩
      · by_cases h3 : 20 < jt
        · clear h
          go_enter Try.func5, Try.ntmps5
          go_wp2_with fail
          refine (malive_any R _).mono ?_
          rintro r w1 ⟨rfl, hb1⟩
          have hn1 := below_alloc hb1 (Nat.le_refl _) (.cells #[.int .i64 21, .int .i64 37, .int .i64 53, .int .i64 69] 3)
          clear hb1
          go_wp2
          go_ret
          exact ⟨rfl, hn1⟩
        · by_cases h4 : jf < 0
          · clear h
            go_enter Try.func5, Try.ntmps5
            go_wp2_with fail
            refine (malive_any R _).mono ?_
            rintro r w1 ⟨rfl, hb1⟩
            have hn1 := below_alloc hb1 (Nat.le_refl _) (.cells #[.int .i64 21, .int .i64 37, .int .i64 53, .int .i64 69] 3)
            clear hb1
            go_wp2
            go_ret
            exact ⟨rfl, hn1⟩
          · have h5 : 20 < jf := by omega
            clear h
            go_enter Try.func5, Try.ntmps5
            go_wp2_with fail
            refine (malive_any R _).mono ?_
            rintro r w1 ⟨rfl, hb1⟩
            have hn1 := below_alloc hb1 (Nat.le_refl _) (.cells #[.int .i64 21, .int .i64 37, .int .i64 53, .int .i64 69] 3)
            clear hb1
            go_wp2
            go_ret
            exact ⟨rfl, hn1⟩

theorem mjumps_any (R : MacSays) (which a b jt jf : Int) (w : World) (ha : 0 ≤ a ∧ a ≤ 4294967295) (hb : 0 ≤ b ∧ b ≤ 4294967295) :
    Calls Try.prog 5 #[.int .i64 which, .int .u32 a, .int .u32 b, .int .i64 jt, .int .i64 jf] w fun r w' => r = .returned (.bool true) ∧ Below w.heap.size w w' := by
  by_cases h : which < 0 ∨ 3 < which ∨ jt < 0 ∨ 20 < jt ∨ jf < 0 ∨ 20 < jf
  · exact mjumps_out R which a b jt jf w h
  · obtain ⟨m, rfl⟩ := Int.eq_ofNat_of_zero_le (show 0 ≤ jt by omega)
    obtain ⟨n, rfl⟩ := Int.eq_ofNat_of_zero_le (show 0 ≤ jf by omega)
    have hm : m ≤ 20 := by omega
    have hn : n ≤ 20 := by omega
    rcases (show which = 0 ∨ which = 1 ∨ which = 2 ∨ which = 3 by omega) with rfl | rfl | rfl | rfl
    · cases hB : (a == b)
      · exact jumps_0_false R a b m n w ha hb hm hn hB
      · exact jumps_0_true R a b m n w ha hb hm hn hB
    · cases hB : decide (b < a)
      · exact jumps_1_false R a b m n w ha hb hm hn hB
      · exact jumps_1_true R a b m n w ha hb hm hn hB
    · cases hB : decide (b ≤ a)
      · exact jumps_2_false R a b m n w ha hb hm hn hB
      · exact jumps_2_true R a b m n w ha hb hm hn hB
    · cases hB : (bits .and .u32 a b != 0)
      · exact jumps_3_false R a b m n w ha hb hm hn hB
      · exact jumps_3_true R a b m n w ha hb hm hn hB

end Go.Proofs.Ytljkkbfokjhfpaa
