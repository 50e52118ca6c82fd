/- The walk of the statement MachineLoads: it returns true, and writes nothing that was there. -/
import Derived.Test.YtljkkbfokjhfpaaReckPlain
import Derived.Test.YtljkkbfokjhfpaaStore
namespace Go.Proofs.Ytljkkbfokjhfpaa
open Go.RowKit

def loadL (k : Int) : List Ins := [⟨32, 0, 0, k⟩, ⟨22, 0, 0, 0⟩]
def backL (b : Int) : List Ins := [⟨132, 0, 0, 0⟩, ⟨132, 0, 0, 0⟩, ⟨21, b, b, 0⟩, ⟨22, 0, 0, 0⟩]

theorem load_ok (k : Int) (hk : 0 ≤ k ∧ k ≤ 4294967295) : ∀ y ∈ loadL k, y.Ok := by
  intro y hy
  simp only [loadL, List.mem_cons, List.not_mem_nil, or_false] at hy
  rcases hy with rfl | rfl
  · exact ins_ok (by omega) (by omega) (by omega) hk
  · exact ins_ok (by omega) (by omega) (by omega) (by omega)

theorem back_ok (b : Int) (hb : -3 ≤ b ∧ b ≤ 3) : ∀ y ∈ backL b, y.Ok := by
  intro y hy
  simp only [backL, List.mem_cons, List.not_mem_nil, or_false] at hy
  rcases hy with rfl | rfl | rfl | rfl
  · exact ins_ok (by omega) (by omega) (by omega) (by omega)
  · exact ins_ok (by omega) (by omega) (by omega) (by omega)
  · exact ins_ok (by omega) (by omega) (by omega) (by omega)
  · exact ins_ok (by omega) (by omega) (by omega) (by omega)

theorem load_yes (k : Int) (d : Dat) (h : okOff k = true) : runOf (loadL k) d = (wordOf d k, 2, true) := by
  have e : stepOf (loadL k) d 0 Mac.zero = .inr (1, ⟨wordOf d k, 0, List.replicate 16 0⟩) := by
    have e1 : plainOf Mac.zero 32 k d = (⟨wordOf d k, 0, List.replicate 16 0⟩, okOff k, false) := rfl
    show (if (plainOf Mac.zero 32 k d).2.2 then (Sum.inl (0, 1, true) : (Int × Nat × Bool) ⊕ (Nat × Mac)) else if (plainOf Mac.zero 32 k d).2.1 then .inr (0 + 1, (plainOf Mac.zero 32 k d).1) else .inl (0, 0, false)) = _
    rw [e1, h]
    rfl
  have r1 := run_on run_start (by omega) e
  exact run_end r1 (v := wordOf d k) (e := 1) (ok := true) (by omega) rfl

theorem load_not (k : Int) (d : Dat) (h : okOff k = false) : runOf (loadL k) d = (0, 0, false) := by
  have e : stepOf (loadL k) d 0 Mac.zero = .inl (0, 0, false) := by
    have e1 : plainOf Mac.zero 32 k d = (⟨wordOf d k, 0, List.replicate 16 0⟩, okOff k, false) := rfl
    show (if (plainOf Mac.zero 32 k d).2.2 then (Sum.inl (0, 1, true) : (Int × Nat × Bool) ⊕ (Nat × Mac)) else if (plainOf Mac.zero 32 k d).2.1 then .inr (0 + 1, (plainOf Mac.zero 32 k d).1) else .inl (0, 0, false)) = _
    rw [e1, h]
    rfl
  exact run_end run_start (by omega) e

theorem back_step (b : Nat) (d : Dat) (hb : b = 1 ∨ b = 2 ∨ b = 3) (p : Nat) (hp : p = 0 ∨ p = 1 ∨ p = 2) : ∃ q, (q = 0 ∨ q = 1 ∨ q = 2) ∧ stepOf (backL (-(b : Int))) d p Mac.zero = .inr (q, Mac.zero) := by
  rcases hp with rfl | rfl | rfl
  · exact ⟨1, by omega, rfl⟩
  · exact ⟨2, by omega, rfl⟩
  · rcases hb with rfl | rfl | rfl
    · exact ⟨2, by omega, rfl⟩
    · exact ⟨1, by omega, rfl⟩
    · exact ⟨0, by omega, rfl⟩

theorem back_from (b : Nat) (d : Dat) (hb : b = 1 ∨ b = 2 ∨ b = 3) : ∀ (f k p : Nat), (p = 0 ∨ p = 1 ∨ p = 2) → runFrom (backL (-(b : Int))) d f k p Mac.zero = (0, k + f, false)
  | 0, k, p, _ => rfl
  | f + 1, k, p, hp => by
    obtain ⟨q, hq, e⟩ := back_step b d hb p hp
    rw [run_step _ _ _ _ _ _ (by omega), e]
    show runFrom _ d (f + 1 - 1) (k + 1) q Mac.zero = _
    rw [Nat.add_sub_cancel, back_from b d hb f (k + 1) q hq]
    simp only [Prod.mk.injEq, true_and, and_true]
    omega

theorem back_run (b : Nat) (d : Dat) (hb : b = 1 ∨ b = 2 ∨ b = 3) : runOf (backL (-(b : Int))) d = (0, 4096, false) := by
  have h := back_from b d hb 4096 0 0 (by omega)
  rw [Nat.zero_add] at h
  exact h

set_option maxRecDepth 100000 in
set_option maxHeartbeats 2000000 in
theorem loads_yes (R : MacSays) (d : Dat) (k : Int) (b : Nat) (V : Int) (w : World) (hd : d.Ok) (hk : 0 ≤ k ∧ k ≤ 4294967295) (hb : b = 1 ∨ b = 2 ∨ b = 3) (H2 : Hid (runOf (loadL k) d = (V, 2, true))) (HW : Hid (wordOf d k = V)) (HO : Hid (okOff k = true)) :
    Calls Try.prog 7 #[d.val, .int .u32 k, .int .i64 b] w fun r w' => r = .returned (.bool true) ∧ Below w.heap.size w w' := by
  have HB := Lib.hid (back_run b d hb)
  have hB1 : ¬ (b : Int) < 1 := by omega
  have hB2 : ¬ (3 : Int) < (b : Int) := by omega
  have hbox : Box (w.alloc (.cells d.cells 27)) w.heap.size 27 d.cells := Box.new _ _ _
  have hbw : Below w.heap.size w (w.alloc (.cells d.cells 27)) := (Below.refl _ _).alloc (Nat.le_refl _) _
  have hcu : d.cells = #[.int .u32 d.nr, .int .u32 d.arch, .int .u64 d.ip, .int .u64 d.a0, .int .u64 d.a1, .int .u64 d.a2, .int .u64 d.a3, .int .u64 d.a4, .int .u64 d.a5] := rfl
  have hfit : ∀ W : World, Box W w.heap.size 27 d.cells → W.cell? ⟨w.heap.size, 0, none⟩ = some (.int .u32 d.nr) ∧ W.cell? ⟨w.heap.size, 1, none⟩ = some (.int .u32 d.arch) ∧ W.cell? ⟨w.heap.size, 2, none⟩ = some (.int .u64 d.ip) ∧
      W.cell? ⟨w.heap.size, 3, none⟩ = some (.int .u64 d.a0) ∧ W.cell? ⟨w.heap.size, 4, none⟩ = some (.int .u64 d.a1) ∧ W.cell? ⟨w.heap.size, 5, none⟩ = some (.int .u64 d.a2) ∧ W.cell? ⟨w.heap.size, 6, none⟩ = some (.int .u64 d.a3) ∧ W.cell? ⟨w.heap.size, 7, none⟩ = some (.int .u64 d.a4) ∧ W.cell? ⟨w.heap.size, 8, none⟩ = some (.int .u64 d.a5) :=
    fun W h => ⟨h.cell 0, h.cell 1, h.cell 2, h.cell 3, h.cell 4, h.cell 5, h.cell 6, h.cell 7, h.cell 8⟩
  have HF := Lib.hid hfit
  have HBX := Lib.hid hbox
  obtain ⟨k0, k1⟩ := id hk
  clear hfit hbox
  unfold Dat.val
  rw [hcu] at hbw ⊢
  clear hcu
  go_enter Try.func7, Try.ntmps7
  go_wp2_with fail
  refine (malive_any R _).mono ?_
  rintro r w1 ⟨rfl, hb1⟩
  have hbx1 : Box w1 w.heap.size 27 d.cells := HBX.out.step hb1
  have hn1 := below_step hbw (Nat.le_refl _) hb1
  obtain ⟨x0, x1, x2, x3, x4, x5, x6, x7, x8⟩ := HF.out _ hbx1
  have HB1 := Lib.hid hbx1
  have hg1 := hbx1.lt
  clear hbx1 hb1 HBX hbw
  go_wp2_with fail
  refine (R.run (some ⟨_, 0, none⟩) 2 2 (loadL k) d _ (lies_new _ _ _ (by simp) rfl rfl) (load_ok k hk) hd (by omega)).mono ?_
  rw [H2.out]
  rintro r w2 ⟨rfl, hb2⟩
  have hbx2 := (HB1.out.alloc _).step hb2
  have hn2 := below_step (below_alloc hn1 (Nat.le_refl _) _) (Nat.le_refl _) hb2
  clear x0 x1 x2 x3 x4 x5 x6 x7 x8 hb2 hn1
  obtain ⟨x0, x1, x2, x3, x4, x5, x6, x7, x8⟩ := HF.out _ hbx2
  have HB2 := Lib.hid hbx2
  have hg2 := hbx2.lt
  clear hbx2
  go_wp2_with fail
  refine (refWord_any d k _ hd k0 (by omega)).mono ?_
  rintro r w3 ⟨rfl, hb3⟩
  have hbx3 := HB2.out.step hb3
  have hn3 := below_step hn2 (Nat.le_refl _) hb3
  clear x0 x1 x2 x3 x4 x5 x6 x7 x8 hb3 hn2
  obtain ⟨x0, x1, x2, x3, x4, x5, x6, x7, x8⟩ := HF.out _ hbx3
  have hg3 := hbx3.lt
  rw [HW.out, HO.out]
  clear hbx3 HB1 HB2
  go_wp2_with fail
  refine (R.run (some ⟨_, 0, none⟩) 4 4 (backL (-(b : Int))) d _ (lies_new _ _ _ (by simp) rfl rfl) (back_ok _ (by omega)) hd (by omega)).mono ?_
  rw [HB.out]
  rintro r w4 ⟨rfl, hb4⟩
  have hn4 := below_step (below_alloc hn3 (Nat.le_refl _) _) (Nat.le_refl _) hb4
  clear hn3 hb4 x0 x1 x2 x3 x4 x5 x6 x7 x8
  go_wp2
  go_ret
  exact ⟨rfl, hn4⟩

set_option maxRecDepth 100000 in
set_option maxHeartbeats 2000000 in
theorem loads_no (R : MacSays) (d : Dat) (k : Int) (b : Nat) (w : World) (hd : d.Ok) (hk : 0 ≤ k ∧ k ≤ 4294967295) (hb : b = 1 ∨ b = 2 ∨ b = 3) (H2 : Hid (runOf (loadL k) d = (0, 0, false))) (HW : Hid (wordOf d k = 0)) (HO : Hid (okOff k = false)) :
    Calls Try.prog 7 #[d.val, .int .u32 k, .int .i64 b] w fun r w' => r = .returned (.bool true) ∧ Below w.heap.size w w' := by
  have HB := Lib.hid (back_run b d hb)
  have hB1 : ¬ (b : Int) < 1 := by omega
  have hB2 : ¬ (3 : Int) < (b : Int) := by omega
  have hbox : Box (w.alloc (.cells d.cells 27)) w.heap.size 27 d.cells := Box.new _ _ _
  have hbw : Below w.heap.size w (w.alloc (.cells d.cells 27)) := (Below.refl _ _).alloc (Nat.le_refl _) _
  have hcu : d.cells = #[.int .u32 d.nr, .int .u32 d.arch, .int .u64 d.ip, .int .u64 d.a0, .int .u64 d.a1, .int .u64 d.a2, .int .u64 d.a3, .int .u64 d.a4, .int .u64 d.a5] := rfl
  have hfit : ∀ W : World, Box W w.heap.size 27 d.cells → W.cell? ⟨w.heap.size, 0, none⟩ = some (.int .u32 d.nr) ∧ W.cell? ⟨w.heap.size, 1, none⟩ = some (.int .u32 d.arch) ∧ W.cell? ⟨w.heap.size, 2, none⟩ = some (.int .u64 d.ip) ∧
      W.cell? ⟨w.heap.size, 3, none⟩ = some (.int .u64 d.a0) ∧ W.cell? ⟨w.heap.size, 4, none⟩ = some (.int .u64 d.a1) ∧ W.cell? ⟨w.heap.size, 5, none⟩ = some (.int .u64 d.a2) ∧ W.cell? ⟨w.heap.size, 6, none⟩ = some (.int .u64 d.a3) ∧ W.cell? ⟨w.heap.size, 7, none⟩ = some (.int .u64 d.a4) ∧ W.cell? ⟨w.heap.size, 8, none⟩ = some (.int .u64 d.a5) :=
    fun W h => ⟨h.cell 0, h.cell 1, h.cell 2, h.cell 3, h.cell 4, h.cell 5, h.cell 6, h.cell 7, h.cell 8⟩
  have HF := Lib.hid hfit
  have HBX := Lib.hid hbox
  obtain ⟨k0, k1⟩ := id hk
  clear hfit hbox
  unfold Dat.val
  rw [hcu] at hbw ⊢
  clear hcu
  go_enter Try.func7, Try.ntmps7
  go_wp2_with fail
  refine (malive_any R _).mono ?_
  rintro r w1 ⟨rfl, hb1⟩
  have hbx1 : Box w1 w.heap.size 27 d.cells := HBX.out.step hb1
  have hn1 := below_step hbw (Nat.le_refl _) hb1
  obtain ⟨x0, x1, x2, x3, x4, x5, x6, x7, x8⟩ := HF.out _ hbx1
  have HB1 := Lib.hid hbx1
  have hg1 := hbx1.lt
  clear hbx1 hb1 HBX hbw
  go_wp2_with fail
  refine (R.run (some ⟨_, 0, none⟩) 2 2 (loadL k) d _ (lies_new _ _ _ (by simp) rfl rfl) (load_ok k hk) hd (by omega)).mono ?_
  rw [H2.out]
  rintro r w2 ⟨rfl, hb2⟩
  have hbx2 := (HB1.out.alloc _).step hb2
  have hn2 := below_step (below_alloc hn1 (Nat.le_refl _) _) (Nat.le_refl _) hb2
  clear x0 x1 x2 x3 x4 x5 x6 x7 x8 hb2 hn1
  obtain ⟨x0, x1, x2, x3, x4, x5, x6, x7, x8⟩ := HF.out _ hbx2
  have HB2 := Lib.hid hbx2
  have hg2 := hbx2.lt
  clear hbx2
  go_wp2_with fail
  refine (refWord_any d k _ hd k0 (by omega)).mono ?_
  rintro r w3 ⟨rfl, hb3⟩
  have hbx3 := HB2.out.step hb3
  have hn3 := below_step hn2 (Nat.le_refl _) hb3
  clear x0 x1 x2 x3 x4 x5 x6 x7 x8 hb3 hn2
  obtain ⟨x0, x1, x2, x3, x4, x5, x6, x7, x8⟩ := HF.out _ hbx3
  have hg3 := hbx3.lt
  rw [HW.out, HO.out]
  clear hbx3 HB1 HB2
  go_wp2_with fail
  refine (R.run (some ⟨_, 0, none⟩) 4 4 (backL (-(b : Int))) d _ (lies_new _ _ _ (by simp) rfl rfl) (back_ok _ (by omega)) hd (by omega)).mono ?_
  rw [HB.out]
  rintro r w4 ⟨rfl, hb4⟩
  have hn4 := below_step (below_alloc hn3 (Nat.le_refl _) _) (Nat.le_refl _) hb4
  clear hn3 hb4 x0 x1 x2 x3 x4 x5 x6 x7 x8
  go_wp2
  go_ret
  exact ⟨rfl, hn4⟩

theorem loads_in (R : MacSays) (d : Dat) (k : Int) (b : Nat) (w : World) (hd : d.Ok) (hk : 0 ≤ k ∧ k ≤ 4294967295) (hb : b = 1 ∨ b = 2 ∨ b = 3) :
    Calls Try.prog 7 #[d.val, .int .u32 k, .int .i64 b] w fun r w' => r = .returned (.bool true) ∧ Below w.heap.size w w' := by
  by_cases h : okOff k = true
  · exact loads_yes R d k b _ w hd hk hb (load_yes k d h) rfl h
  · have h' : okOff k = false := by simpa using h
    exact loads_no R d k b w hd hk hb (load_not k d h') (by unfold Hid wordOf; rw [if_neg h]) h'

set_option maxRecDepth 100000 in
set_option maxHeartbeats 1000000 in
theorem loads_out (R : MacSays) (d : Dat) (k b : Int) (w : World) (hb : b < 1 ∨ 3 < b) :
    Calls Try.prog 7 #[d.val, .int .u32 k, .int .i64 b] w fun r w' => r = .returned (.bool true) ∧ Below w.heap.size w w' := by
  unfold Dat.val Dat.cells
  rcases hb with hb | hb
  · go_enter Try.func7, Try.ntmps7
    go_wp2_with fail
    refine (malive_any R _).mono ?_
    rintro r w1 ⟨rfl, hb1⟩
    have hn1 := below_step (below_alloc (Below.refl _ _) (Nat.le_refl _) _) (Nat.le_refl _) hb1
    clear hb1
    go_wp2
    go_ret
    exact ⟨rfl, hn1⟩
  · have hb0 : ¬ b < 1 := by omega
    go_enter Try.func7, Try.ntmps7
    go_wp2_with fail
    refine (malive_any R _).mono ?_
    rintro r w1 ⟨rfl, hb1⟩
    have hn1 := below_step (below_alloc (Below.refl _ _) (Nat.le_refl _) _) (Nat.le_refl _) hb1
    clear hb1
    go_wp2
    go_ret
    exact ⟨rfl, hn1⟩

theorem loads_any (R : MacSays) (d : Dat) (k b : Int) (w : World) (hd : d.Ok) (hk : 0 ≤ k ∧ k ≤ 4294967295) :
    Calls Try.prog 7 #[d.val, .int .u32 k, .int .i64 b] w fun r w' => r = .returned (.bool true) ∧ Below w.heap.size w w' := by
  by_cases h : b < 1 ∨ 3 < b
  · exact loads_out R d k b w h
  · obtain ⟨n, rfl⟩ := Int.eq_ofNat_of_zero_le (show 0 ≤ b by omega)
    exact loads_in R d k n w hd hk (by omega)

end Go.Proofs.Ytljkkbfokjhfpaa
