/- The walk of the statement MachineRuns: it returns true, and writes nothing that was there. -/
import Derived.Test.YtljkkbfokjhfpaaMacSays
import Derived.Test.YtljkkbfokjhfpaaRunLoop
import Derived.Deep.RegionHeld3
namespace Go.Proofs.Ytljkkbfokjhfpaa
open Go.RowKit

theorem dat_cells (d : Dat) : d.cells = #[.int .u32 d.nr, .int .u32 d.arch, .int .u64 d.ip, .int .u64 d.a0, .int .u64 d.a1, .int .u64 d.a2, .int .u64 d.a3, .int .u64 d.a4, .int .u64 d.a5] := rfl

set_option maxRecDepth 100000 in
set_option maxHeartbeats 2000000 in
theorem mruns_in (R : MacSays) (A : Option Addr) (n c : Nat) (l : List Ins) (d : Dat) (w : World) (hl : Lies w w.heap.size 4 A n (cellsOf l)) (hok : ∀ y ∈ l, y.Ok) (hd : d.Ok) (hn : n ≤ 300) :
    Calls Try.prog 3 #[.slice A n c, d.val] w fun r w' => r = .returned (.bool true) ∧ Below w.heap.size w w' := by
  obtain ⟨i0, hi, hz0, hz1, hz2⟩ := info_parts (show (Try.prog.info? 34).map (fun i => (i.zero, i.size, i.bytes)) = some (some (.agg #[.int .i64 0, .int .i64 0, .int .i64 0, .int .u32 0]), 4, 32) by kernel_rfl)
  obtain ⟨T, hT⟩ : ∃ T, T = runOf l d := ⟨_, rfl⟩
  have HR := Lib.hid hT
  have HOK := Lib.hid hok
  have HD := Lib.hid hd
  have HB0 : Hid (Box (w.alloc (.cells d.cells 27)) w.heap.size 27 d.cells) := Box.new _ _ _
  clear hT hok hd
  rw [show d.val = .agg d.cells from rfl, dat_cells d]
  go_enter Try.func3, Try.ntmps3
  go_wp2_with fail
  refine (malive_any R _).mono ?_
  rintro r w1 ⟨rfl, hb1⟩
  have hbx : Box w1 w.heap.size 27 d.cells := HB0.out.below hb1 HB0.out.lt
  have hnx1 : Below w.heap.size w w1 := ((Below.refl _ _).alloc (Nat.le_refl _) _).trans (hb1.mono (by simp))
  have hl1 := hl.below hnx1
  have hs1 := hbx.lt
  have HBX := Lib.hid hbx
  clear hb1 hbx hl HB0
  go_wp2
  have hFd : ∀ (W : World) (o : Nat), Below w1.heap.size w1 W → W.cell? ⟨w.heap.size, o, none⟩ = (#[.int .u32 d.nr, .int .u32 d.arch, .int .u64 d.ip, .int .u64 d.a0, .int .u64 d.a1, .int .u64 d.a2, .int .u64 d.a3, .int .u64 d.a4, .int .u64 d.a5] : Array Value)[o]? := fun W o hW => (HBX.out.below hW HBX.out.lt).cell o
  refine wp_region_noPanic ?_
  refine wp_region_held_drew (S := fun W => Below w1.heap.size w1 W) (by kernel_rfl) ((Below.refl _ _).drew) (fun hHeld => ?_)
  refine wpAnyH_take (i := 0) (oi := ⟨some 22, _, _, _, _, _⟩) (v := ?mrv0) rfl (by kernel_rfl) (by kernel_rfl) (by kernel_rfl) (fun _ _ _ h => h) (Or.inl ⟨by rfl, ?mry0⟩) (by assumption) ?mrr0
  case mry0 => intro w hSw; go_simp; try (with_reducible rfl)
  try simp only [Act.put, List.setIfInBounds_toArray, List.set_cons_zero, List.set_cons_succ]
  refine wpAnyH_take (i := 2) (oi := ⟨some 24, _, _, _, _, _⟩) (v := ?mrv2) rfl (by kernel_rfl) (by kernel_rfl) (by kernel_rfl) (fun _ _ _ h => h) (Or.inl ⟨by rfl, ?mry2⟩) (by assumption) ?mrr2
  case mry2 => intro w hSw; go_simp; try (with_reducible rfl)
  try simp only [Act.put, List.setIfInBounds_toArray, List.set_cons_zero, List.set_cons_succ]
  refine wpAnyH_ready (rs := [1]) (by kernel_rfl) (by simp) ?_
  refine AllReadyH.cons (o := ⟨some 23, _, _, _, _, _⟩) rfl (fun K hK => ?_) AllReadyH.nil
  refine step_append _ rfl (.const (.slice none 0 0)) (.tmp 22) 22 rfl w1.heap.size 34 i0 _ 4 32 Try.underlying22 hi hz0 hz1 hz2 rfl (by omega) (.slice none 0 0) 0 [] rfl (World.ownsRow_nil _ _ _ _) w.heap.size A n c (cellsOf l) rfl (hl1.below (Below.refl _ _).drew) (cells_one l) (by unfold maxLen; omega) (by omega) (Nat.le_refl _) ?_
  intro v2 w2 hown2 hg2
  have hb2 : Below w1.heap.size w1 w2 := below_grown (Below.refl _ _).drew (World.ownsRow_nil w1.drew w1.heap.size 34 4) (Nat.le_refl _) (Nat.le_refl _) hg2
  obtain ⟨A2, k2, rfl, hk2, hl2⟩ := own_form hown2
  rw [List.nil_append, Nat.zero_add] at hl2
  rw [Nat.zero_add] at hk2
  clear hown2 hg2
  refine hK.out _ _ ?_ (fun hHeld => ?_)
  · exact hb2
  clear hK K
  try simp only [Act.put, List.setIfInBounds_toArray, List.set_cons_zero, List.set_cons_succ]
  refine wpAnyH_ready (rs := [3]) (by kernel_rfl) (by simp) ?_
  refine AllReadyH.cons (o := ⟨some 25, _, _, _, _, _⟩) rfl (fun K hK => ?_) AllReadyH.nil
  go_simp
  refine (R.run A2 n k2 l d _ hl2 HOK.out HD.out (by omega)).mono ?_
  rw [← HR.out]
  rintro r w3 ⟨rfl, hb3⟩
  have hb3' : Below w1.heap.size w1 w3 := hb2.trans (hb3.mono hb2.size)
  clear hl2 hb3
  refine hK.out _ _ ?_ (fun hHeld => ?_)
  · exact hb3'
  clear hK K
  try simp only [Act.put, List.setIfInBounds_toArray, List.set_cons_zero, List.set_cons_succ]
  refine wpAnyH_take (i := 4) (oi := ⟨some 21, _, _, _, _, _⟩) (v := ?mrv4) rfl (by kernel_rfl) (by kernel_rfl) (by kernel_rfl) (fun _ _ _ h => h) (Or.inl ⟨by rfl, ?mry4⟩) (by assumption) ?mrr4
  case mry4 => intro w hSw; go_simp; try (with_reducible rfl)
  try simp only [Act.put, List.setIfInBounds_toArray, List.set_cons_zero, List.set_cons_succ]
  refine wpAnyH_take (i := 5) (oi := ⟨some 26, _, _, _, _, _⟩) (v := ?mrv5) rfl (by kernel_rfl) (by kernel_rfl) (by kernel_rfl) (fun _ _ _ h => h) (Or.inl ⟨by rfl, ?mry5⟩) (by assumption) ?mrr5
  case mry5 => intro w hSw; go_simp; try (with_reducible rfl)
  try simp only [Act.put, List.setIfInBounds_toArray, List.set_cons_zero, List.set_cons_succ]
  refine wpAnyH_take (i := 6) (oi := ⟨some 27, _, _, _, _, _⟩) (v := ?mrv6) rfl (by kernel_rfl) (by kernel_rfl) (by kernel_rfl) (fun _ _ _ h => h) (Or.inl ⟨by rfl, ?mry6⟩) (by assumption) ?mrr6
  case mry6 => intro w hSw; go_simp; try (with_reducible rfl)
  try simp only [Act.put, List.setIfInBounds_toArray, List.set_cons_zero, List.set_cons_succ]
  refine wpAnyH_take (i := 7) (oi := ⟨some 28, _, _, _, _, _⟩) (v := ?mrv7) rfl (by kernel_rfl) (by kernel_rfl) (by kernel_rfl) (fun _ _ _ h => h) (Or.inl ⟨by rfl, ?mry7⟩) (by assumption) ?mrr7
  case mry7 => intro w hSw; go_simp; try (with_reducible rfl)
  try simp only [Act.put, List.setIfInBounds_toArray, List.set_cons_zero, List.set_cons_succ]
  refine wpAnyH_take (i := 8) (oi := ⟨some 6, _, _, _, _, _⟩) (v := ?mrv8) rfl (by kernel_rfl) (by kernel_rfl) (by kernel_rfl) (fun _ _ _ h => h) (Or.inl ⟨by rfl, ?mry8⟩) (by assumption) ?mrr8
  case mry8 => intro w hSw; go_simp; try (with_reducible rfl)
  try simp only [Act.put, List.setIfInBounds_toArray, List.set_cons_zero, List.set_cons_succ]
  refine wpAnyH_take (i := 9) (oi := ⟨some 7, _, _, _, _, _⟩) (v := ?mrv9) rfl (by kernel_rfl) (by kernel_rfl) (by kernel_rfl) (fun _ _ _ h => h) (Or.inl ⟨by rfl, ?mry9⟩) (by assumption) ?mrr9
  case mry9 => intro w hSw; go_simp; try (with_reducible rfl)
  try simp only [Act.put, List.setIfInBounds_toArray, List.set_cons_zero, List.set_cons_succ]
  refine wpAnyH_take (i := 10) (oi := ⟨some 8, _, _, _, _, _⟩) (v := ?mrv10) rfl (by kernel_rfl) (by kernel_rfl) (by kernel_rfl) (fun _ _ _ h => h) (Or.inl ⟨by rfl, ?mry10⟩) (by assumption) ?mrr10
  case mry10 => intro w hSw; go_simp; try (with_reducible rfl)
  try simp only [Act.put, List.setIfInBounds_toArray, List.set_cons_zero, List.set_cons_succ]
  refine wpAnyH_done (by kernel_rfl) ?_ _
  refine NoPanic.normal ?_
  have hbx3 : Box w3 w.heap.size 27 d.cells := HBX.out.below hb3' HBX.out.lt
  have hnx3 : Below w.heap.size w w3 := hnx1.trans (hb3'.mono (Nat.le_of_lt hs1))
  have hl3 := (hl1.below (hb3'.mono (Nat.le_of_lt hs1)))
  have hs3 := hbx3.lt
  have d0 : w3.cell? ⟨w.heap.size, 0, none⟩ = some (.int .u32 d.nr) := hbx3.cell 0
  have d1 : w3.cell? ⟨w.heap.size, 1, none⟩ = some (.int .u32 d.arch) := hbx3.cell 1
  have d2 : w3.cell? ⟨w.heap.size, 2, none⟩ = some (.int .u64 d.ip) := hbx3.cell 2
  have d3 : w3.cell? ⟨w.heap.size, 3, none⟩ = some (.int .u64 d.a0) := hbx3.cell 3
  have d4 : w3.cell? ⟨w.heap.size, 4, none⟩ = some (.int .u64 d.a1) := hbx3.cell 4
  have d5 : w3.cell? ⟨w.heap.size, 5, none⟩ = some (.int .u64 d.a2) := hbx3.cell 5
  have d6 : w3.cell? ⟨w.heap.size, 6, none⟩ = some (.int .u64 d.a3) := hbx3.cell 6
  have d7 : w3.cell? ⟨w.heap.size, 7, none⟩ = some (.int .u64 d.a4) := hbx3.cell 7
  have d8 : w3.cell? ⟨w.heap.size, 8, none⟩ = some (.int .u64 d.a5) := hbx3.cell 8
  clear hFd hb3' hb2 hbx3 hl1 hnx1
  go_wp2_with fail
  refine (refRun_any A n c l d _ (hl3.wider (Nat.le_of_lt hs3)) HOK.out HD.out (by omega)).mono ?_
  rw [← HR.out]
  rintro r w4 ⟨rfl, hb4⟩
  go_wp2
  go_ret
  exact ⟨rfl, hnx3.trans (hb4.mono (Nat.le_of_lt hs3))⟩

set_option maxRecDepth 100000 in
set_option maxHeartbeats 2000000 in
theorem mruns_out (R : MacSays) (A : Option Addr) (n c : Nat) (d : Dat) (w : World) (hn : 300 < n) (hm : n ≤ 140737488355328) :
    Calls Try.prog 3 #[.slice A n c, d.val] w fun r w' => r = .returned (.bool true) ∧ Below w.heap.size w w' := by
  rw [show d.val = .agg d.cells from rfl, dat_cells d]
  go_enter Try.func3, Try.ntmps3
  go_wp2_with fail
  refine (malive_any R _).mono ?_
  rintro r w1 ⟨rfl, hb1⟩
  have hnx1 : Below w.heap.size w w1 := ((Below.refl _ _).alloc (Nat.le_refl _) _).trans (hb1.mono (by simp))
  go_wp2
  go_ret
  exact ⟨rfl, hnx1⟩

end Go.Proofs.Ytljkkbfokjhfpaa
