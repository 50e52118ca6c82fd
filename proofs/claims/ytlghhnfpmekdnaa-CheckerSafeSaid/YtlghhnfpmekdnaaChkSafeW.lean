/- The walk of the statement CheckerSafe: it returns true, and writes nothing that was there. -/
import Derived.Test.YtlghhnfpmekdnaaChkSafe
namespace Go.Proofs.Ytlghhnfpmekdnaa
open Go.RowKit

def datCells (d : Dat) (w : World) (g : Nat) : Prop := w.cell? ⟨g, 0, none⟩ = some (.int .u32 d.nr) ∧ w.cell? ⟨g, 1, none⟩ = some (.int .u32 d.arch) ∧ w.cell? ⟨g, 2, none⟩ = some (.int .u64 d.ip) ∧
  w.cell? ⟨g, 3, none⟩ = some (.int .u64 d.a0) ∧ w.cell? ⟨g, 4, none⟩ = some (.int .u64 d.a1) ∧ w.cell? ⟨g, 5, none⟩ = some (.int .u64 d.a2) ∧ w.cell? ⟨g, 6, none⟩ = some (.int .u64 d.a3) ∧ w.cell? ⟨g, 7, none⟩ = some (.int .u64 d.a4) ∧ w.cell? ⟨g, 8, none⟩ = some (.int .u64 d.a5)
theorem Box.datCells {w : World} {g : Nat} {d : Dat} (h : Box w g 34 d.cells) : datCells d w g := ⟨h.cell 0, h.cell 1, h.cell 2, h.cell 3, h.cell 4, h.cell 5, h.cell 6, h.cell 7, h.cell 8⟩

set_option maxRecDepth 100000 in
set_option maxHeartbeats 2000000 in
theorem csafe_in (M : MacSays) (R : ChkSays) (A : Option Addr) (n c : Nat) (l : List Ins) (d : Dat) (w : World) (hl : Lies w w.heap.size 4 A n (cellsOf l)) (hnc : n ≤ c) (hok : ∀ y ∈ l, y.Ok) (hd : d.Ok) (hn : n ≤ 300) :
    Calls Try.prog 4 #[.slice A n c, d.val] w fun r w' => r = .returned (.bool true) ∧ Below w.heap.size w w' := by
  have hln : l.length = n := by have := hl.1; rw [cells_len] at this; omega
  have HL := Lib.hid hl
  have HOK := Lib.hid hok
  have HD := Lib.hid hd
  have b0 : decide ((300 : Int) < (n : Int)) = false := decide_eq_false (by omega)
  have b0' : decide (300 < n) = false := decide_eq_false (by omega)
  have HSAFE : Hid ((checkOf l).2 = true → ∃ v e, runOf l d = (v, e, true) ∧ 1 ≤ e ∧ e ≤ n) := fun h => by
    have := safe_run l d hok h
    rwa [hln] at this
  have hbox : Box (w.alloc (.cells d.cells 34)) w.heap.size 34 d.cells := Box.new _ _ _
  have hbw : Below w.heap.size w (w.alloc (.cells d.cells 34)) := (Below.refl _ _).alloc (Nat.le_refl _) _
  have hcu : d.cells = #[.int .u32 d.nr, .int .u32 d.arch, .int .u64 d.ip, .int .u64 d.a0, .int .u64 d.a1, .int .u64 d.a2, .int .u64 d.a3, .int .u64 d.a4, .int .u64 d.a5] := rfl
  have HBX := Lib.hid hbox
  clear hl hok hd hln hbox
  unfold Dat.val
  rw [hcu] at hbw ⊢
  clear hcu
  go_enter Try.func4, Try.ntmps4
  go_wp2_with fail
  refine (calive_any R _).mono ?_
  rintro r w1 ⟨rfl, hb1⟩
  have hbx1 : Box w1 w.heap.size 34 d.cells := HBX.out.step hb1
  have hn1 := below_step hbw (Nat.le_refl _) hb1
  have hl1 : Lies w1 w1.heap.size 4 A n (cellsOf l) := (HL.out.below hn1).wider hn1.size
  have HB1 := Lib.hid hbx1
  have hg1 := hbx1.lt
  clear hbx1 hb1 HBX hbw
  go_wp2_with fail
  refine (R.check A n c l _ hl1 hnc HOK.out (by omega)).mono ?_
  obtain ⟨K, hK⟩ : ∃ K, K = checkOf l := ⟨_, rfl⟩
  rw [← hK] at HSAFE ⊢
  obtain ⟨kn, kb⟩ := K
  clear hK
  rintro r w2 ⟨rfl, hb2⟩
  have hbx2 : Box w2 w.heap.size 34 d.cells := HB1.out.step hb2
  have hn2 := below_step hn1 (Nat.le_refl _) hb2
  have hl2 : Lies w2 w2.heap.size 4 A n (cellsOf l) := (HL.out.below hn2).wider hn2.size
  obtain ⟨x0, x1, x2, x3, x4, x5, x6, x7, x8⟩ := hbx2.datCells
  have hg2 := hbx2.lt
  have HB2 := Lib.hid hbx2
  clear hbx2 hb2 hn1 hl1 HB1
  dsimp only at HSAFE
  cases kb
  · go_wp2
    go_ret
    exact ⟨rfl, hn2⟩
  · obtain ⟨V, e, hrun, he1, he2⟩ := HSAFE.out rfl
    have HRUN := Lib.hid hrun
    clear hrun HSAFE
    go_wp2_with fail
    refine (M.run A n c l d _ hl2 HOK.out HD.out (by omega)).mono ?_
    rw [HRUN.out]
    rintro r w3 ⟨rfl, hb3⟩
    have hbx3 : Box w3 w.heap.size 34 d.cells := HB2.out.step hb3
    have hn3 := below_step hn2 (Nat.le_refl _) hb3
    have hl3 : Lies w3 w3.heap.size 4 A n (cellsOf l) := (HL.out.below hn3).wider hn3.size
    clear x0 x1 x2 x3 x4 x5 x6 x7 x8 hb3 hn2 hl2
    obtain ⟨x0, x1, x2, x3, x4, x5, x6, x7, x8⟩ := hbx3.datCells
    have hg3 := hbx3.lt
    clear hbx3
    go_wp2_with fail
    refine (refRun_any A n c l d _ hl3 HOK.out HD.out (by omega)).mono ?_
    rw [HRUN.out]
    rintro r w4 ⟨rfl, hb4⟩
    have hn4 := below_step hn3 (Nat.le_refl _) hb4
    clear x0 x1 x2 x3 x4 x5 x6 x7 x8 hb4 hn3 hl3
    have d1 : decide ((e : Int) ≤ (n : Int)) = true := decide_eq_true (by omega)
    have d2 : decide ((1 : Int) ≤ (e : Int)) = true := decide_eq_true (by omega)
    have d3 : decide (e ≤ n) = true := decide_eq_true (by omega)
    have d4 : decide (1 ≤ e) = true := decide_eq_true (by omega)
    go_wp2
    go_ret
    exact ⟨rfl, hn4⟩

set_option maxRecDepth 100000 in
theorem csafe_out (R : ChkSays) (A : Option Addr) (n c : Nat) (d : Dat) (w : World) (hn : 300 < n) (hm : n ≤ 140737488355328) :
    Calls Try.prog 4 #[.slice A n c, d.val] w fun r w' => r = .returned (.bool true) ∧ Below w.heap.size w w' := by
  have b0 : decide ((300 : Int) < (n : Int)) = true := decide_eq_true (by omega)
  have b0' : decide (300 < n) = true := decide_eq_true (by omega)
  unfold Dat.val Dat.cells
  go_enter Try.func4, Try.ntmps4
  go_wp2_with fail
  refine (calive_any R _).mono ?_
  rintro r w1 ⟨rfl, hb1⟩
  have hn1 := below_step (below_alloc (Below.refl _ _) (Nat.le_refl _) _) (Nat.le_refl _) hb1
  clear hb1
  go_wp2
  go_ret
  exact ⟨rfl, hn1⟩

theorem csafe_any (M : MacSays) (R : ChkSays) (A : Option Addr) (n c : Nat) (l : List Ins) (d : Dat) (w : World) (hl : Lies w w.heap.size 4 A n (cellsOf l)) (hnc : n ≤ c) (hok : ∀ y ∈ l, y.Ok) (hd : d.Ok) (hm : n ≤ 140737488355328) :
    Calls Try.prog 4 #[.slice A n c, d.val] w fun r w' => r = .returned (.bool true) ∧ Below w.heap.size w w' := by
  by_cases h : n ≤ 300
  · exact csafe_in M R A n c l d w hl hnc hok hd h
  · exact csafe_out R A n c d w (by omega) hm

end Go.Proofs.Ytlghhnfpmekdnaa
