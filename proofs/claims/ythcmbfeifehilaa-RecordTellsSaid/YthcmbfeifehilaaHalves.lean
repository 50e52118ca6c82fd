/- The walk of the statement RecordHalves: it returns true, and writes nothing that was there. -/
import Derived.Test.YthcmbfeifehilaaRecAlive
namespace Go.Proofs.Ythcmbfeifehilaa
open Go.RowKit

theorem word_low (d : Dat) (i : Nat) (h : i < 6) : wordOf d (16 + 8 * (i : Int)) = d.args.getD i 0 % 4294967296 ∧ okOff (16 + 8 * (i : Int)) = true := by
  have ho : okOff (16 + 8 * (i : Int)) = true := by unfold okOff; simp; omega
  refine ⟨?_, ho⟩
  unfold wordOf
  rw [ho, show (16 + 8 * (i : Int)).toNat = 16 + 8 * i from by omega, ← seg_low d i h]
  rfl

theorem word_high (d : Dat) (hd : d.Ok) (i : Nat) (h : i < 6) : wordOf d (20 + 8 * (i : Int)) = d.args.getD i 0 / 4294967296 ∧ okOff (20 + 8 * (i : Int)) = true := by
  have ho : okOff (20 + 8 * (i : Int)) = true := by unfold okOff; simp; omega
  refine ⟨?_, ho⟩
  unfold wordOf
  rw [ho, show (20 + 8 * (i : Int)).toNat = 20 + 8 * i from by omega, ← seg_high d hd i h]
  rfl

theorem or_high (x y : Int) (x0 : 0 ≤ x) (x1 : x < 4294967296) (y0 : 0 ≤ y) (y1 : y < 4294967296) : bits .or .u64 (x * 4294967296) y = x * 4294967296 + y := by
  obtain ⟨n, rfl⟩ := Int.eq_ofNat_of_zero_le x0
  obtain ⟨m, rfl⟩ := Int.eq_ofNat_of_zero_le y0
  rw [show (n : Int) * 4294967296 = ((n * 2 ^ 32 : Nat) : Int) from by omega, or_u64 _ _ (by omega) (by omega), Nat.or_comm, or_add _ _ 32 (by omega)]
  omega

theorem Box.dat {w : World} {g : Nat} {d : Dat} (h : Box w g 26 d.cells) : w.cell? ⟨g, 0, none⟩ = some (.int .u32 d.nr) ∧ w.cell? ⟨g, 1, none⟩ = some (.int .u32 d.arch) ∧ w.cell? ⟨g, 2, none⟩ = some (.int .u64 d.ip) ∧
    w.cell? ⟨g, 3, none⟩ = some (.int .u64 d.a0) ∧ w.cell? ⟨g, 4, none⟩ = some (.int .u64 d.a1) ∧ w.cell? ⟨g, 5, none⟩ = some (.int .u64 d.a2) ∧ w.cell? ⟨g, 6, none⟩ = some (.int .u64 d.a3) ∧ w.cell? ⟨g, 7, none⟩ = some (.int .u64 d.a4) ∧ w.cell? ⟨g, 8, none⟩ = some (.int .u64 d.a5) :=
  ⟨h.cell 0, h.cell 1, h.cell 2, h.cell 3, h.cell 4, h.cell 5, h.cell 6, h.cell 7, h.cell 8⟩

set_option maxRecDepth 100000 in
set_option maxHeartbeats 4000000 in
theorem halves_in (R : RecSays) (d : Dat) (i : Nat) (w : World) (hd : d.Ok) (hi : i < 6) :
    Calls Try.prog 4 #[d.val, .int .i64 i] w fun r w' => r = .returned (.bool true) ∧ Below w.heap.size w w' := by
  have hbox : Box (w.alloc (.cells d.cells 26)) w.heap.size 26 d.cells := Box.new _ _ _
  have hbw : Below w.heap.size w (w.alloc (.cells d.cells 26)) := (Below.refl _ _).alloc (Nat.le_refl _) _
  have hs0 : (w.alloc (.cells d.cells 26)).heap.size = w.heap.size + 1 := by simp
  have hcu : d.cells = #[.int .u32 d.nr, .int .u32 d.arch, .int .u64 d.ip, .int .u64 d.a0, .int .u64 d.a1, .int .u64 d.a2, .int .u64 d.a3, .int .u64 d.a4, .int .u64 d.a5] := rfl
  have hval : d.val = .agg d.cells := rfl
  have HB := Lib.hid hbox
  have HW := Lib.hid hbw
  have HS := Lib.hid hs0
  have HCU := Lib.hid hcu
  clear hbox hbw hs0
  rw [hval, hcu]
  clear hval hcu
  go_enter Try.func4, Try.ntmps4
  go_wp2_with fail
  rw [← HCU.out]
  have hbox := HB.out
  have hbw := HW.out
  have hs0 := HS.out
  clear HB HW HS
  generalize w.alloc (.cells d.cells 26) = w0 at *
  obtain ⟨g, hg⟩ : ∃ g, g = w.heap.size := ⟨_, rfl⟩
  rw [← hg] at hbox hbw hs0 ⊢
  obtain ⟨x, hx⟩ : ∃ x, x = d.args.getD i 0 := ⟨_, rfl⟩
  obtain ⟨lo, hlo⟩ : ∃ lo, lo = x % 4294967296 := ⟨_, rfl⟩
  obtain ⟨up, hup⟩ : ∃ up, up = x / 4294967296 := ⟨_, rfl⟩
  obtain ⟨x0, x1⟩ := d.arg_ok hd i hi
  have W1 := Lib.hid (word_low d i hi)
  have W2 := Lib.hid (word_high d hd i hi)
  have HA := Lib.hid (d.cell_arg i hi)
  rw [← hx] at W1 W2 x0 x1 HA
  rw [← hlo] at W1
  rw [← hup] at W2
  have l0 : 0 ≤ lo := by omega
  have l1 : lo < 4294967296 := by omega
  have u0 : 0 ≤ up := by omega
  have u1 : up < 4294967296 := by omega
  have hor : bits .or .u64 (up * 4294967296) lo = x := by rw [or_high up lo u0 u1 l0 l1]; omega
  have HOR := Lib.hid hor
  have N0 : wordOf d 0 = d.nr := by rw [← seg_nr d hd]; rfl
  have N1 : okOff 0 = true := rfl
  have N2 : okOff 64 = false := rfl
  have N3 : okOff (17 + 8 * (i : Int)) = false := by unfold okOff; simp; omega
  have M0 := Lib.hid N0
  have M1 := Lib.hid N1
  have M2 := Lib.hid N2
  have M3 := Lib.hid N3
  have HG := Lib.hid hg
  have hnx0 : Below g w w0 := hbw
  have hbox0 := hbox
  clear hlo hup hx hor N0 N1 N2 N3 hg hbw hs0 hbox x0 x1 HCU
  refine (ralive_any R w0).mono ?_
  rintro r w1 ⟨rfl, hb1⟩
  have hbox1 := hbox0.below hb1 hbox0.lt
  have hnx1 : Below g w w1 := hnx0.trans (hb1.mono (Nat.le_of_lt hbox0.lt))
  clear hbox0 hnx0 hb1
  obtain ⟨c0, c1, c2, c3, c4, c5, c6, c7, c8⟩ := hbox1.dat
  go_wp2_with fail
  refine (R.word d (16 + 8 * (i : Int)) _ hd (by omega) (by omega)).mono ?_
  rintro r w2 ⟨rfl, hb2⟩
  rw [W1.out.1, W1.out.2]
  have hbox2 := hbox1.below hb2 hbox1.lt
  have hnx2 : Below g w w2 := hnx1.trans (hb2.mono (Nat.le_of_lt hbox1.lt))
  clear c0 c1 c2 c3 c4 c5 c6 c7 c8 hbox1 hnx1 hb2
  obtain ⟨c0, c1, c2, c3, c4, c5, c6, c7, c8⟩ := hbox2.dat
  go_wp2_with fail
  refine (R.word d (20 + 8 * (i : Int)) _ hd (by omega) (by omega)).mono ?_
  rintro r w3 ⟨rfl, hb3⟩
  rw [W2.out.1, W2.out.2]
  have hbox3 := hbox2.below hb3 hbox2.lt
  have hnx3 : Below g w w3 := hnx2.trans (hb3.mono (Nat.le_of_lt hbox2.lt))
  clear c0 c1 c2 c3 c4 c5 c6 c7 c8 hbox2 hnx2 hb3
  obtain ⟨c0, c1, c2, c3, c4, c5, c6, c7, c8⟩ := hbox3.dat
  go_wp2_with fail
  refine (R.word d 0 _ hd (by omega) (by omega)).mono ?_
  rintro r w4 ⟨rfl, hb4⟩
  rw [M0.out, M1.out]
  have hbox4 := hbox3.below hb4 hbox3.lt
  have hnx4 : Below g w w4 := hnx3.trans (hb4.mono (Nat.le_of_lt hbox3.lt))
  clear c0 c1 c2 c3 c4 c5 c6 c7 c8 hbox3 hnx3 hb4
  obtain ⟨c0, c1, c2, c3, c4, c5, c6, c7, c8⟩ := hbox4.dat
  go_wp2_with fail
  refine (R.word d 64 _ hd (by omega) (by omega)).mono ?_
  rintro r w5 ⟨rfl, hb5⟩
  rw [M2.out]
  have hbox5 := hbox4.below hb5 hbox4.lt
  have hnx5 : Below g w w5 := hnx4.trans (hb5.mono (Nat.le_of_lt hbox4.lt))
  clear c0 c1 c2 c3 c4 c5 c6 c7 c8 hbox4 hnx4 hb5
  obtain ⟨c0, c1, c2, c3, c4, c5, c6, c7, c8⟩ := hbox5.dat
  go_wp2_with fail
  refine (R.word d (17 + 8 * (i : Int)) _ hd (by omega) (by omega)).mono ?_
  rintro r w6 ⟨rfl, hb6⟩
  rw [M3.out]
  have hbox6 := hbox5.below hb6 hbox5.lt
  have hnx6 : Below g w w6 := hnx5.trans (hb6.mono (Nat.le_of_lt hbox5.lt))
  clear c0 c1 c2 c3 c4 c5 c6 c7 c8 hbox5 hnx5 hb6
  have ca : w6.cell? ⟨g, 3 + i, none⟩ = some (.int .u64 x) := (hbox6.cell (3 + i)).trans HA.out
  have cn : w6.cell? ⟨g, 0, none⟩ = some (.int .u32 d.nr) := hbox6.cell 0
  have hor := HOR.out
  go_wp2
  go_ret
  have eg := HG.out
  subst eg
  exact ⟨rfl, hnx6⟩

set_option maxRecDepth 100000 in
set_option maxHeartbeats 4000000 in
theorem halves_out (R : RecSays) (d : Dat) (i : Int) (w : World) (h : i < 0 ∨ (0 ≤ i ∧ 5 < i)) :
    Calls Try.prog 4 #[d.val, .int .i64 i] w fun r w' => r = .returned (.bool true) ∧ Below w.heap.size w w' := by
  unfold Dat.val Dat.cells
  rcases h with h | ⟨h, h1⟩
  all_goals
    go_enter Try.func4, Try.ntmps4
    go_wp2_with fail
    refine (ralive_any R _).mono ?_
    rintro r w1 ⟨rfl, hb1⟩
    go_wp2
    go_ret
    exact ⟨rfl, ((Below.refl _ _).alloc (Nat.le_refl _) _).trans (hb1.mono (by simp))⟩

end Go.Proofs.Ythcmbfeifehilaa
