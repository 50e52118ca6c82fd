/- What the document's own answer ReadData gives. -/
import Derived.Test.YthcmbfeifehilaaRefWord
namespace Go.Proofs.Ythcmbfeifehilaa
open Go.RowKit

/-- The data that 64 bytes are. -/
def readDat (l : List UInt8) : Dat := ⟨seg l 0 4, seg l 4 4, seg l 8 8, seg l 16 8, seg l 24 8, seg l 32 8, seg l 40 8, seg l 48 8, seg l 56 8⟩
def noDat : Dat := ⟨0, 0, 0, 0, 0, 0, 0, 0, 0⟩
def datOf (l : List UInt8) : Dat := if l.length = 64 then readDat l else noDat
def datCode (l : List UInt8) : Int := if l.length = 64 then 0 else 2

/-- The data when k arguments have been read. -/
def partDat (l : List UInt8) (k : Nat) : Dat := ⟨seg l 0 4, seg l 4 4, seg l 8 8, if 0 < k then seg l 16 8 else 0, if 1 < k then seg l 24 8 else 0, if 2 < k then seg l 32 8 else 0, if 3 < k then seg l 40 8 else 0, if 4 < k then seg l 48 8 else 0, if 5 < k then seg l 56 8 else 0⟩
theorem part_step (l : List UInt8) (k : Nat) (h : k < 6) : (partDat l k).cells.setIfInBounds (3 + k) (.int .u64 (seg l (16 + 8 * k) 8)) = (partDat l (k + 1)).cells := by
  rcases (show k = 0 ∨ k = 1 ∨ k = 2 ∨ k = 3 ∨ k = 4 ∨ k = 5 from by omega) with rfl | rfl | rfl | rfl | rfl | rfl <;> rfl
theorem part_all (l : List UInt8) : partDat l 6 = readDat l := rfl
theorem part_at (l : List UInt8) (k : Nat) (h : k < 6) : ∃ u, (partDat l k).cells[3 + k]? = some u := by
  rcases (show k = 0 ∨ k = 1 ∨ k = 2 ∨ k = 3 ∨ k = 4 ∨ k = 5 from by omega) with rfl | rfl | rfl | rfl | rfl | rfl <;> exact ⟨_, rfl⟩
theorem part_none (l : List UInt8) : (partDat l 0).cells = #[.int .u32 (leVal (l.take 4) % 4294967296), .int .u32 (leVal ((l.drop 4).take 4) % 4294967296), .int .u64 (leVal ((l.drop 8).take 8)), .int .u64 0, .int .u64 0, .int .u64 0, .int .u64 0, .int .u64 0, .int .u64 0] := by
  have h0 := seg4 l 0
  have h4 := seg4 l 4
  have e0 : leVal (l.take 4) % 4294967296 = seg l 0 4 := by
    have : leVal (l.take 4) = seg l 0 4 := rfl
    omega
  have e4 : leVal ((l.drop 4).take 4) % 4294967296 = seg l 4 4 := by
    have : leVal ((l.drop 4).take 4) = seg l 4 4 := rfl
    omega
  rw [e0, e4]
  rfl

/-- What a function that hands back data and a number gives. -/
def DatPair (d : Dat) (c : Int) (w : World) : Ending → World → Prop :=
  fun r w' => r = .returned (.tuple #[d.val, .int .i64 c]) ∧ Below w.heap.size w w'

set_option maxRecDepth 100000 in
set_option maxHeartbeats 1000000 in
theorem refData_any (A : Option Addr) (n c : Nat) (l : List UInt8) (w : World) (hl : Lies w w.heap.size 1 A n (bytesV l)) (hn : n ≤ 140737488355328) :
    Calls Try.prog 7 #[.slice A n c] w (DatPair (datOf l) (datCode l) w) := by
  have hlen : l.length = n := by have := hl.1; rw [bytesV_length] at this; omega
  by_cases h64 : n = 64
  · subst h64
    have hd : datOf l = readDat l := by unfold datOf; rw [hlen, if_pos rfl]
    have hc : datCode l = 0 := by unfold datCode; rw [hlen, if_pos rfl]
    have HD := Lib.hid hd
    have HC := Lib.hid hc
    have HLEN := Lib.hid hlen
    clear hd hc hlen
    go_enter Try.func7, Try.ntmps7
    go_wp2_with fail
    have hbox : Box (w.alloc (.cells noDat.cells 26)) w.heap.size 26 noDat.cells := Box.new _ _ _
    have hbw : Below w.heap.size w (w.alloc (.cells noDat.cells 26)) := (Below.refl _ _).alloc (Nat.le_refl _) _
    have hs0 : (w.alloc (.cells noDat.cells 26)).heap.size = w.heap.size + 1 := by simp
    unfold noDat Dat.cells at hbox hbw hs0
    dsimp only at hbox hbw hs0
    obtain ⟨g, hg⟩ : ∃ g, g = w.heap.size := ⟨_, rfl⟩
    have hl' := hl
    rw [← hg] at hbox hbw hs0 hl' ⊢
    have HG := Lib.hid hg
    clear hg
    generalize w.alloc (.cells #[.int .u32 0, .int .u32 0, .int .u64 0, .int .u64 0, .int .u64 0, .int .u64 0, .int .u64 0, .int .u64 0, .int .u64 0] 26) = w0 at *
    have hl0 : Lies w0 w0.heap.size 1 A 64 (bytesV l) := (hl'.below hbw).wider (by omega)
    have hs1 : g + 1 ≤ w0.heap.size := by omega
    have HB := Lib.hid hbox
    clear hbox hs0
    refine (get_any A 64 c l 0 4 _ hl0 (by omega) (by omega) (by omega)).mono ?_
    rintro r w1 ⟨rfl, rfl⟩
    go_wp2_with fail
    refine (get_any A 64 c l 4 4 _ hl0 (by omega) (by omega) (by omega)).mono ?_
    rintro r w1 ⟨rfl, rfl⟩
    go_wp2_with fail
    refine (get_any A 64 c l 8 8 _ hl0 (by omega) (by omega) (by omega)).mono ?_
    rintro r w1 ⟨rfl, rfl⟩
    go_wp2_with fail
    have hs2 : w0.heap.size ≤ w0.heap.size := Nat.le_refl _
    go_loopw [5] (fun i wr => ∃ k : Nat, k ≤ 6 ∧ i = .int .i64 k ∧ Box wr w0.heap.size 26 (partDat l k).cells ∧ Below w0.heap.size w0 wr) (fun i _ => 6 - (intOf i).toNat)
    case atStart => exact ⟨0, by omega, rfl, by rw [part_none]; exact Box.new _ _ _, (Below.refl _ _).alloc (Nat.le_refl _) _⟩
    case round =>
      obtain ⟨k, hk, rfl, hbx, hnx⟩ := hrel
      have hsw := hnx.size
      have hlr : Lies wr wr.heap.size 1 A 64 (bytesV l) := (hl0.below hnx).wider hsw
      by_cases hlt : k < 6
      · obtain ⟨u, hu⟩ := part_at l k hlt
        have hc : wr.cell? ⟨w0.heap.size, 3 + k, none⟩ = some u := (hbx.cell (3 + k)).trans hu
        have hz : wr.frozen? ⟨w0.heap.size, 3 + k, none⟩ = false := hbx.free (3 + k)
        have HX := Lib.hid hbx
        have hgl := hbx.lt
        clear hu hbx hl0 hl' hl
        go_wp2_with fail
        refine (get_int A 64 c l (16 + 8 * k) 8 _ _ _ (by omega) rfl hlr (by omega) (by omega) (by omega)).mono ?_
        rintro r w5 ⟨rfl, rfl⟩
        rw [show leVal ((l.drop (16 + 8 * k)).take 8) = seg l (16 + 8 * k) 8 from rfl]
        obtain ⟨V, hV⟩ : ∃ V, V = seg l (16 + 8 * k) 8 := ⟨_, rfl⟩
        rw [← hV]
        have HV := Lib.hid hV
        clear hV
        go_wp2
        go_roundw
        case rel => exact ⟨k + 1, by omega, by go_num, by rw [← part_step l k hlt, ← HV.out]; exact HX.out.set (3 + k) _, hnx.setCell (p := ⟨w0.heap.size, 3 + k, none⟩) (Nat.le_refl _) _⟩
        case measure => simp [intOf]; omega
      · obtain rfl : k = 6 := by omega
        have hb0 : Box wr g 26 _ := HB.out.below hnx (by omega)
        rw [part_all] at hbx
        have x0 := hbx.cell 0
        have x1 := hbx.cell 1
        have x2 := hbx.cell 2
        have x3 := hbx.cell 3
        have x4 := hbx.cell 4
        have x5 := hbx.cell 5
        have x6 := hbx.cell 6
        have x7 := hbx.cell 7
        have x8 := hbx.cell 8
        have y0 := hb0.cell 0
        have y1 := hb0.cell 1
        have y2 := hb0.cell 2
        have y3 := hb0.cell 3
        have y4 := hb0.cell 4
        have y5 := hb0.cell 5
        have y6 := hb0.cell 6
        have y7 := hb0.cell 7
        have y8 := hb0.cell 8
        have z0 : ∀ j, wr.frozen? ⟨g, j, none⟩ = false := fun j => hb0.free j
        simp only [readDat, Dat.cells] at x0 x1 x2 x3 x4 x5 x6 x7 x8
        have hgl := hb0.lt
        clear hb0 hbx
        go_wp2
        rw [HD.out, HC.out]
        refine bodyPost_ret (v := .tuple #[(readDat l).val, .int .i64 0]) (by simp [results, Try.results7, go_sem, readDat, Dat.val, Dat.cells, *]) rfl ⟨rfl, ?_⟩
        have eg := HG.out
        subst eg
        have hfin : Below w.heap.size w wr := hbw.trans (hnx.mono (by omega))
        exact ((((((((hfin.setCell (Nat.le_refl _) _).setCell (Nat.le_refl _) _).setCell (Nat.le_refl _) _).setCell (Nat.le_refl _) _).setCell (Nat.le_refl _) _).setCell (Nat.le_refl _) _).setCell (Nat.le_refl _) _).setCell (Nat.le_refl _) _).setCell (Nat.le_refl _) _
  · have hd : datOf l = noDat := by unfold datOf; rw [hlen, if_neg h64]
    have hc : datCode l = 2 := by unfold datCode; rw [hlen, if_neg h64]
    have hb : ((n : Int) != 64) = true := by rw [bne_iff_ne]; omega
    rw [hd, hc]
    clear hd hc h64 hlen
    go_enter Try.func7, Try.ntmps7
    go_wp2
    refine bodyPost_ret (v := .tuple #[noDat.val, .int .i64 2]) (by simp [results, Try.results7, go_sem, noDat, Dat.val, Dat.cells]) rfl ⟨rfl, ?_⟩
    exact (Below.refl _ _).alloc (Nat.le_refl _) _

end Go.Proofs.Ythcmbfeifehilaa
