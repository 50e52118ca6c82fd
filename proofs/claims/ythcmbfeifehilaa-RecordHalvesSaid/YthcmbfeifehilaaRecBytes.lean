/- What the landed code's Bytes gives. -/
import Derived.Test.YthcmbfeifehilaaRecFour
namespace Go.Proofs.Ythcmbfeifehilaa
open Go.RowKit

theorem words4 (l : List UInt8) (p : Nat) (h : p + 4 ≤ l.length) : [Value.int .u8 (seg l p 4 % 256), .int .u8 (seg l p 4 / 256 % 256), .int .u8 (seg l p 4 / 65536 % 256), .int .u8 (seg l p 4 / 16777216)] = bytesV ((l.drop p).take 4) := by
  unfold seg
  rw [take4 l p h]
  generalize l.getD p 0 = a
  generalize l.getD (p + 1) 0 = b
  generalize l.getD (p + 2) 0 = c
  generalize l.getD (p + 3) 0 = d
  have ha := byte_lt a
  have hb := byte_lt b
  have hc := byte_lt c
  have hd := byte_lt d
  simp only [leVal, bytesV, byteV, List.map_cons, List.map_nil, List.cons.injEq, Value.int.injEq, true_and, and_true]
  omega

set_option maxRecDepth 100000 in
set_option maxHeartbeats 1000000 in
theorem bytes_any (d : Dat) (w : World) (hd : d.Ok) :
    Calls Try.prog 10 #[d.val] w (NewRow 5 1 64 (bytesV d.bytes) w) := by
  obtain ⟨i0, hi, hz0, hz1, hz2⟩ := info_parts Try.info5
  have HL := Lib.hid (dat_len d)
  unfold Dat.val
  have hbox : Box (w.alloc (.cells d.cells 26)) w.heap.size 26 d.cells := Box.new _ _ _
  have hbw : Below w.heap.size w (w.alloc (.cells d.cells 26)) := (Below.refl _ _).alloc (Nat.le_refl _) _
  have hs0 : (w.alloc (.cells d.cells 26)).heap.size = w.heap.size + 1 := by simp
  have HB := Lib.hid hbox
  unfold Dat.cells at hbw hs0 ⊢
  clear hbox
  go_enter Try.func10, Try.ntmps10
  go_wp2_with (at_make; go_loud (refine wpList_make_own _ rfl _ _ 27 rfl (w.heap.size + 1) 5 i0 _ 1 Try.underlying27 hi hz0 hz1 .i64 .i64 _ 64 rfl rfl (by omega) (by rw [hz2]; omega) (by unfold maxLen; omega) (by simp) ?_); intro w1 hown1 hg1)
  have hnx1 : Below (w.heap.size + 1) (w.alloc (.cells d.cells 26)) w1 := (Below.refl _ _).grown hg1 (by simp) (by simp)
  have hw1 : w.heap.size + 1 ≤ w1.heap.size := by have := hnx1.size; simpa using this
  have hbw1 : Below w.heap.size w w1 := ((Below.refl _ _).alloc (Nat.le_refl _) _).trans (hnx1.mono (by omega))
  have hb1 : Box w1 w.heap.size 26 d.cells := HB.out.below hnx1 (by omega)
  rw [hs0] at hown1
  clear HB hnx1 hbw hs0 hg1
  have HB := Lib.hid hb1
  clear hb1
  go_loopw [3, 4] (fun v i wr => ∃ k : Nat, k ≤ 16 ∧ i = .int .u32 ((k : Int) * 4) ∧ wr.ownsRow (w.heap.size + 1) 5 1 v (k * 4) (bytesV (d.bytes.take (k * 4))) ∧ Below (w.heap.size + 1) w1 wr) (fun _ i _ => 64 - (intOf i).toNat)
  case atStart => exact ⟨0, by omega, rfl, hown1, Below.refl _ _⟩
  case round =>
    obtain ⟨k, hk, rfl, hown, hnx⟩ := hrel
    have hsw := hnx.size
    by_cases hlt : k < 16
    · have hbr : Box wr w.heap.size 26 d.cells := HB.out.below hnx (by omega)
      have x0 := hbr.cell 0
      have x1 := hbr.cell 1
      have x2 := hbr.cell 2
      have x3 := hbr.cell 3
      have x4 := hbr.cell 4
      have x5 := hbr.cell 5
      have x6 := hbr.cell 6
      have x7 := hbr.cell 7
      have x8 := hbr.cell 8
      simp only [Dat.cells] at x0 x1 x2 x3 x4 x5 x6 x7 x8
      have hg := hbr.lt
      clear hbr hown1
      go_wp2_with fail
      refine (word_any d _ _ hd (by omega) (by omega)).mono ?_
      rintro r w2 ⟨rfl, hb2⟩
      have hok : okOff ((k : Int) * 4) = true := by unfold okOff; simp; omega
      have hw : wordOf d ((k : Int) * 4) = seg d.bytes (k * 4) 4 := by
        unfold wordOf
        rw [hok, if_pos rfl, show ((k : Int) * 4).toNat = k * 4 from by omega]
      rw [hok, hw]
      clear hok hw x0 x1 x2 x3 x4 x5 x6 x7 x8
      have hs4 := seg4 d.bytes (k * 4)
      have H4 := Lib.hid (words4 d.bytes (k * 4) (by have := HL.out; omega))
      have hstep : d.bytes.take (k * 4 + 4) = d.bytes.take (k * 4) ++ (d.bytes.drop (k * 4)).take 4 := List.take_add
      have HS := Lib.hid hstep
      obtain ⟨s0, s1⟩ := hs4
      obtain ⟨V, hV⟩ : ∃ V, V = seg d.bytes (k * 4) 4 := ⟨_, rfl⟩
      rw [← hV] at s0 s1 H4 ⊢
      have hnx2 : Below (w.heap.size + 1) w1 w2 := hnx.trans (hb2.mono (by omega))
      have hown2 := own_below hown hb2
      have hs2 := hnx2.size
      clear hV hb2 hown hstep hnx hsw hg
      go_wp2_with (at_builtin; go_loud (refine wpList_append_lit _ rfl (.tmp 18) (.tmp 30) _ rfl (w.heap.size + 1) 5 i0 _ 1 1 Try.underlying27 hi hz0 hz1 hz2 rfl (by omega) _ _ _ rfl hown2 _ _ 4 4 rfl rfl ?c1 ?c2 ?c3 ?c4 ?_))
      case c1 => exact ⟨rfl, rfl, rfl, rfl⟩
      case c2 => unfold maxLen; omega
      case c3 => omega
      case c4 => omega
      intro v' w' hown3 hg3
      have hnx3 : Below (w.heap.size + 1) w1 w' := below_grown (hnx2.alloc (by omega) _) (hown2.alloc _) (Nat.le_refl _) (by simp; omega) hg3
      have hown4 : w'.ownsRow (w.heap.size + 1) 5 1 v' (k * 4 + 4) (bytesV (d.bytes.take (k * 4 + 4))) := by
        rw [HS.out, bytesV_append, ← H4.out]
        exact hown3
      clear hg3 hown2 hnx2 hown3
      go_wp2
      go_roundw
      case rel => exact ⟨k + 1, by omega, by go_num, by rw [Nat.add_mul]; exact hown4, hnx3⟩
      case measure => simp [intOf]; omega
    · obtain rfl : k = 16 := by omega
      go_wp2
      go_ret
      rw [List.take_of_length_le (by have := HL.out; omega)] at hown
      exact ⟨_, rfl, own_base hown (Nat.le_succ _), hbw1.trans (hnx.mono (Nat.le_succ _))⟩

end Go.Proofs.Ythcmbfeifehilaa
