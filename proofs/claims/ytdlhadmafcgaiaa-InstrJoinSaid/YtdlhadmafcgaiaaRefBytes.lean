/- What the document's own answer for instr.Bytes gives of a list of instructions. -/
import Derived.Test.YtdlhadmafcgaiaaBytes
namespace Go.Proofs.Ytdlhadmafcgaiaa
open Go.RowKit

set_option maxHeartbeats 1000000 in
theorem refBytes_any (A : Option Addr) (n c : Nat) (l : List Ins) (w : World) (hl : Lies w w.heap.size 4 A n (cellsOf l)) (hn : n ≤ 4398046511104) :
    Calls Try.prog 10 #[.slice A n c] w (NewRow 5 1 (bytesOf l).length (bytesV (bytesOf l)) w) := by
  obtain ⟨i0, hi, hz0, hz1, hz2⟩ := info_parts Try.info5
  go_enter Try.func10, Try.ntmps10
  go_wp2
  go_loopw [3, 4] (fun v i wr => ∃ k : Nat, k ≤ n ∧ i = .int .i64 k ∧ wr.ownsRow w.heap.size 5 1 v (8 * k) (bytesV (rawBytes (l.take k))) ∧ Below w.heap.size w wr ∧ Hid (∀ x ∈ l.take k, x.fits = true)) (fun _ i _ => n - (intOf i).toNat)
  case atStart => exact ⟨0, Nat.zero_le _, rfl, World.ownsRow_nil _ _ _ _, Below.refl _ _, fun x hx => by simp at hx⟩
  case round =>
    obtain ⟨k, hk, rfl, hown, hnx, hall⟩ := hrel
    by_cases hlt : k < n
    · obtain ⟨b, o, x, rfl, hb, hx, e0, e1, e2, e3⟩ := (hl.below hnx).ins hlt
      have Hx := Lib.hid hx
      clear hx
      have hsw := hnx.size
      by_cases hf : x.fits = true
      · go_wp2_with fail
        refine (right_any x _).mono ?_
        rintro e w2 ⟨rfl, hb2⟩
        have hnx2 : Below w.heap.size w w2 := (hnx.alloc hsw _).trans (hb2.mono (by simp; omega))
        obtain ⟨hc2, hz2'⟩ := cells_below hb2
        have hsz := hb2.size
        simp at hsz
        have hown2 := own_below (hown.alloc _) hb2
        clear hb2 hown
        go_wp2_with (at_builtin; refine wpList_append_lit _ rfl (.tmp 19) (.tmp 52) _ rfl w.heap.size 5 i0 (.int .u8 0) 1 1 Try.underlying23 hi hz0 hz1 hz2 rfl (by omega) _ _ _ rfl hown2 _ _ 8 8 rfl rfl ?c1 ?c2 ?c3 ?c4 ?_)
        case c1 => exact ⟨rfl, rfl, rfl, rfl, rfl, rfl, rfl, rfl⟩
        case c2 => unfold maxLen; omega
        case c3 => omega
        case c4 => omega
        · intro v' w' hown3 hg3
          simp only [and255_i64, and255_u32, Int.emod_emod] at hown3
          rw [← bytesV_ins, ← raw_step Hx.out] at hown3
          have hnx3 : Below w.heap.size w w' := below_grown (hnx2.alloc (by omega) _) (hown2.alloc _) (Nat.le_refl _) (by simp; omega) hg3
          clear hg3 hown2 hnx2 hc2 hz2'
          go_wp2
          go_roundw
          case rel => exact ⟨k + 1, by omega, by go_num, hown3, hnx3, all_step Hx.out hf hall⟩
          case measure => simp [intOf]; omega
      · have hf' : x.fits = false := by simpa using hf
        go_wp2_with fail
        refine (right_any x _).mono ?_
        rintro e w2 ⟨rfl, hb2⟩
        have hnx2 : Below w.heap.size w w2 := (hnx.alloc hsw _).trans (hb2.mono (by simp; omega))
        clear hb2 hown
        go_wp2
        go_ret
        refine ⟨_, rfl, ?_, hnx2⟩
        rw [bytesOf_no Hx.out hf]
        exact World.ownsRow_nil _ _ _ _
    · obtain rfl : k = n := by omega
      go_wp2
      go_ret
      have hln : l.length = k := by have := hl.1; rw [cells_len] at this; omega
      have ht : l.take k = l := List.take_of_length_le (by omega)
      rw [ht] at hown hall
      refine ⟨_, rfl, ?_, hnx⟩
      rw [bytesOf_yes hall, raw_len, hln]
      exact hown

end Go.Proofs.Ytdlhadmafcgaiaa
