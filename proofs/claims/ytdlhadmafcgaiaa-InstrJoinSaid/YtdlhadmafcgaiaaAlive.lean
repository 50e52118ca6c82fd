/- What the statements' own test of the document's example gives: true. -/
import Derived.Test.YtdlhadmafcgaiaaSame
namespace Go.Proofs.Ytdlhadmafcgaiaa
open Go.RowKit

theorem ex_bytes : bytesOf [⟨6, 0, 0, 7⟩] = [6, 0, 0, 0, 7, 0, 0, 0] := by decide +kernel
theorem ex_read : readOf [6, 0, 0, 0, 7, 0, 0, 0] = [⟨6, 0, 0, 7⟩] := by rfl
theorem ex_code : readCode [6, 0, 0, 0, 7, 0, 0, 0] = 0 := by decide +kernel

set_option maxRecDepth 100000 in
set_option maxHeartbeats 1000000 in
theorem alive_any (w : World) : Calls Try.prog 6 #[] w fun e w' => e = .returned (.bool true) ∧ Below w.heap.size w w' := by
  go_enter Try.func6, Try.ntmps6
  go_wp2_with fail
  refine (read_any none 0 0 [] _ (Lies.empty _ _ _ _) (Nat.le_refl _) (by omega)).mono ?_
  rintro e w1 ⟨v1, rfl, hown1, hb1⟩
  obtain ⟨A1, c1, rfl, hc1, hl1⟩ := own_form hown1
  have hz1 := hb1.size
  clear hown1 hl1
  rw [show (readOf []).length = 0 from rfl, show readCode [] = 0 from rfl]
  go_wp2_with fail
  refine (bytes_any _ 1 1 [⟨6, 0, 0, 7⟩] _ ⟨rfl, fun _ => ⟨_, _, rfl, by simp, ?_⟩⟩ (by omega)).mono ?_
  · intro j u hu
    rw [cell_of_row _ w1.heap.size (0 + j) _ _ (0, 0) (heap_alloc_new w1 _)]
    simpa [cellsOf, Ins.cells] using hu
  rintro e w2 ⟨v2, rfl, hown2, hb2⟩
  obtain ⟨A2, c2, rfl, hc2, hl2⟩ := own_form hown2
  have hz2 := hb2.size
  simp at hz2
  have hnx2 : Below w.heap.size w w2 := (hb1.alloc hz1 _).trans (hb2.mono (by simp; omega))
  clear hown2 hb2 hb1
  rw [ex_bytes] at hc2 hl2 ⊢
  go_wp2_with fail
  refine (read_any A2 8 c2 _ _ hl2 hc2 (by omega)).mono ?_
  rintro e w3 ⟨v3, rfl, hown3, hb3⟩
  obtain ⟨A3, c3, rfl, hc3, hl3⟩ := own_form hown3
  have hnx3 : Below w.heap.size w w3 := hnx2.trans (hb3.mono (by omega))
  clear hown3 hb3 hnx2 hl2
  rw [ex_read] at hc3 hl3 ⊢
  rw [ex_code]
  obtain ⟨b, o, hA, _, hcell⟩ := hl3.2 (by simp)
  subst hA
  have e3 : w3.cell? ⟨b, o + 3, none⟩ = some (.int .u32 7) := hcell 3 _ rfl
  clear hcell hl3
  go_wp2_with (go_at_call 12; refine (num_any _ _).mono ?_; rintro e w' ⟨rfl, rfl⟩)
  go_ret
  exact ⟨rfl, hnx3⟩

end Go.Proofs.Ytdlhadmafcgaiaa
