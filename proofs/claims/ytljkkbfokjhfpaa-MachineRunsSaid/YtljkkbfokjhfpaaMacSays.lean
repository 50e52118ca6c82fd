/- What the statements' own test of the document's example of chapter 3 gives. -/
import Derived.Test.YtljkkbfokjhfpaaMacFace
namespace Go.Proofs.Ytljkkbfokjhfpaa
open Go.RowKit

set_option maxRecDepth 100000 in
set_option maxHeartbeats 1000000 in
theorem malive_any (R : MacSays) (w : World) : Calls Try.prog 8 #[] w fun e w' => e = .returned (.bool true) ∧ Below w.heap.size w w' := by
  have HRUN := Lib.hid (seven_run dat0)
  go_enter Try.func8, Try.ntmps8
  go_wp2_with fail
  refine (R.run (some ⟨w.heap.size, 0, none⟩) 1 1 seven dat0 _ (Box.lies (g := w.heap.size) (cs := #[.int .i64 6, .int .i64 0, .int .i64 0, .int .u32 7]) (Box.new w 34 _) (by simp) rfl) seven_ok dat0_ok (by omega)).mono ?_
  rw [HRUN.out]
  rintro r w1 ⟨rfl, hb1⟩
  go_wp2
  go_ret
  exact ⟨rfl, ((Below.refl _ _).alloc (Nat.le_refl _) _).trans (hb1.mono (by simp))⟩

end Go.Proofs.Ytljkkbfokjhfpaa
