/- What instr.one gives of eight bytes. -/
import Derived.Test.YtdlhadmafcgaiaaRefBytes
import Derived.StillTailTactics
namespace Go.Proofs.Ytdlhadmafcgaiaa
open Go.RowKit

/-- The instruction that eight bytes are. -/
def insOf (b0 b1 b2 b3 b4 b5 b6 b7 : UInt8) : Ins := ⟨(b0.toNat : Int) + b1.toNat * 256, b2.toNat, b3.toNat, (b4.toNat : Int) + b5.toNat * 256 + b6.toNat * 65536 + b7.toNat * 16777216⟩

set_option maxRecDepth 100000 in
set_option maxHeartbeats 1000000 in
theorem one_any (b o c : Nat) (b0 b1 b2 b3 b4 b5 b6 b7 : UInt8) (w : World) (e0 : w.cell? ⟨b, o, none⟩ = some (byteV b0)) (e1 : w.cell? ⟨b, o + 1, none⟩ = some (byteV b1)) (e2 : w.cell? ⟨b, o + 2, none⟩ = some (byteV b2))
    (e3 : w.cell? ⟨b, o + 3, none⟩ = some (byteV b3)) (e4 : w.cell? ⟨b, o + 4, none⟩ = some (byteV b4)) (e5 : w.cell? ⟨b, o + 5, none⟩ = some (byteV b5)) (e6 : w.cell? ⟨b, o + 6, none⟩ = some (byteV b6)) (e7 : w.cell? ⟨b, o + 7, none⟩ = some (byteV b7)) :
    Calls Try.prog 14 #[.slice (some ⟨b, o, none⟩) 8 c] w fun e w' => e = .returned (insOf b0 b1 b2 b3 b4 b5 b6 b7).val ∧ Below w.heap.size w w' := by
  unfold byteV at *
  have hb : b < w.heap.size := World.block_lt_of_cell? w ⟨b, o, none⟩ e0
  go_enter Try.func14, Try.ntmps14
  go_wp2
  refine wp_region_still_tail 41 (by kernel_rfl) (by kernel_rfl) ?_
  simp only [List.take_succ_cons, List.take_zero, List.drop_succ_cons, List.drop_zero]
  change wpStill _ _ (World.drew _) _ _ _
  repeat still_step
  refine wpStill_nil ?_
  change wpList _ _ _ _ _ (World.drew _)
  go_wp2
  simp only [code_of, kay_of, wrap64_byte']
  refine bodyPost_ret (v := (insOf b0 b1 b2 b3 b4 b5 b6 b7).val) (by simp [results, Try.results14, go_sem, insOf, Ins.val]) rfl ⟨rfl, ?_⟩
  exact ((Below.refl _ _).alloc (Nat.le_refl _) _).drew

end Go.Proofs.Ytdlhadmafcgaiaa
