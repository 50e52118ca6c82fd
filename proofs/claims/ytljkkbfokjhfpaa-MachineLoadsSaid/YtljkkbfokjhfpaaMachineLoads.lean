/- Proved: for every input MachineLoads returns true, and each argument reads afterwards as it read before. No condition. -/
import Derived.Test.YtljkkbfokjhfpaaRows
import Derived.Test.YtljkkbfokjhfpaaFrame
import Derived.Test.YtljkkbfokjhfpaaOpenInts
import Derived.Test.YtljkkbfokjhfpaaOpenDat
import Derived.Test.YtljkkbfokjhfpaaLoads
import Derived.Test.YtljkkbfokjhfpaaMacCode
namespace Go.Proofs.Ytljkkbfokjhfpaa.machineLoads
open Go.RowKit Go.ChangeShapes Go.WideShapes Go.ChangeAt

theorem own : ownKnob Try.prog.godebug = none := by kernel_rfl
theorem laidOut : laidOutB Try.prog = true := by kernel_rfl

theorem walks (R : MacSays) : Walks Try.prog 7 Try.f7.params.toList := by
  intro H enc W base vs ds ps hval hA hsz
  rw [Try.params7] at hA hval hsz
  obtain ⟨v0, vs0, d0, ds0, p0, q0, rfl, rfl, rfl, h0, r0⟩ := trodAll_cons hA
  obtain ⟨v1, vs1, d1, ds1, p1, q1, rfl, rfl, rfl, h1, r1⟩ := trodAll_cons r0
  obtain ⟨v2, vs2, d2, ds2, p2, q2, rfl, rfl, rfl, h2, r2⟩ := trodAll_cons r1
  obtain ⟨rfl, rfl, rfl⟩ := trodAll_nil r2
  obtain ⟨x0, rfl, w0⟩ := open_dat (hval 0 27 v0 rfl rfl) h0
  obtain ⟨x1, rfl, rfl, rfl, w1⟩ := open_int Try.underlying23 (hval 1 23 v1 rfl rfl) h1
  have w1 := wf_bd_u32 w1
  obtain ⟨x2, rfl, rfl, rfl, w2⟩ := open_int Try.underlying3 (hval 2 3 v2 rfl rfl) h2
  have w2 := wf_bd_i64 w2
  exact loads_any R x0 x1 x2 W w0 w1

set_option maxRecDepth 100000 in
theorem lifted (R : MacSays) (os : Os) (started : os.Started) (H : Type) (enc : TypeId × Value → H) :
    ReturnsInHanded {} Try.checked os 7 .any (Rows.machineLoadsSpec.pre6 enc Try.prog Try.f7 Rows.machineLoadsRow.domain false) (Rows.machineLoadsSpec.post enc Try.prog Try.f7 false true false false) :=
  law_handed (C := Try.checked) 4 own started (by kernel_rfl) Try.func7
    (ChangeSpec.witness6 (enc := enc) (C := Try.checked) false ⟨#[], #[.agg #[.int .u32 0, .int .u32 0, .int .u64 0, .int .u64 0, .int .u64 0, .int .u64 0, .int .u64 0, .int .u64 0, .int .u64 0], .int .u32 0, .int .i64 0], []⟩ 8 (by kernel_rfl) (by kernel_rfl) (by kernel_rfl) (by kernel_rfl))
    laidOut rfl rfl rfl Try.underlying4
    (by kernel_rfl)
    (fun ds hd => by
      rw [Try.params7] at hd
      match ds, hd with
      | [_, _, _], _ => exact ⟨rfl, rfl, rfl⟩)
    (walks R)

theorem over (R : MacSays) : Rows.machineLoadsRow.holds Try.pinned (OpenSpec.ofChange Rows.machineLoadsSpec) :=
  OpenClaim.holds_of_wide 7 Try.f7 rfl rfl rfl rfl rfl rfl rfl ⟨rfl, rfl, rfl, rfl, rfl⟩ rfl rfl rfl rfl rfl (by kernel_rfl) Try.func7 (by kernel_rfl)
    (of_decide_eq_true (by kernel_rfl)) (by unfold Func.isWrapper; first | (rw [if_pos (by decide +kernel)]; kernel_rfl) | (rw [if_neg (by decide +kernel)]; exact ⟨rfl, rfl⟩))
    (fun os started H enc _ => lifted R os started H enc)

/-- The statement. -/
theorem proved : Rows.MachineLoadsSaid := over mac_says
end Go.Proofs.Ytljkkbfokjhfpaa.machineLoads
