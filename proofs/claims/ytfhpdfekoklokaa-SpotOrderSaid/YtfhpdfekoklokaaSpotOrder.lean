/- Proved: for every input SpotOrder returns true, and each argument reads afterwards as it read before. No condition. -/
import Derived.Test.YtfhpdfekoklokaaRows
import Derived.Test.YtfhpdfekoklokaaFrame
import Derived.Test.YtfhpdfekoklokaaOpenInts
import Derived.Test.YtfhpdfekoklokaaSpOrder
import Derived.ChangeMaps5
import Derived.Test.YtfhpdfekoklokaaSpotCode
namespace Go.Proofs.Ytfhpdfekoklokaa.spotOrder
open Go.RowKit Go.ChangeShapes Go.WideShapes Go.ChangeAt

theorem own : ownKnob Try.prog.godebug = none := by kernel_rfl
theorem laidOut : laidOutB Try.prog = true := by kernel_rfl

theorem walks (R : SpotSays) : Walks Try.prog 5 Try.f5.params.toList := by
  intro H enc W base vs ds ps hval hA hsz
  rw [Try.params5] at hA hval hsz
  obtain ⟨v0, vs0, d0, ds0, p0, q0, rfl, rfl, rfl, h0, r0⟩ := trodAll_cons hA
  obtain ⟨v1, vs1, d1, ds1, p1, q1, rfl, rfl, rfl, h1, r1⟩ := trodAll_cons r0
  obtain ⟨v2, vs2, d2, ds2, p2, q2, rfl, rfl, rfl, h2, r2⟩ := trodAll_cons r1
  obtain ⟨rfl, rfl, rfl⟩ := trodAll_nil r2
  obtain ⟨x0, rfl, rfl, rfl, _w0⟩ := Go.ChangeMaps.open_string Try.underlying9 (hval 0 9 v0 rfl rfl) h0
  obtain ⟨x1, rfl, rfl, rfl, w1⟩ := open_int Try.underlying3 (hval 1 3 v1 rfl rfl) h1
  have w1 := wf_bd_i64 w1
  obtain ⟨x2, rfl, rfl, rfl, w2⟩ := open_int Try.underlying3 (hval 2 3 v2 rfl rfl) h2
  have w2 := wf_bd_i64 w2
  exact sorder_any R x0 x1 x2 W

set_option maxRecDepth 100000 in
theorem lifted (R : SpotSays) (os : Os) (started : os.Started) (H : Type) (enc : TypeId × Value → H) :
    ReturnsInHanded {} Try.checked os 5 .any (Rows.spotOrderSpec.pre6 enc Try.prog Try.f5 Rows.spotOrderRow.domain false) (Rows.spotOrderSpec.post enc Try.prog Try.f5 false true false false) :=
  law_handed (C := Try.checked) 4 own started (by kernel_rfl) Try.func5
    (ChangeSpec.witness6 (enc := enc) (C := Try.checked) false ⟨#[], #[.string ⟨#[]⟩, .int .i64 0, .int .i64 0], []⟩ 8 (by kernel_rfl) (by kernel_rfl) (by kernel_rfl) (by kernel_rfl))
    laidOut rfl rfl rfl Try.underlying4
    (by kernel_rfl)
    (fun ds hd => by
      rw [Try.params5] at hd
      match ds, hd with
      | [_, _, _], _ => exact ⟨rfl, rfl, rfl⟩)
    (walks R)

theorem over (R : SpotSays) : Rows.spotOrderRow.holds Try.pinned (OpenSpec.ofChange Rows.spotOrderSpec) :=
  OpenClaim.holds_of_wide 5 Try.f5 rfl rfl rfl rfl rfl rfl rfl ⟨rfl, rfl, rfl, rfl, rfl⟩ rfl rfl rfl rfl rfl (by kernel_rfl) Try.func5 (by kernel_rfl)
    (of_decide_eq_true (by kernel_rfl)) (by unfold Func.isWrapper; first | (rw [if_pos (by decide +kernel)]; kernel_rfl) | (rw [if_neg (by decide +kernel)]; exact ⟨rfl, rfl⟩))
    (fun os started H enc _ => lifted R os started H enc)

/-- The statement. -/
theorem proved : Rows.SpotOrderSaid := over spot_says
end Go.Proofs.Ytfhpdfekoklokaa.spotOrder
