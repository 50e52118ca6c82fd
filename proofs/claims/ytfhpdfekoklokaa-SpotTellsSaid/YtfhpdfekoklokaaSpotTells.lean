/- Proved: for every input SpotTells returns true, and each argument reads afterwards as it read before. No condition. -/
import Derived.Test.YtfhpdfekoklokaaRows
import Derived.Test.YtfhpdfekoklokaaFrame
import Derived.Test.YtfhpdfekoklokaaOpenInts
import Derived.Test.YtfhpdfekoklokaaOpenFlt
import Derived.Test.YtfhpdfekoklokaaSpotFace
import Derived.ChangeMaps5
import Derived.Test.YtfhpdfekoklokaaSpotCode
namespace Go.Proofs.Ytfhpdfekoklokaa.spotTells
open Go.RowKit Go.ChangeShapes Go.WideShapes Go.ChangeAt

theorem own : ownKnob Try.prog.godebug = none := by kernel_rfl
theorem laidOut : laidOutB Try.prog = true := by kernel_rfl

theorem walks (R : SpotSays) : Walks Try.prog 3 Try.f3.params.toList := by
  intro H enc W base vs ds ps hval hA hsz
  rw [Try.params3] at hA hval hsz
  obtain ⟨v0, vs0, d0, ds0, p0, q0, rfl, rfl, rfl, h0, r0⟩ := trodAll_cons hA
  obtain ⟨v1, vs1, d1, ds1, p1, q1, rfl, rfl, rfl, h1, r1⟩ := trodAll_cons r0
  obtain ⟨v2, vs2, d2, ds2, p2, q2, rfl, rfl, rfl, h2, r2⟩ := trodAll_cons r1
  obtain ⟨v3, vs3, d3, ds3, p3, q3, rfl, rfl, rfl, h3, r3⟩ := trodAll_cons r2
  obtain ⟨rfl, rfl, rfl⟩ := trodAll_nil r3
  obtain ⟨x0, rfl, rfl, rfl, _w0⟩ := Go.ChangeMaps.open_string Try.underlying9 (hval 0 9 v0 rfl rfl) h0
  obtain ⟨x1, rfl, rfl, rfl, w1⟩ := open_int Try.underlying3 (hval 1 3 v1 rfl rfl) h1
  have w1 := wf_bd_i64 w1
  obtain ⟨x2, rfl, rfl, rfl, _w2⟩ := open_flt Try.underlying22 (hval 2 22 v2 rfl rfl) h2
  obtain ⟨x3, rfl, rfl, rfl, _w3⟩ := open_flt Try.underlying22 (hval 3 22 v3 rfl rfl) h3
  exact stells_any R x0 x1 x2 x3 W w1.1 w1.2

set_option maxRecDepth 100000 in
theorem lifted (R : SpotSays) (os : Os) (started : os.Started) (H : Type) (enc : TypeId × Value → H) :
    ReturnsInHanded {} Try.checked os 3 .any (Rows.spotTellsSpec.pre6 enc Try.prog Try.f3 Rows.spotTellsRow.domain false) (Rows.spotTellsSpec.post enc Try.prog Try.f3 false true false false) :=
  law_handed (C := Try.checked) 4 own started (by kernel_rfl) Try.func3
    (ChangeSpec.witness6 (enc := enc) (C := Try.checked) false ⟨#[], #[.string ⟨#[]⟩, .int .i64 0, .float .f64 0, .float .f64 0], []⟩ 8 (by kernel_rfl) (by kernel_rfl) (by kernel_rfl) (by kernel_rfl))
    laidOut rfl rfl rfl Try.underlying4
    (by kernel_rfl)
    (fun ds hd => by
      rw [Try.params3] at hd
      match ds, hd with
      | [_, _, _, _], _ => exact ⟨rfl, rfl, rfl⟩)
    (walks R)

theorem over (R : SpotSays) : Rows.spotTellsRow.holds Try.pinned (OpenSpec.ofChange Rows.spotTellsSpec) :=
  OpenClaim.holds_of_wide 3 Try.f3 rfl rfl rfl rfl rfl rfl rfl ⟨rfl, rfl, rfl, rfl, rfl⟩ rfl rfl rfl rfl rfl (by kernel_rfl) Try.func3 (by kernel_rfl)
    (of_decide_eq_true (by kernel_rfl)) (by unfold Func.isWrapper; first | (rw [if_pos (by decide +kernel)]; kernel_rfl) | (rw [if_neg (by decide +kernel)]; exact ⟨rfl, rfl⟩))
    (fun os started H enc _ => lifted R os started H enc)

/-- The statement. -/
theorem proved : Rows.SpotTellsSaid := over spot_says
end Go.Proofs.Ytfhpdfekoklokaa.spotTells
