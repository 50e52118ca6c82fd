/- Proved: for every input CheckerWrong returns true, and each argument reads afterwards as it read before. No condition. -/
import Derived.Test.YtlghhnfpmekdnaaRows
import Derived.Test.YtlghhnfpmekdnaaFrame
import Derived.Test.YtlghhnfpmekdnaaOpenInts
import Derived.Test.YtlghhnfpmekdnaaChkWrong
import Derived.Test.YtlghhnfpmekdnaaChkCode
namespace Go.Proofs.Ytlghhnfpmekdnaa.checkerWrong
open Go.RowKit Go.ChangeShapes Go.WideShapes Go.ChangeAt

theorem own : ownKnob Try.prog.godebug = none := by kernel_rfl
theorem laidOut : laidOutB Try.prog = true := by kernel_rfl

theorem walks (R : ChkSays) : Walks Try.prog 5 Try.f5.params.toList := by
  intro H enc W base vs ds ps hval hA hsz
  rw [Try.params5] at hA hval hsz
  obtain ⟨v0, vs0, d0, ds0, p0, q0, rfl, rfl, rfl, h0, r0⟩ := trodAll_cons hA
  obtain ⟨rfl, rfl, rfl⟩ := trodAll_nil r0
  obtain ⟨x0, rfl, rfl, rfl, w0⟩ := open_int Try.underlying3 (hval 0 3 v0 rfl rfl) h0
  have w0 := wf_bd_i64 w0
  exact cwrong_any R x0 W

set_option maxRecDepth 100000 in
theorem lifted (R : ChkSays) (os : Os) (started : os.Started) (H : Type) (enc : TypeId × Value → H) :
    ReturnsInHanded {} Try.checked os 5 .any (Rows.checkerWrongSpec.pre6 enc Try.prog Try.f5 Rows.checkerWrongRow.domain false) (Rows.checkerWrongSpec.post enc Try.prog Try.f5 false true false false) :=
  law_handed (C := Try.checked) 4 own started (by kernel_rfl) Try.func5
    (ChangeSpec.witness6 (enc := enc) (C := Try.checked) false ⟨#[], #[.int .i64 0], []⟩ 8 (by kernel_rfl) (by kernel_rfl) (by kernel_rfl) (by kernel_rfl))
    laidOut rfl rfl rfl Try.underlying4
    (by kernel_rfl)
    (fun ds hd => by
      rw [Try.params5] at hd
      match ds, hd with
      | [_], _ => exact ⟨rfl, rfl, rfl⟩)
    (walks R)

theorem over (R : ChkSays) : Rows.checkerWrongRow.holds Try.pinned (OpenSpec.ofChange Rows.checkerWrongSpec) :=
  OpenClaim.holds_of_wide 5 Try.f5 rfl rfl rfl rfl rfl rfl rfl ⟨rfl, rfl, rfl, rfl, rfl⟩ rfl rfl rfl rfl rfl (by kernel_rfl) Try.func5 (by kernel_rfl)
    (of_decide_eq_true (by kernel_rfl)) (by unfold Func.isWrapper; first | (rw [if_pos (by decide +kernel)]; kernel_rfl) | (rw [if_neg (by decide +kernel)]; exact ⟨rfl, rfl⟩))
    (fun os started H enc _ => lifted R os started H enc)

/-- The statement. -/
theorem proved : Rows.CheckerWrongSaid := over chk_says
end Go.Proofs.Ytlghhnfpmekdnaa.checkerWrong
