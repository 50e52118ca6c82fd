/- Proved: for every input CheckerLong returns true, and each argument reads afterwards as it read before. No condition. -/
import Derived.Test.YtlghhnfpmekdnaaRows
import Derived.Test.YtlghhnfpmekdnaaFrame
import Derived.Test.YtlghhnfpmekdnaaOpenInts
import Derived.Test.YtlghhnfpmekdnaaChkLong
import Derived.Test.YtlghhnfpmekdnaaMacCode
import Derived.Test.YtlghhnfpmekdnaaChkCode
namespace Go.Proofs.Ytlghhnfpmekdnaa.checkerLong
open Go.RowKit Go.ChangeShapes Go.WideShapes Go.ChangeAt

theorem own : ownKnob Try.prog.godebug = none := by kernel_rfl
theorem laidOut : laidOutB Try.prog = true := by kernel_rfl

theorem walks (M : MacSays) (R : ChkSays) : Walks Try.prog 6 Try.f6.params.toList := by
  intro H enc W base vs ds ps hval hA hsz
  rw [Try.params6] at hA hval hsz
  obtain ⟨v0, vs0, d0, ds0, p0, q0, rfl, rfl, rfl, h0, r0⟩ := trodAll_cons hA
  obtain ⟨rfl, rfl, rfl⟩ := trodAll_nil r0
  obtain ⟨x0, rfl, rfl, rfl, w0⟩ := open_int Try.underlying3 (hval 0 3 v0 rfl rfl) h0
  have w0 := wf_bd_i64 w0
  exact clong_any M R x0 W

set_option maxRecDepth 100000 in
theorem lifted (M : MacSays) (R : ChkSays) (os : Os) (started : os.Started) (H : Type) (enc : TypeId × Value → H) :
    ReturnsInHanded {} Try.checked os 6 .any (Rows.checkerLongSpec.pre6 enc Try.prog Try.f6 Rows.checkerLongRow.domain false) (Rows.checkerLongSpec.post enc Try.prog Try.f6 false true false false) :=
  law_handed (C := Try.checked) 4 own started (by kernel_rfl) Try.func6
    (ChangeSpec.witness6 (enc := enc) (C := Try.checked) false ⟨#[], #[.int .i64 0], []⟩ 8 (by kernel_rfl) (by kernel_rfl) (by kernel_rfl) (by kernel_rfl))
    laidOut rfl rfl rfl Try.underlying4
    (by kernel_rfl)
    (fun ds hd => by
      rw [Try.params6] at hd
      match ds, hd with
      | [_], _ => exact ⟨rfl, rfl, rfl⟩)
    (walks M R)

theorem over (M : MacSays) (R : ChkSays) : Rows.checkerLongRow.holds Try.pinned (OpenSpec.ofChange Rows.checkerLongSpec) :=
  OpenClaim.holds_of_wide 6 Try.f6 rfl rfl rfl rfl rfl rfl rfl ⟨rfl, rfl, rfl, rfl, rfl⟩ rfl rfl rfl rfl rfl (by kernel_rfl) Try.func6 (by kernel_rfl)
    (of_decide_eq_true (by kernel_rfl)) (by unfold Func.isWrapper; first | (rw [if_pos (by decide +kernel)]; kernel_rfl) | (rw [if_neg (by decide +kernel)]; exact ⟨rfl, rfl⟩))
    (fun os started H enc _ => lifted M R os started H enc)

/-- The statement. -/
theorem proved : Rows.CheckerLongSaid := over mac_says chk_says
end Go.Proofs.Ytlghhnfpmekdnaa.checkerLong
