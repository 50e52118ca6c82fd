/- Proved: for every input CheckerTells returns true, and each argument reads afterwards as it read before. No condition. -/
import Derived.Test.YtlghhnfpmekdnaaRows
import Derived.Test.YtlghhnfpmekdnaaFrame
import Derived.Test.YtlghhnfpmekdnaaOpenIns
import Derived.Test.YtlghhnfpmekdnaaChkTells
import Derived.Test.YtlghhnfpmekdnaaChkCode
namespace Go.Proofs.Ytlghhnfpmekdnaa.checkerTells
open Go.RowKit Go.ChangeShapes Go.WideShapes Go.ChangeAt

theorem own : ownKnob Try.prog.godebug = none := by kernel_rfl
theorem laidOut : laidOutB Try.prog = true := by kernel_rfl
theorem size_api_Instr : Try.prog.bytesOf 39 = 32 := by kernel_rfl

theorem walks (R : ChkSays) : Walks Try.prog 3 Try.f3.params.toList := by
  intro H enc W base vs ds ps hval hA hsz
  rw [Try.params3] at hA hval hsz
  obtain ⟨v0, vs0, d0, ds0, p0, q0, rfl, rfl, rfl, h0, r0⟩ := trodAll_cons hA
  obtain ⟨rfl, rfl, rfl⟩ := trodAll_nil r0
  obtain ⟨A0, n0, c0, rfl⟩ := okWide_slice Try.underlying22 (hval 0 22 v0 rfl rfl)
  obtain ⟨f0, g0⟩ := h0
  obtain ⟨hnc0, s0, l0, hl0, ok0⟩ := open_instrs_ok g0
  have hb0 : n0 ≤ 140737488355328 := by
    rcases s0 with ⟨rfl, _⟩ | ⟨el, sp, hd', hle⟩
    · omega
    · have := sized_slice hsz (j := 0) (t := 22) (e := 39) (elems := el) (spare := sp) rfl (by simp only [List.getElem?_cons_zero]; exact congrArg some hd') Try.underlying22
      rw [size_api_Instr] at this
      simp only [reachBytes] at this
      omega
  exact ctells_any R A0 n0 c0 l0 W hl0 hnc0 ok0 hb0

set_option maxRecDepth 100000 in
theorem lifted (R : ChkSays) (os : Os) (started : os.Started) (H : Type) (enc : TypeId × Value → H) :
    ReturnsInHanded {} Try.checked os 3 .any (Rows.checkerTellsSpec.pre6 enc Try.prog Try.f3 Rows.checkerTellsRow.domain false) (Rows.checkerTellsSpec.post enc Try.prog Try.f3 false true false false) :=
  law_handed (C := Try.checked) 4 own started (by kernel_rfl) Try.func3
    (ChangeSpec.witness6 (enc := enc) (C := Try.checked) false ⟨#[], #[.slice none 0 0], []⟩ 8 (by kernel_rfl) (by kernel_rfl) (by kernel_rfl) (by kernel_rfl))
    laidOut rfl rfl rfl Try.underlying4
    (by kernel_rfl)
    (fun ds hd => by
      rw [Try.params3] at hd
      match ds, hd with
      | [_], _ => exact ⟨rfl, rfl, rfl⟩)
    (walks R)

theorem over (R : ChkSays) : Rows.checkerTellsRow.holds Try.pinned (OpenSpec.ofChange Rows.checkerTellsSpec) :=
  OpenClaim.holds_of_wide 3 Try.f3 rfl rfl rfl rfl rfl rfl rfl ⟨rfl, rfl, rfl, rfl, rfl⟩ rfl rfl rfl rfl rfl (by kernel_rfl) Try.func3 (by kernel_rfl)
    (of_decide_eq_true (by kernel_rfl)) (by unfold Func.isWrapper; first | (rw [if_pos (by decide +kernel)]; kernel_rfl) | (rw [if_neg (by decide +kernel)]; exact ⟨rfl, rfl⟩))
    (fun os started H enc _ => lifted R os started H enc)

/-- The statement. -/
theorem proved : Rows.CheckerTellsSaid := over chk_says
end Go.Proofs.Ytlghhnfpmekdnaa.checkerTells
