/- Proved: for every input CheckerMore returns true, and each argument reads afterwards as it read before. No condition. -/
import Derived.Test.YtlghhnfpmekdnaaRows
import Derived.Test.YtlghhnfpmekdnaaFrame
import Derived.Test.YtlghhnfpmekdnaaOpenIns
import Derived.Test.YtlghhnfpmekdnaaOpenInts
import Derived.Test.YtlghhnfpmekdnaaChkMore
import Derived.Test.YtlghhnfpmekdnaaChkCode
namespace Go.Proofs.Ytlghhnfpmekdnaa.checkerMore
open Go.RowKit Go.ChangeShapes Go.WideShapes Go.ChangeAt

theorem own : ownKnob Try.prog.godebug = none := by kernel_rfl
theorem laidOut : laidOutB Try.prog = true := by kernel_rfl
theorem size_api_Instr : Try.prog.bytesOf 39 = 32 := by kernel_rfl

theorem walks (R : ChkSays) : Walks Try.prog 7 Try.f7.params.toList := by
  intro H enc W base vs ds ps hval hA hsz
  rw [Try.params7] at hA hval hsz
  obtain ⟨v0, vs0, d0, ds0, p0, q0, rfl, rfl, rfl, h0, r0⟩ := trodAll_cons hA
  obtain ⟨v1, vs1, d1, ds1, p1, q1, rfl, rfl, rfl, h1, r1⟩ := trodAll_cons r0
  obtain ⟨v2, vs2, d2, ds2, p2, q2, rfl, rfl, rfl, h2, r2⟩ := trodAll_cons r1
  obtain ⟨rfl, rfl, rfl⟩ := trodAll_nil r2
  obtain ⟨A0, n0, c0, rfl⟩ := okWide_slice Try.underlying22 (hval 0 22 v0 rfl rfl)
  obtain ⟨f0, g0⟩ := h0
  obtain ⟨hnc0, s0, l0, hl0, ok0⟩ := open_instrs_ok g0
  have hb0 : n0 ≤ 140737488355328 := by
    rcases s0 with ⟨rfl, _⟩ | ⟨el, sp, hd', hle⟩
    · omega
    · have := sized_slice hsz (j := 0) (t := 22) (e := 39) (elems := el) (spare := sp) rfl (by simp only [List.getElem?_cons_zero]; exact congrArg some hd') Try.underlying22
      rw [size_api_Instr] at this
      simp only [reachBytes] at this
      omega
  obtain ⟨x1, rfl, rfl, rfl, w1⟩ := open_int Try.underlying30 (hval 1 30 v1 rfl rfl) h1
  have w1 := wf_bd_u32 w1
  obtain ⟨x2, rfl, rfl, rfl, w2⟩ := open_int Try.underlying3 (hval 2 3 v2 rfl rfl) h2
  have w2 := wf_bd_i64 w2
  exact cmore_any R A0 n0 c0 l0 x1 x2 W hl0 hnc0 ok0 hb0 w1 w2

set_option maxRecDepth 100000 in
theorem lifted (R : ChkSays) (os : Os) (started : os.Started) (H : Type) (enc : TypeId × Value → H) :
    ReturnsInHanded {} Try.checked os 7 .any (Rows.checkerMoreSpec.pre6 enc Try.prog Try.f7 Rows.checkerMoreRow.domain false) (Rows.checkerMoreSpec.post enc Try.prog Try.f7 false true false false) :=
  law_handed (C := Try.checked) 4 own started (by kernel_rfl) Try.func7
    (ChangeSpec.witness6 (enc := enc) (C := Try.checked) false ⟨#[], #[.slice none 0 0, .int .u32 0, .int .i64 0], []⟩ 8 (by kernel_rfl) (by kernel_rfl) (by kernel_rfl) (by kernel_rfl))
    laidOut rfl rfl rfl Try.underlying4
    (by kernel_rfl)
    (fun ds hd => by
      rw [Try.params7] at hd
      match ds, hd with
      | [_, _, _], _ => exact ⟨rfl, rfl, rfl⟩)
    (walks R)

theorem over (R : ChkSays) : Rows.checkerMoreRow.holds Try.pinned (OpenSpec.ofChange Rows.checkerMoreSpec) :=
  OpenClaim.holds_of_wide 7 Try.f7 rfl rfl rfl rfl rfl rfl rfl ⟨rfl, rfl, rfl, rfl, rfl⟩ rfl rfl rfl rfl rfl (by kernel_rfl) Try.func7 (by kernel_rfl)
    (of_decide_eq_true (by kernel_rfl)) (by unfold Func.isWrapper; first | (rw [if_pos (by decide +kernel)]; kernel_rfl) | (rw [if_neg (by decide +kernel)]; exact ⟨rfl, rfl⟩))
    (fun os started H enc _ => lifted R os started H enc)

/-- The statement. -/
theorem proved : Rows.CheckerMoreSaid := over chk_says
end Go.Proofs.Ytlghhnfpmekdnaa.checkerMore
