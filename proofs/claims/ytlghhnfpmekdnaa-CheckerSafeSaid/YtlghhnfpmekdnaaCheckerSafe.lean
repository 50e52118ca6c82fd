/- Proved: for every input CheckerSafe returns true, and each argument reads afterwards as it read before. No condition. -/
import Derived.Test.YtlghhnfpmekdnaaRows
import Derived.Test.YtlghhnfpmekdnaaFrame
import Derived.Test.YtlghhnfpmekdnaaOpenIns
import Derived.Test.YtlghhnfpmekdnaaOpenDat
import Derived.Test.YtlghhnfpmekdnaaChkSafeW
import Derived.Test.YtlghhnfpmekdnaaMacCode
import Derived.Test.YtlghhnfpmekdnaaChkCode
namespace Go.Proofs.Ytlghhnfpmekdnaa.checkerSafe
open Go.RowKit Go.ChangeShapes Go.WideShapes Go.ChangeAt

theorem own : ownKnob Try.prog.godebug = none := by kernel_rfl
theorem laidOut : laidOutB Try.prog = true := by kernel_rfl
theorem size_api_Instr : Try.prog.bytesOf 39 = 32 := by kernel_rfl

theorem walks (M : MacSays) (R : ChkSays) : Walks Try.prog 4 Try.f4.params.toList := by
  intro H enc W base vs ds ps hval hA hsz
  rw [Try.params4] at hA hval hsz
  obtain ⟨v0, vs0, d0, ds0, p0, q0, rfl, rfl, rfl, h0, r0⟩ := trodAll_cons hA
  obtain ⟨v1, vs1, d1, ds1, p1, q1, rfl, rfl, rfl, h1, r1⟩ := trodAll_cons r0
  obtain ⟨rfl, rfl, rfl⟩ := trodAll_nil r1
  obtain ⟨A0, n0, c0, rfl⟩ := okWide_slice Try.underlying22 (hval 0 22 v0 rfl rfl)
  obtain ⟨f0, g0⟩ := h0
  obtain ⟨hnc0, s0, l0, hl0, ok0⟩ := open_instrs_ok g0
  have hb0 : n0 ≤ 140737488355328 := by
    rcases s0 with ⟨rfl, _⟩ | ⟨el, sp, hd', hle⟩
    · omega
    · have := sized_slice hsz (j := 0) (t := 22) (e := 39) (elems := el) (spare := sp) rfl (by simp only [List.getElem?_cons_zero]; exact congrArg some hd') Try.underlying22
      rw [size_api_Instr] at this
      simp only [reachBytes] at this
      omega
  obtain ⟨x1, rfl, w1⟩ := open_dat (hval 1 34 v1 rfl rfl) h1
  exact csafe_any M R A0 n0 c0 l0 x1 W hl0 hnc0 ok0 w1 hb0

set_option maxRecDepth 100000 in
theorem lifted (M : MacSays) (R : ChkSays) (os : Os) (started : os.Started) (H : Type) (enc : TypeId × Value → H) :
    ReturnsInHanded {} Try.checked os 4 .any (Rows.checkerSafeSpec.pre6 enc Try.prog Try.f4 Rows.checkerSafeRow.domain false) (Rows.checkerSafeSpec.post enc Try.prog Try.f4 false true false false) :=
  law_handed (C := Try.checked) 4 own started (by kernel_rfl) Try.func4
    (ChangeSpec.witness6 (enc := enc) (C := Try.checked) false ⟨#[], #[.slice none 0 0, .agg #[.int .u32 0, .int .u32 0, .int .u64 0, .int .u64 0, .int .u64 0, .int .u64 0, .int .u64 0, .int .u64 0, .int .u64 0]], []⟩ 8 (by kernel_rfl) (by kernel_rfl) (by kernel_rfl) (by kernel_rfl))
    laidOut rfl rfl rfl Try.underlying4
    (by kernel_rfl)
    (fun ds hd => by
      rw [Try.params4] at hd
      match ds, hd with
      | [_, _], _ => exact ⟨rfl, rfl, rfl⟩)
    (walks M R)

theorem over (M : MacSays) (R : ChkSays) : Rows.checkerSafeRow.holds Try.pinned (OpenSpec.ofChange Rows.checkerSafeSpec) :=
  OpenClaim.holds_of_wide 4 Try.f4 rfl rfl rfl rfl rfl rfl rfl ⟨rfl, rfl, rfl, rfl, rfl⟩ rfl rfl rfl rfl rfl (by kernel_rfl) Try.func4 (by kernel_rfl)
    (of_decide_eq_true (by kernel_rfl)) (by unfold Func.isWrapper; first | (rw [if_pos (by decide +kernel)]; kernel_rfl) | (rw [if_neg (by decide +kernel)]; exact ⟨rfl, rfl⟩))
    (fun os started H enc _ => lifted M R os started H enc)

/-- The statement. -/
theorem proved : Rows.CheckerSafeSaid := over mac_says chk_says
end Go.Proofs.Ytlghhnfpmekdnaa.checkerSafe
