/- Proved: for every input MachineCells returns true, and each argument reads afterwards as it read before. No condition. -/
import Derived.Test.YtljkkbfokjhfpaaRows
import Derived.Test.YtljkkbfokjhfpaaFrame
import Derived.Test.YtljkkbfokjhfpaaOpenInts
import Derived.Test.YtljkkbfokjhfpaaCells
import Derived.Test.YtljkkbfokjhfpaaMacCode
namespace Go.Proofs.Ytljkkbfokjhfpaa.machineCells
open Go.RowKit Go.ChangeShapes Go.WideShapes Go.ChangeAt

theorem own : ownKnob Try.prog.godebug = none := by kernel_rfl
theorem laidOut : laidOutB Try.prog = true := by kernel_rfl
theorem size_int : Try.prog.bytesOf 3 = 8 := by kernel_rfl
theorem size_uint32 : Try.prog.bytesOf 23 = 4 := by kernel_rfl

theorem walks (R : MacSays) : Walks Try.prog 6 Try.f6.params.toList := by
  intro H enc W base vs ds ps hval hA hsz
  rw [Try.params6] at hA hval hsz
  obtain ⟨v0, vs0, d0, ds0, p0, q0, rfl, rfl, rfl, h0, r0⟩ := trodAll_cons hA
  obtain ⟨v1, vs1, d1, ds1, p1, q1, rfl, rfl, rfl, h1, r1⟩ := trodAll_cons r0
  obtain ⟨v2, vs2, d2, ds2, p2, q2, rfl, rfl, rfl, h2, r2⟩ := trodAll_cons r1
  obtain ⟨rfl, rfl, rfl⟩ := trodAll_nil r2
  obtain ⟨A0, n0, c0, rfl⟩ := okWide_slice Try.underlying32 (hval 0 32 v0 rfl rfl)
  obtain ⟨f0, g0⟩ := h0
  obtain ⟨hnc0, s0, l0, hl0, ok0⟩ := open_ints (k := .i64) Try.underlying32 Try.underlying3 (by kernel_rfl) g0
  have ok0 := fun y hy => wf_bd_i64 (ok0 y hy)
  have hb0 : n0 ≤ 140737488355328 := by
    rcases s0 with ⟨rfl, _⟩ | ⟨el, sp, hd', hle⟩
    · omega
    · have := sized_slice hsz (j := 0) (t := 32) (e := 3) (elems := el) (spare := sp) rfl (by simp only [List.getElem?_cons_zero]; exact congrArg some hd') Try.underlying32
      rw [size_int] at this
      simp only [reachBytes] at this
      omega
  obtain ⟨A1, n1, c1, rfl⟩ := okWide_slice Try.underlying38 (hval 1 38 v1 rfl rfl)
  obtain ⟨f1, g1⟩ := h1
  obtain ⟨hnc1, s1, l1, hl1, ok1⟩ := open_ints (k := .u32) Try.underlying38 Try.underlying23 (by kernel_rfl) g1
  have ok1 := fun y hy => wf_bd_u32 (ok1 y hy)
  have hb1 : n1 ≤ 140737488355328 := by
    rcases s1 with ⟨rfl, _⟩ | ⟨el, sp, hd', hle⟩
    · omega
    · have := sized_slice hsz (j := 1) (t := 38) (e := 23) (elems := el) (spare := sp) rfl (by simp only [List.getElem?_cons_succ, List.getElem?_cons_zero]; exact congrArg some hd') Try.underlying38
      rw [size_uint32] at this
      simp only [reachBytes] at this
      omega
  obtain ⟨x2, rfl, rfl, rfl, w2⟩ := open_int Try.underlying3 (hval 2 3 v2 rfl rfl) h2
  have w2 := wf_bd_i64 w2
  exact mcells_any R A0 A1 n0 c0 n1 c1 x2 l0 l1 W hl0 hl1 hb0 hb1 ok1

set_option maxRecDepth 100000 in
theorem lifted (R : MacSays) (os : Os) (started : os.Started) (H : Type) (enc : TypeId × Value → H) :
    ReturnsInHanded {} Try.checked os 6 .any (Rows.machineCellsSpec.pre6 enc Try.prog Try.f6 Rows.machineCellsRow.domain false) (Rows.machineCellsSpec.post enc Try.prog Try.f6 false true false false) :=
  law_handed (C := Try.checked) 4 own started (by kernel_rfl) Try.func6
    (ChangeSpec.witness6 (enc := enc) (C := Try.checked) false ⟨#[], #[.slice none 0 0, .slice none 0 0, .int .i64 0], []⟩ 8 (by kernel_rfl) (by kernel_rfl) (by kernel_rfl) (by kernel_rfl))
    laidOut rfl rfl rfl Try.underlying4
    (by kernel_rfl)
    (fun ds hd => by
      rw [Try.params6] at hd
      match ds, hd with
      | [_, _, _], _ => exact ⟨rfl, rfl, rfl⟩)
    (walks R)

theorem over (R : MacSays) : Rows.machineCellsRow.holds Try.pinned (OpenSpec.ofChange Rows.machineCellsSpec) :=
  OpenClaim.holds_of_wide 6 Try.f6 rfl rfl rfl rfl rfl rfl rfl ⟨rfl, rfl, rfl, rfl, rfl⟩ rfl rfl rfl rfl rfl (by kernel_rfl) Try.func6 (by kernel_rfl)
    (of_decide_eq_true (by kernel_rfl)) (by unfold Func.isWrapper; first | (rw [if_pos (by decide +kernel)]; kernel_rfl) | (rw [if_neg (by decide +kernel)]; exact ⟨rfl, rfl⟩))
    (fun os started H enc _ => lifted R os started H enc)

/-- The statement. -/
theorem proved : Rows.MachineCellsSaid := over mac_says
end Go.Proofs.Ytljkkbfokjhfpaa.machineCells
