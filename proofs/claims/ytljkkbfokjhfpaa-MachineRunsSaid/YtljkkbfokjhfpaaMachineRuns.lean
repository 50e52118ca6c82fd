/- Proved: for every input MachineRuns returns true, and each argument reads afterwards as it read before. No condition. -/
import Derived.Test.YtljkkbfokjhfpaaRows
import Derived.Test.YtljkkbfokjhfpaaOpenDat
import Derived.Test.YtljkkbfokjhfpaaOpenIns
import Derived.Test.YtljkkbfokjhfpaaRunsLaw
import Derived.Test.YtljkkbfokjhfpaaMacCode
namespace Go.Proofs.Ytljkkbfokjhfpaa.machineRuns
open Go.RowKit Go.ChangeShapes Go.WideShapes Go.ChangeAt

theorem own : ownKnob Try.prog.godebug = none := by kernel_rfl
theorem laidOut : laidOutB Try.prog = true := by kernel_rfl
theorem size_ins : Try.prog.bytesOf 34 = 32 := by kernel_rfl

theorem walks : Walks Try.prog 3 Try.f3.params.toList := by
  intro H enc W base vs ds ps hval hA hsz
  rw [Try.params3] at hA hval hsz
  obtain ⟨v0, vs0, d0, ds0, p0, q0, rfl, rfl, rfl, h0, r0⟩ := trodAll_cons hA
  obtain ⟨v1, vs1, d1, ds1, p1, q1, rfl, rfl, rfl, h1, r1⟩ := trodAll_cons r0
  obtain ⟨rfl, rfl, rfl⟩ := trodAll_nil r1
  obtain ⟨A, n, c, rfl⟩ := okWide_slice Try.underlying22 (hval 0 22 v0 rfl rfl)
  obtain ⟨d, rfl, hd⟩ := open_dat (hval 1 27 v1 rfl rfl) h1
  obtain ⟨f0, g0⟩ := h0
  obtain ⟨_, s0, l, hl, hok⟩ := open_instrs_ok g0
  have hm : n ≤ 140737488355328 := by
    rcases s0 with ⟨rfl, _⟩ | ⟨el, sp, hd', hle⟩
    · omega
    · have := sized_slice hsz (j := 0) (t := 22) (e := 34) (elems := el) (spare := sp) rfl (by simp only [List.getElem?_cons_zero]; exact congrArg some hd') Try.underlying22
      rw [size_ins] at this
      simp only [reachBytes] at this
      omega
  by_cases hin : n ≤ 300
  · exact mruns_in mac_says A n c l d W hl hok hd hin
  · exact mruns_out mac_says A n c d W (by omega) hm

set_option maxRecDepth 100000 in
theorem lifted (os : Os) (started : os.Started) (H : Type) (enc : TypeId × Value → H) :
    ReturnsInHanded {} Try.checked os 3 .any (Rows.machineRunsSpec.pre6 enc Try.prog Try.f3 Rows.machineRunsRow.domain false) (Rows.machineRunsSpec.post enc Try.prog Try.f3 false true false false) :=
  law_handed (C := Try.checked) 4 own started (by kernel_rfl) Try.func3
    (ChangeSpec.witness6 (enc := enc) (C := Try.checked) false ⟨#[], #[.slice none 0 0, .agg #[.int .u32 0, .int .u32 0, .int .u64 0, .int .u64 0, .int .u64 0, .int .u64 0, .int .u64 0, .int .u64 0, .int .u64 0]], []⟩ 8 (by kernel_rfl) (by kernel_rfl) (by kernel_rfl) (by kernel_rfl))
    laidOut rfl rfl rfl Try.underlying4
    (by kernel_rfl)
    (fun ds hd => by
      rw [Try.params3] at hd
      match ds, hd with
      | [_, _], _ => exact ⟨rfl, rfl, rfl⟩)
    walks

theorem over : Rows.machineRunsRow.holds Try.pinned (OpenSpec.ofChange Rows.machineRunsSpec) :=
  OpenClaim.holds_of_wide 3 Try.f3 rfl rfl rfl rfl rfl rfl rfl ⟨rfl, rfl, rfl, rfl, rfl⟩ rfl rfl rfl rfl rfl (by kernel_rfl) Try.func3 (by kernel_rfl)
    (of_decide_eq_true (by kernel_rfl)) (by unfold Func.isWrapper; first | (rw [if_pos (by decide +kernel)]; kernel_rfl) | (rw [if_neg (by decide +kernel)]; exact ⟨rfl, rfl⟩))
    (fun os started H enc _ => lifted os started H enc)

/-- The statement. -/
theorem proved : Rows.MachineRunsSaid := over
end Go.Proofs.Ytljkkbfokjhfpaa.machineRuns
