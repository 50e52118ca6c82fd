/- Proved: for every input RecordTells returns true, and each argument reads afterwards as it read before. No condition. -/
import Derived.Test.YthcmbfeifehilaaRows
import Derived.Test.YthcmbfeifehilaaOpenDat
import Derived.Test.YthcmbfeifehilaaRecTells
import Derived.Test.YthcmbfeifehilaaRecCode
namespace Go.Proofs.Ythcmbfeifehilaa.recordTells
open Go.RowKit Go.ChangeShapes Go.WideShapes Go.ChangeAt

theorem own : ownKnob Try.prog.godebug = none := by kernel_rfl
theorem laidOut : laidOutB Try.prog = true := by kernel_rfl
theorem size_byte : Try.prog.bytesOf 5 = 1 := by kernel_rfl

theorem walks : Walks Try.prog 3 Try.f3.params.toList := by
  intro H enc W base vs ds ps hval hA hsz
  rw [Try.params3] at hA hval hsz
  obtain ⟨v0, vs0, d0, ds0, p0, q0, rfl, rfl, rfl, h0, r0⟩ := trodAll_cons hA
  obtain ⟨v1, vs1, d1, ds1, p1, q1, rfl, rfl, rfl, h1, r1⟩ := trodAll_cons r0
  obtain ⟨v2, vs2, d2, ds2, p2, q2, rfl, rfl, rfl, h2, r2⟩ := trodAll_cons r1
  obtain ⟨rfl, rfl, rfl⟩ := trodAll_nil r2
  obtain ⟨d, rfl, hd⟩ := open_dat (hval 0 26 v0 rfl rfl) h0
  obtain ⟨B, m, c, rfl⟩ := okWide_slice Try.underlying27 (hval 1 27 v1 rfl rfl)
  obtain ⟨off, rfl, rfl, rfl, wo⟩ := open_int Try.underlying22 (hval 2 22 v2 rfl rfl) h2
  obtain ⟨f1, g1⟩ := h1
  obtain ⟨_, s1, b, hb⟩ := open_bytes g1
  have hm : m ≤ 140737488355328 := by
    rcases s1 with ⟨rfl, _⟩ | ⟨el, sp, hd', hle⟩
    · omega
    · have := sized_slice hsz (j := 1) (t := 27) (e := 5) (elems := el) (spare := sp) rfl (by simp only [List.getElem?_cons_succ, List.getElem?_cons_zero]; exact congrArg some hd') Try.underlying27
      rw [size_byte] at this
      simp only [reachBytes] at this
      omega
  obtain ⟨o0, o1⟩ := wf_u32 wo
  by_cases hin : m ≤ 200
  · exact rtells_in rec_says d B m c b off W hd hb hin o0 o1
  · exact rtells_out rec_says d B m c off W (by omega) hm

set_option maxRecDepth 100000 in
theorem lifted (os : Os) (started : os.Started) (H : Type) (enc : TypeId × Value → H) :
    ReturnsInHanded {} Try.checked os 3 .any (Rows.recordTellsSpec.pre6 enc Try.prog Try.f3 Rows.recordTellsRow.domain false) (Rows.recordTellsSpec.post enc Try.prog Try.f3 false true false false) :=
  law_handed (C := Try.checked) 4 own started (by kernel_rfl) Try.func3
    (ChangeSpec.witness6 (enc := enc) (C := Try.checked) false ⟨#[], #[.agg #[.int .u32 0, .int .u32 0, .int .u64 0, .int .u64 0, .int .u64 0, .int .u64 0, .int .u64 0, .int .u64 0, .int .u64 0], .slice none 0 0, .int .u32 0], []⟩ 8 (by kernel_rfl) (by kernel_rfl) (by kernel_rfl) (by kernel_rfl))
    laidOut rfl rfl rfl Try.underlying4
    (by kernel_rfl)
    (fun ds hd => by
      rw [Try.params3] at hd
      match ds, hd with
      | [_, _, _], _ => exact ⟨rfl, rfl, rfl⟩)
    walks

theorem over : Rows.recordTellsRow.holds Try.pinned (OpenSpec.ofChange Rows.recordTellsSpec) :=
  OpenClaim.holds_of_wide 3 Try.f3 rfl rfl rfl rfl rfl rfl rfl ⟨rfl, rfl, rfl, rfl, rfl⟩ rfl rfl rfl rfl rfl (by kernel_rfl) Try.func3 (by kernel_rfl)
    (of_decide_eq_true (by kernel_rfl)) (by unfold Func.isWrapper; first | (rw [if_pos (by decide +kernel)]; kernel_rfl) | (rw [if_neg (by decide +kernel)]; exact ⟨rfl, rfl⟩))
    (fun os started H enc _ => lifted os started H enc)

/-- The statement. -/
theorem proved : Rows.RecordTellsSaid := over
end Go.Proofs.Ythcmbfeifehilaa.recordTells
