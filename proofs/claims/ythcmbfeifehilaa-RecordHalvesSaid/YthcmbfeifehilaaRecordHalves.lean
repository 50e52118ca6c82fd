/- Proved: for every input RecordHalves returns true, and each argument reads afterwards as it read before. No condition. -/
import Derived.Test.YthcmbfeifehilaaRows
import Derived.Test.YthcmbfeifehilaaOpenDat
import Derived.Test.YthcmbfeifehilaaHalves
import Derived.Test.YthcmbfeifehilaaRecCode
namespace Go.Proofs.Ythcmbfeifehilaa.recordHalves
open Go.RowKit Go.ChangeShapes Go.WideShapes Go.ChangeAt

theorem own : ownKnob Try.prog.godebug = none := by kernel_rfl
theorem laidOut : laidOutB Try.prog = true := by kernel_rfl

theorem walks : Walks Try.prog 4 Try.f4.params.toList := by
  intro H enc W base vs ds ps hval hA _
  rw [Try.params4] at hA hval
  obtain ⟨v0, vs0, d0, ds0, p0, q0, rfl, rfl, rfl, h0, r0⟩ := trodAll_cons hA
  obtain ⟨v1, vs1, d1, ds1, p1, q1, rfl, rfl, rfl, h1, r1⟩ := trodAll_cons r0
  obtain ⟨rfl, rfl, rfl⟩ := trodAll_nil r1
  obtain ⟨d, rfl, hd⟩ := open_dat (hval 0 26 v0 rfl rfl) h0
  obtain ⟨i, rfl, rfl, rfl, _⟩ := open_int Try.underlying3 (hval 1 3 v1 rfl rfl) h1
  by_cases hin : 0 ≤ i ∧ i < 6
  · obtain ⟨n, rfl⟩ := Int.eq_ofNat_of_zero_le hin.1
    exact halves_in rec_says d n W hd (by omega)
  · exact halves_out rec_says d i W (by omega)

set_option maxRecDepth 100000 in
theorem lifted (os : Os) (started : os.Started) (H : Type) (enc : TypeId × Value → H) :
    ReturnsInHanded {} Try.checked os 4 .any (Rows.recordHalvesSpec.pre6 enc Try.prog Try.f4 Rows.recordHalvesRow.domain false) (Rows.recordHalvesSpec.post enc Try.prog Try.f4 false true false false) :=
  law_handed (C := Try.checked) 4 own started (by kernel_rfl) Try.func4
    (ChangeSpec.witness6 (enc := enc) (C := Try.checked) false ⟨#[], #[.agg #[.int .u32 0, .int .u32 0, .int .u64 0, .int .u64 0, .int .u64 0, .int .u64 0, .int .u64 0, .int .u64 0, .int .u64 0], .int .i64 0], []⟩ 8 (by kernel_rfl) (by kernel_rfl) (by kernel_rfl) (by kernel_rfl))
    laidOut rfl rfl rfl Try.underlying4
    (by kernel_rfl)
    (fun ds hd => by
      rw [Try.params4] at hd
      match ds, hd with
      | [_, _], _ => exact ⟨rfl, rfl, rfl⟩)
    walks

theorem over : Rows.recordHalvesRow.holds Try.pinned (OpenSpec.ofChange Rows.recordHalvesSpec) :=
  OpenClaim.holds_of_wide 4 Try.f4 rfl rfl rfl rfl rfl rfl rfl ⟨rfl, rfl, rfl, rfl, rfl⟩ rfl rfl rfl rfl rfl (by kernel_rfl) Try.func4 (by kernel_rfl)
    (of_decide_eq_true (by kernel_rfl)) (by unfold Func.isWrapper; first | (rw [if_pos (by decide +kernel)]; kernel_rfl) | (rw [if_neg (by decide +kernel)]; exact ⟨rfl, rfl⟩))
    (fun os started H enc _ => lifted os started H enc)

/-- The statement. -/
theorem proved : Rows.RecordHalvesSaid := over
end Go.Proofs.Ythcmbfeifehilaa.recordHalves
