/- Proved: for every input CallsValues returns true, and each argument reads afterwards as it read before. No condition. -/
import Derived.Test.YtbibliakakjkiaaDoorRows
import Derived.Test.YtbibliakakjkiaaDoorFrame
import Derived.Test.YtbibliakakjkiaaDoorOpenAct
import Derived.Test.YtbibliakakjkiaaDoorCallTells
import Derived.Test.YtbibliakakjkiaaDoorCallCode
import Derived.Test.YtbibliakakjkiaaDoorCards
import Derived.Test.YtbibliakakjkiaaDoorTie
import Derived.Test.YtbibliakakjkiaaDoorFrameLaid
import Derived.Test.YtbibliakakjkiaaDoorCallLaid
import Derived.SevenTiedAt
import Derived.Deep.DeepWitnessRowRef
namespace Go.Proofs.YtbibliakakjkiaaDoor.callsValues
open Go.RowKit Go.ChangeShapes Go.WideShapes Go.ChangeAt

theorem own : ownKnob Tryd.prog.godebug = none := by kernel_rfl
theorem laidOut : laidOutB Tryd.prog = true := by kernel_rfl

theorem walks (R : CallSays Laid) : WalksAt Tryd.prog 5 Tryd.f5.params.toList fun W => laidMetH Tryd.prog laidList W ∧ W.ShapedOpen Tryd.prog := by
  intro H enc W base vs ds ps hX hval hA hsz
  have hL := laid_of hX.1 hX.2
  rw [Tryd.params5] at hA hval hsz
  obtain ⟨v0, vs0, d0, ds0, p0, q0, rfl, rfl, rfl, h0, r0⟩ := trodAll_cons hA
  obtain ⟨v1, vs1, d1, ds1, p1, q1, rfl, rfl, rfl, h1, r1⟩ := trodAll_cons r0
  obtain ⟨rfl, rfl, rfl⟩ := trodAll_nil r1
  obtain ⟨x0, y0, rfl, w0, u0⟩ := open_act (hval 0 23 v0 rfl rfl) h0
  obtain ⟨x1, y1, rfl, w1, u1⟩ := open_act (hval 1 23 v1 rfl rfl) h1
  exact kvalues_any R x0 y0 x1 y1 W hL w0 u0 w1 u1

set_option maxRecDepth 100000 in
theorem lifted (R : CallSays Laid) (os : Os) (started : os.Started) (H : Type) (enc : TypeId × Value → H) (F : Stop.Interp) :
    ReturnsInHanded {} Tryd.checked os 5 .any ((OpenSpec.ofChange Rows.callsValuesSpec).preRow enc Tryd.prog Tryd.f5 [] false laidList) (((OpenSpec.ofChange Rows.callsValuesSpec).at F).post enc Tryd.prog Tryd.f5 false true false false) :=
  law_handed_laid (C := Tryd.checked) laidList 4 own started (by kernel_rfl) Tryd.func5
    (witness_row_atRef (enc := enc) (C := Tryd.checked) false (laidWorld os) #[.agg #[.int .i64 0, .int .i64 0], .agg #[.int .i64 0, .int .i64 0]] rfl (by kernel_rfl) (by kernel_rfl) (by kernel_rfl) (OpenSpec.preRow_of_B rfl 8 (by kernel_rfl) (by kernel_rfl) (laidWorld_met os #[.agg #[.int .i64 0, .int .i64 0], .agg #[.int .i64 0, .int .i64 0]])))
    laidOut rfl rfl rfl Tryd.underlying4
    (by kernel_rfl)
    (fun ds hd => by
      rw [Tryd.params5] at hd
      match ds, hd with
      | [_, _], _ => exact ⟨rfl, rfl, rfl⟩)
    (walks R)

theorem over (R : CallSays Laid) : Rows.callsValuesRow.holds Tryd.pinned (OpenSpec.ofChange Rows.callsValuesSpec) :=
  OpenClaim.holds_of_cond 5 Tryd.f5 rfl rfl rfl rfl rfl rfl rfl ⟨rfl, rfl, rfl, rfl, rfl⟩ rfl rfl rfl rfl rfl (by kernel_rfl) Tryd.func5 (by kernel_rfl)
    (of_decide_eq_true (by kernel_rfl)) (by unfold Func.isWrapper; first | (rw [if_pos (by decide +kernel)]; kernel_rfl) | (rw [if_neg (by decide +kernel)]; exact ⟨rfl, rfl⟩))
    (fun os started H enc _ F => by rw [OpenClaim.pre_eq_preRow]; exact lifted R os started H enc F)

theorem card_of (h : Rows.callsValuesRow.holds Tryd.pinned (OpenSpec.ofChange Rows.callsValuesSpec)) : Rows.CallsValuesCardSaid :=
  Claim7.holds_tied_plain_at .later [] _ true _ _ h (fun _ h => by cases h) (by kernel_rfl) (fun _ h => by cases h) callsValues_row_tie rfl ⟨rfl, rfl⟩ (by kernel_rfl) rfl
    (fun f fn hf hfn => by
      obtain rfl : f = 5 := Option.some.inj ((show Tryd.prog.funcNamed Rows.callsValuesRow.func = some 5 by kernel_rfl).symm.trans hf) |>.symm
      obtain rfl : fn = Tryd.f5 := (Option.some.inj (Tryd.func5.symm.trans hfn)).symm
      exact ⟨by kernel_rfl, fun j t ht => by
        have hall : (Tryd.f5.params.toList.all fun t => !Tryd.prog.wantsStandIn t) = true := by kernel_rfl
        have := List.all_eq_true.1 hall t (List.mem_of_getElem? (by simpa using ht))
        have h2 : Tryd.prog.wantsStandIn t = false := by simpa using this
        exact h2⟩)
    (by kernel_rfl)

/-- The statement. -/
theorem proved : Rows.CallsValuesCardSaid := card_of (over call_says)
end Go.Proofs.YtbibliakakjkiaaDoor.callsValues
