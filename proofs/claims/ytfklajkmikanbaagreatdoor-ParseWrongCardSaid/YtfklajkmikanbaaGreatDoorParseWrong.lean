/- Proved: for every input ParseWrong returns true, and each argument reads afterwards as it read before. No condition. -/
import Derived.Test.YtfklajkmikanbaaGreatDoorRows
import Derived.Test.YtfklajkmikanbaaGreatDoorPart1
import Derived.Test.YtfklajkmikanbaaGreatDoorParWr
import Derived.Test.YtfklajkmikanbaaGreatDoorCards
import Derived.Test.YtfklajkmikanbaaGreatDoorTie
import Derived.Test.YtfklajkmikanbaaGreatDoorFrameLaid
import Derived.Test.YtfklajkmikanbaaGreatDoorParLaid
import Derived.SevenTiedAt
namespace Go.Proofs.YtfklajkmikanbaaGreatDoor.parseWrong
open Go.RowKit Go.ChangeShapes Go.WideShapes Go.ChangeAt

theorem own : ownKnob Tryz.prog.godebug = none := by kernel_rfl
theorem laidOut : laidOutB Tryz.prog = true := by kernel_rfl

set_option maxRecDepth 100000 in
theorem walks : WalksAt Tryz.prog 4 Tryz.f4.params.toList fun W => laidMetH Tryz.prog laidList W ∧ W.ShapedOpen Tryz.prog := by
  intro H enc W base vs ds ps hX hval hA hsz
  have hL := laid_of hX.1 hX.2
  rw [Tryz.params4] at hA hval hsz
  obtain ⟨v0, vs0, d0, ds0, p0, q0, rfl, rfl, rfl, h0, r0⟩ := trodAll_cons hA
  obtain ⟨rfl, rfl, rfl⟩ := trodAll_nil r0
  obtain ⟨x0, rfl, rfl, rfl, w0⟩ := open_int Tryz.underlying3 (hval 0 3 v0 rfl rfl) h0
  have w0 := wf_bd_i64 w0
  exact LandedP.pwrong_any x0 W hL

set_option maxRecDepth 100000 in
theorem lifted (os : Os) (started : os.Started) (H : Type) (enc : TypeId × Value → H) (F : Stop.Interp) :
    ReturnsInHanded {} Tryz.checked os 4 .any ((OpenSpec.ofChange Rows.parseWrongSpec).preRow enc Tryz.prog Tryz.f4 [] false laidList) (((OpenSpec.ofChange Rows.parseWrongSpec).at F).post enc Tryz.prog Tryz.f4 false true false false) :=
  law_handed_laid (C := Tryz.checked) laidList 4 own started (by kernel_rfl) Tryz.func4
    (witness_row_at (enc := enc) (C := Tryz.checked) false (laidWorld os) #[.int .i64 0] rfl (by kernel_rfl) (by kernel_rfl) (by kernel_rfl) (OpenSpec.preRow_of_B rfl 8 (by kernel_rfl) (by kernel_rfl) (laidWorld_met os #[.int .i64 0])))
    laidOut rfl rfl rfl Tryz.underlying4
    (by kernel_rfl)
    (fun ds hd => by
      rw [Tryz.params4] at hd
      match ds, hd with
      | [_], _ => exact ⟨rfl, rfl, rfl⟩)
    walks

theorem over : Rows.parseWrongRow.holds Tryz.pinned (OpenSpec.ofChange Rows.parseWrongSpec) :=
  OpenClaim.holds_of_cond 4 Tryz.f4 rfl rfl rfl rfl rfl rfl rfl ⟨rfl, rfl, rfl, rfl, rfl⟩ rfl rfl rfl rfl rfl (by kernel_rfl) Tryz.func4 (by kernel_rfl)
    (of_decide_eq_true (by kernel_rfl)) (by unfold Func.isWrapper; first | (rw [if_pos (by decide +kernel)]; kernel_rfl) | (rw [if_neg (by decide +kernel)]; exact ⟨rfl, rfl⟩))
    (fun os started H enc _ F => by rw [OpenClaim.pre_eq_preRow]; exact lifted os started H enc F)

theorem card_of (h : Rows.parseWrongRow.holds Tryz.pinned (OpenSpec.ofChange Rows.parseWrongSpec)) : Rows.ParseWrongCardSaid :=
  Claim7.holds_tied_plain_at .later [] _ true _ _ h (fun _ h => by cases h) (by kernel_rfl) (fun _ h => by cases h) parseWrong_row_tie rfl ⟨rfl, rfl⟩ (by kernel_rfl) rfl
    (fun f fn hf hfn => by
      obtain rfl : f = 4 := Option.some.inj ((show Tryz.prog.funcNamed Rows.parseWrongRow.func = some 4 by kernel_rfl).symm.trans hf) |>.symm
      obtain rfl : fn = Tryz.f4 := (Option.some.inj (Tryz.func4.symm.trans hfn)).symm
      exact ⟨by kernel_rfl, fun j t ht => by
        have hall : (Tryz.f4.params.toList.all fun t => !Tryz.prog.wantsStandIn t) = true := by kernel_rfl
        have := List.all_eq_true.1 hall t (List.mem_of_getElem? (by simpa using ht))
        have h2 : Tryz.prog.wantsStandIn t = false := by simpa using this
        exact h2⟩)
    (by kernel_rfl)

/-- The statement. -/
theorem proved : Rows.ParseWrongCardSaid := card_of (over)
end Go.Proofs.YtfklajkmikanbaaGreatDoor.parseWrong
