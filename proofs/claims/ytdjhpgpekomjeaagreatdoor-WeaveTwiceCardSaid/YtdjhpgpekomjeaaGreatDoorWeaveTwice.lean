/- Proved: for every input WeaveTwice returns true, and each argument reads afterwards as it read before. No condition. -/
import Derived.Test.YtdjhpgpekomjeaaGreatDoorRows
import Derived.Test.YtdjhpgpekomjeaaGreatDoorPart1
import Derived.Test.YtdjhpgpekomjeaaGreatDoorPart17
import Derived.Test.YtdjhpgpekomjeaaGreatDoorWvTwice
import Derived.ChangeMaps5
import Derived.Test.YtdjhpgpekomjeaaGreatDoorWeaveCode
import Derived.Test.YtdjhpgpekomjeaaGreatDoorCards
import Derived.Test.YtdjhpgpekomjeaaGreatDoorTie
import Derived.Test.YtdjhpgpekomjeaaGreatDoorFrameLaid
import Derived.Test.YtdjhpgpekomjeaaGreatDoorWvLaid
import Derived.SevenTiedAt
namespace Go.Proofs.YtdjhpgpekomjeaaGreatDoor.weaveTwice
open Go.RowKit Go.ChangeShapes Go.WideShapes Go.ChangeAt

theorem own : ownKnob Tryz.prog.godebug = none := by kernel_rfl
theorem laidOut : laidOutB Tryz.prog = true := by kernel_rfl

set_option maxRecDepth 100000 in
theorem walks (R : WeaveSays Laid) : WalksAt Tryz.prog 5 Tryz.f5.params.toList fun W => laidMetH Tryz.prog laidList W ∧ W.ShapedOpen Tryz.prog := by
  intro H enc W base vs ds ps hX hval hA hsz
  have hL := laid_of hX.1 hX.2
  rw [Tryz.params5] at hA hval hsz
  obtain ⟨v0, vs0, d0, ds0, p0, q0, rfl, rfl, rfl, h0, r0⟩ := trodAll_cons hA
  obtain ⟨v1, vs1, d1, ds1, p1, q1, rfl, rfl, rfl, h1, r1⟩ := trodAll_cons r0
  obtain ⟨rfl, rfl, rfl⟩ := trodAll_nil r1
  obtain ⟨x0, rfl, rfl, rfl, _w0⟩ := Go.ChangeMaps.open_string Tryz.underlying9 (hval 0 9 v0 rfl rfl) h0
  obtain ⟨x1, rfl, rfl, rfl, w1⟩ := open_int Tryz.underlying3 (hval 1 3 v1 rfl rfl) h1
  have w1 := wf_bd_i64 w1
  exact wtwice_any R x0 x1 W hL

set_option maxRecDepth 100000 in
theorem lifted (R : WeaveSays Laid) (os : Os) (started : os.Started) (H : Type) (enc : TypeId × Value → H) (F : Stop.Interp) :
    ReturnsInHanded {} Tryz.checked os 5 .any ((OpenSpec.ofChange Rows.weaveTwiceSpec).preRow enc Tryz.prog Tryz.f5 [] false laidList) (((OpenSpec.ofChange Rows.weaveTwiceSpec).at F).post enc Tryz.prog Tryz.f5 false true false false) :=
  law_handed_laid (C := Tryz.checked) laidList 4 own started (by kernel_rfl) Tryz.func5
    (witness_row_at (enc := enc) (C := Tryz.checked) false (laidWorld os) #[.string ⟨#[]⟩, .int .i64 0] rfl (by kernel_rfl) (by kernel_rfl) (by kernel_rfl) (OpenSpec.preRow_of_B rfl 8 (by kernel_rfl) (by kernel_rfl) (laidWorld_met os #[.string ⟨#[]⟩, .int .i64 0])))
    laidOut rfl rfl rfl Tryz.underlying4
    (by kernel_rfl)
    (fun ds hd => by
      rw [Tryz.params5] at hd
      match ds, hd with
      | [_, _], _ => exact ⟨rfl, rfl, rfl⟩)
    (walks R)

theorem over (R : WeaveSays Laid) : Rows.weaveTwiceRow.holds Tryz.pinned (OpenSpec.ofChange Rows.weaveTwiceSpec) :=
  OpenClaim.holds_of_cond 5 Tryz.f5 rfl rfl rfl rfl rfl rfl rfl ⟨rfl, rfl, rfl, rfl, rfl⟩ rfl rfl rfl rfl rfl (by kernel_rfl) Tryz.func5 (by kernel_rfl)
    (of_decide_eq_true (by kernel_rfl)) (by unfold Func.isWrapper; first | (rw [if_pos (by decide +kernel)]; kernel_rfl) | (rw [if_neg (by decide +kernel)]; exact ⟨rfl, rfl⟩))
    (fun os started H enc _ F => by rw [OpenClaim.pre_eq_preRow]; exact lifted R os started H enc F)

theorem card_of (h : Rows.weaveTwiceRow.holds Tryz.pinned (OpenSpec.ofChange Rows.weaveTwiceSpec)) : Rows.WeaveTwiceCardSaid :=
  Claim7.holds_tied_plain_at .later [] _ true _ _ h (fun _ h => by cases h) (by kernel_rfl) (fun _ h => by cases h) weaveTwice_row_tie rfl ⟨rfl, rfl⟩ (by kernel_rfl) rfl
    (fun f fn hf hfn => by
      obtain rfl : f = 5 := Option.some.inj ((show Tryz.prog.funcNamed Rows.weaveTwiceRow.func = some 5 by kernel_rfl).symm.trans hf) |>.symm
      obtain rfl : fn = Tryz.f5 := (Option.some.inj (Tryz.func5.symm.trans hfn)).symm
      exact ⟨by kernel_rfl, fun j t ht => by
        have hall : (Tryz.f5.params.toList.all fun t => !Tryz.prog.wantsStandIn t) = true := by kernel_rfl
        have := List.all_eq_true.1 hall t (List.mem_of_getElem? (by simpa using ht))
        have h2 : Tryz.prog.wantsStandIn t = false := by simpa using this
        exact h2⟩)
    (by kernel_rfl)

/-- The statement. -/
theorem proved : Rows.WeaveTwiceCardSaid := card_of (over weave_says)
end Go.Proofs.YtdjhpgpekomjeaaGreatDoor.weaveTwice
