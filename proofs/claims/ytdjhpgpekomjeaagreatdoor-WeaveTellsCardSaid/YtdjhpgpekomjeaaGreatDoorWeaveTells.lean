/- Proved: for every input WeaveTells returns true, and each argument reads afterwards as it read before. No condition. -/
import Derived.Test.YtdjhpgpekomjeaaGreatDoorRows
import Derived.Test.YtdjhpgpekomjeaaGreatDoorPart1
import Derived.Test.YtdjhpgpekomjeaaGreatDoorPart3
import Derived.Test.YtdjhpgpekomjeaaGreatDoorWvTells
import Derived.ChangeMaps5
import Derived.Test.YtdjhpgpekomjeaaGreatDoorWeaveCode
import Derived.Test.YtdjhpgpekomjeaaGreatDoorCards
import Derived.Test.YtdjhpgpekomjeaaGreatDoorTie
import Derived.Test.YtdjhpgpekomjeaaGreatDoorFrameLaid
import Derived.Test.YtdjhpgpekomjeaaGreatDoorWvLaid
import Derived.SevenTiedAt
namespace Go.Proofs.YtdjhpgpekomjeaaGreatDoor.weaveTells
open Go.RowKit Go.ChangeShapes Go.WideShapes Go.ChangeAt

theorem own : ownKnob Tryz.prog.godebug = none := by kernel_rfl
theorem laidOut : laidOutB Tryz.prog = true := by kernel_rfl
theorem size_api_File : Tryz.prog.bytesOf 36 = 32 := by kernel_rfl

set_option maxRecDepth 100000 in
theorem walks (R : WeaveSays Laid) : WalksAt Tryz.prog 3 Tryz.f3.params.toList fun W => laidMetH Tryz.prog laidList W ∧ W.ShapedOpen Tryz.prog := by
  intro H enc W base vs ds ps hX hval hA hsz
  have hL := laid_of hX.1 hX.2
  rw [Tryz.params3] at hA hval hsz
  obtain ⟨v0, vs0, d0, ds0, p0, q0, rfl, rfl, rfl, h0, r0⟩ := trodAll_cons hA
  obtain ⟨v1, vs1, d1, ds1, p1, q1, rfl, rfl, rfl, h1, r1⟩ := trodAll_cons r0
  obtain ⟨rfl, rfl, rfl⟩ := trodAll_nil r1
  obtain ⟨A0, n0, c0, rfl⟩ := okWide_slice Tryz.underlying22 (hval 0 22 v0 rfl rfl)
  obtain ⟨f0, g0⟩ := h0
  obtain ⟨hnc0, s0, l0, hl0, ok0⟩ := open_files g0
  have hb0 : n0 ≤ 140737488355328 := by
    rcases s0 with ⟨rfl, _⟩ | ⟨el, sp, hd', hle⟩
    · omega
    · have := sized_slice hsz (j := 0) (t := 22) (e := 36) (elems := el) (spare := sp) rfl (by simp only [List.getElem?_cons_zero]; exact congrArg some hd') Tryz.underlying22
      rw [size_api_File] at this
      simp only [reachBytes] at this
      omega
  obtain ⟨x1, rfl, rfl, rfl, _w1⟩ := Go.ChangeMaps.open_string Tryz.underlying9 (hval 1 9 v1 rfl rfl) h1
  exact wtells_any R A0 n0 c0 l0 x1 W hL hl0 hb0

set_option maxRecDepth 100000 in
theorem lifted (R : WeaveSays Laid) (os : Os) (started : os.Started) (H : Type) (enc : TypeId × Value → H) (F : Stop.Interp) :
    ReturnsInHanded {} Tryz.checked os 3 .any ((OpenSpec.ofChange Rows.weaveTellsSpec).preRow enc Tryz.prog Tryz.f3 [] false laidList) (((OpenSpec.ofChange Rows.weaveTellsSpec).at F).post enc Tryz.prog Tryz.f3 false true false false) :=
  law_handed_laid (C := Tryz.checked) laidList 4 own started (by kernel_rfl) Tryz.func3
    (witness_row_at (enc := enc) (C := Tryz.checked) false (laidWorld os) #[.slice none 0 0, .string ⟨#[]⟩] rfl (by kernel_rfl) (by kernel_rfl) (by kernel_rfl) (OpenSpec.preRow_of_B rfl 8 (by kernel_rfl) (by kernel_rfl) (laidWorld_met os #[.slice none 0 0, .string ⟨#[]⟩])))
    laidOut rfl rfl rfl Tryz.underlying4
    (by kernel_rfl)
    (fun ds hd => by
      rw [Tryz.params3] at hd
      match ds, hd with
      | [_, _], _ => exact ⟨rfl, rfl, rfl⟩)
    (walks R)

theorem over (R : WeaveSays Laid) : Rows.weaveTellsRow.holds Tryz.pinned (OpenSpec.ofChange Rows.weaveTellsSpec) :=
  OpenClaim.holds_of_cond 3 Tryz.f3 rfl rfl rfl rfl rfl rfl rfl ⟨rfl, rfl, rfl, rfl, rfl⟩ rfl rfl rfl rfl rfl (by kernel_rfl) Tryz.func3 (by kernel_rfl)
    (of_decide_eq_true (by kernel_rfl)) (by unfold Func.isWrapper; first | (rw [if_pos (by decide +kernel)]; kernel_rfl) | (rw [if_neg (by decide +kernel)]; exact ⟨rfl, rfl⟩))
    (fun os started H enc _ F => by rw [OpenClaim.pre_eq_preRow]; exact lifted R os started H enc F)

theorem card_of (h : Rows.weaveTellsRow.holds Tryz.pinned (OpenSpec.ofChange Rows.weaveTellsSpec)) : Rows.WeaveTellsCardSaid :=
  Claim7.holds_tied_plain_at .later [] _ true _ _ h (fun _ h => by cases h) (by kernel_rfl) (fun _ h => by cases h) weaveTells_row_tie rfl ⟨rfl, rfl⟩ (by kernel_rfl) rfl
    (fun f fn hf hfn => by
      obtain rfl : f = 3 := Option.some.inj ((show Tryz.prog.funcNamed Rows.weaveTellsRow.func = some 3 by kernel_rfl).symm.trans hf) |>.symm
      obtain rfl : fn = Tryz.f3 := (Option.some.inj (Tryz.func3.symm.trans hfn)).symm
      exact ⟨by kernel_rfl, fun j t ht => by
        have hall : (Tryz.f3.params.toList.all fun t => !Tryz.prog.wantsStandIn t) = true := by kernel_rfl
        have := List.all_eq_true.1 hall t (List.mem_of_getElem? (by simpa using ht))
        have h2 : Tryz.prog.wantsStandIn t = false := by simpa using this
        exact h2⟩)
    (by kernel_rfl)

/-- The statement. -/
theorem proved : Rows.WeaveTellsCardSaid := card_of (over weave_says)
end Go.Proofs.YtdjhpgpekomjeaaGreatDoor.weaveTells
