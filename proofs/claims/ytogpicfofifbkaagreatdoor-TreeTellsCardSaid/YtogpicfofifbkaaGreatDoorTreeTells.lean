/- Proved: for every input TreeTells returns true, and each argument reads afterwards as it read before. No condition. -/
import Derived.Test.YtogpicfofifbkaaGreatDoorRows
import Derived.Test.YtogpicfofifbkaaGreatDoorPart1
import Derived.Test.YtogpicfofifbkaaGreatDoorOpenUnits
import Derived.Test.YtogpicfofifbkaaGreatDoorTrTells
import Derived.ChangeMaps5
import Derived.Test.YtogpicfofifbkaaGreatDoorPart11
import Derived.Test.YtogpicfofifbkaaGreatDoorTreeCodeS
import Derived.Test.YtogpicfofifbkaaGreatDoorCards
import Derived.Test.YtogpicfofifbkaaGreatDoorTie
import Derived.Test.YtogpicfofifbkaaGreatDoorFrameLaid
import Derived.Test.YtogpicfofifbkaaGreatDoorTreeLaid
import Derived.SevenTiedAt
namespace Go.Proofs.YtogpicfofifbkaaGreatDoor.treeTells
open Go.RowKit Go.ChangeShapes Go.WideShapes Go.ChangeAt

theorem own : ownKnob Tryz.prog.godebug = none := by kernel_rfl
theorem laidOut : laidOutB Tryz.prog = true := by kernel_rfl

set_option maxRecDepth 100000 in
theorem walks (R : TreeSays (fun _ => True)) (S : SameSays) : WalksAt Tryz.prog 3 Tryz.f3.params.toList fun W => laidMetH Tryz.prog laidList W ∧ W.ShapedOpen Tryz.prog := by
  intro H enc W base vs ds ps hX hval hA hsz
  have hL := laid_of hX.1 hX.2
  rw [Tryz.params3] at hA hval hsz
  obtain ⟨v0, vs0, d0, ds0, p0, q0, rfl, rfl, rfl, h0, r0⟩ := trodAll_cons hA
  obtain ⟨v1, vs1, d1, ds1, p1, q1, rfl, rfl, rfl, h1, r1⟩ := trodAll_cons r0
  obtain ⟨v2, vs2, d2, ds2, p2, q2, rfl, rfl, rfl, h2, r2⟩ := trodAll_cons r1
  obtain ⟨v3, vs3, d3, ds3, p3, q3, rfl, rfl, rfl, h3, r3⟩ := trodAll_cons r2
  obtain ⟨rfl, rfl, rfl⟩ := trodAll_nil r3
  obtain ⟨x0, rfl, rfl, rfl, _w0⟩ := Go.ChangeMaps.open_string Tryz.underlying9 (hval 0 9 v0 rfl rfl) h0
  obtain ⟨x1, rfl, w1⟩ := arg_ex (hval 1 25 v1 rfl rfl) h1
  obtain ⟨x2, rfl, w2⟩ := arg_unt (hval 2 32 v2 rfl rfl) h2
  obtain ⟨x3, rfl, w3⟩ := arg_unt (hval 3 32 v3 rfl rfl) h3
  exact ttells_any R S x0 x1 x2 x3 W hL w1 w2 w3

set_option maxRecDepth 100000 in
theorem lifted (R : TreeSays (fun _ => True)) (S : SameSays) (os : Os) (started : os.Started) (H : Type) (enc : TypeId × Value → H) (F : Stop.Interp) :
    ReturnsInHanded {} Tryz.checked os 3 .any ((OpenSpec.ofChange Rows.treeTellsSpec).preRow enc Tryz.prog Tryz.f3 [] false laidList) (((OpenSpec.ofChange Rows.treeTellsSpec).at F).post enc Tryz.prog Tryz.f3 false true false false) :=
  law_handed_laid (C := Tryz.checked) laidList 4 own started (by kernel_rfl) Tryz.func3
    (witness_row_at (enc := enc) (C := Tryz.checked) false (laidWorld os) #[.string ⟨#[]⟩, .agg #[.int .i64 0, .string ⟨#[]⟩, .string ⟨#[]⟩, .int .u64 0, .slice none 0 0], .agg #[.slice none 0 0, .slice none 0 0, .slice none 0 0, .int .i64 0, .int .i64 0], .agg #[.slice none 0 0, .slice none 0 0, .slice none 0 0, .int .i64 0, .int .i64 0]] rfl (by kernel_rfl) (by kernel_rfl) (by kernel_rfl) (OpenSpec.preRow_of_B rfl 8 (by kernel_rfl) (by kernel_rfl) (laidWorld_met os #[.string ⟨#[]⟩, .agg #[.int .i64 0, .string ⟨#[]⟩, .string ⟨#[]⟩, .int .u64 0, .slice none 0 0], .agg #[.slice none 0 0, .slice none 0 0, .slice none 0 0, .int .i64 0, .int .i64 0], .agg #[.slice none 0 0, .slice none 0 0, .slice none 0 0, .int .i64 0, .int .i64 0]])))
    laidOut rfl rfl rfl Tryz.underlying4
    (by kernel_rfl)
    (fun ds hd => by
      rw [Tryz.params3] at hd
      match ds, hd with
      | [_, _, _, _], _ => exact ⟨rfl, rfl, rfl⟩)
    (walks R S)

theorem over (R : TreeSays (fun _ => True)) (S : SameSays) : Rows.treeTellsRow.holds Tryz.pinned (OpenSpec.ofChange Rows.treeTellsSpec) :=
  OpenClaim.holds_of_cond 3 Tryz.f3 rfl rfl rfl rfl rfl rfl rfl ⟨rfl, rfl, rfl, rfl, rfl⟩ rfl rfl rfl rfl rfl (by kernel_rfl) Tryz.func3 (by kernel_rfl)
    (of_decide_eq_true (by kernel_rfl)) (by unfold Func.isWrapper; first | (rw [if_pos (by decide +kernel)]; kernel_rfl) | (rw [if_neg (by decide +kernel)]; exact ⟨rfl, rfl⟩))
    (fun os started H enc _ F => by rw [OpenClaim.pre_eq_preRow]; exact lifted R S os started H enc F)

theorem card_of (h : Rows.treeTellsRow.holds Tryz.pinned (OpenSpec.ofChange Rows.treeTellsSpec)) : Rows.TreeTellsCardSaid :=
  Claim7.holds_tied_plain_at .later [] _ true _ _ h (fun _ h => by cases h) (by kernel_rfl) (fun _ h => by cases h) treeTells_row_tie rfl ⟨rfl, rfl⟩ (by kernel_rfl) rfl
    (fun f fn hf hfn => by
      obtain rfl : f = 3 := Option.some.inj ((show Tryz.prog.funcNamed Rows.treeTellsRow.func = some 3 by kernel_rfl).symm.trans hf) |>.symm
      obtain rfl : fn = Tryz.f3 := (Option.some.inj (Tryz.func3.symm.trans hfn)).symm
      exact ⟨by kernel_rfl, fun j t ht => by
        have hall : (Tryz.f3.params.toList.all fun t => !Tryz.prog.wantsStandIn t) = true := by kernel_rfl
        have := List.all_eq_true.1 hall t (List.mem_of_getElem? (by simpa using ht))
        have h2 : Tryz.prog.wantsStandIn t = false := by simpa using this
        exact h2⟩)
    (by kernel_rfl)

/-- The statement. -/
theorem proved : Rows.TreeTellsCardSaid := card_of (over tree_says same_says)
end Go.Proofs.YtogpicfofifbkaaGreatDoor.treeTells
