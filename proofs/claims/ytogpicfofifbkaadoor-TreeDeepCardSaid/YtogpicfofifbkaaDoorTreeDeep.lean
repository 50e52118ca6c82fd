/- Proved: for every input TreeDeep returns true, and each argument reads afterwards as it read before. No condition. -/
import Derived.Test.YtogpicfofifbkaaDoorRows
import Derived.Test.YtogpicfofifbkaaDoorFrame
import Derived.Test.YtogpicfofifbkaaDoorOpenInts
import Derived.Test.YtogpicfofifbkaaDoorTrDeep
import Derived.Test.YtogpicfofifbkaaDoorTreeCode
import Derived.Test.YtogpicfofifbkaaDoorCards
import Derived.Test.YtogpicfofifbkaaDoorTie
import Derived.Test.YtogpicfofifbkaaDoorFrameLaid
import Derived.Test.YtogpicfofifbkaaDoorTreDLaid
import Derived.SevenTiedAt
namespace Go.Proofs.YtogpicfofifbkaaDoor.treeDeep
open Go.RowKit Go.ChangeShapes Go.WideShapes Go.ChangeAt

theorem own : ownKnob Tryd.prog.godebug = none := by kernel_rfl
theorem laidOut : laidOutB Tryd.prog = true := by kernel_rfl

set_option maxRecDepth 100000 in
theorem walks (R : TreeSays (fun _ => True)) : WalksAt Tryd.prog 3 Tryd.f3.params.toList fun W => laidMetH Tryd.prog laidList W ∧ W.ShapedOpen Tryd.prog := by
  intro H enc W base vs ds ps hX hval hA hsz
  have hL := laid_of hX.1 hX.2
  rw [Tryd.params3] at hA hval hsz
  obtain ⟨v0, vs0, d0, ds0, p0, q0, rfl, rfl, rfl, h0, r0⟩ := trodAll_cons hA
  obtain ⟨v1, vs1, d1, ds1, p1, q1, rfl, rfl, rfl, h1, r1⟩ := trodAll_cons r0
  obtain ⟨rfl, rfl, rfl⟩ := trodAll_nil r1
  obtain ⟨x0, rfl, rfl, rfl, w0⟩ := open_int Tryd.underlying3 (hval 0 3 v0 rfl rfl) h0
  have w0 := wf_bd_i64 w0
  obtain ⟨x1, rfl, rfl, rfl⟩ := open_bool Tryd.underlying4 (hval 1 4 v1 rfl rfl) h1
  exact deep_any R x0 x1 W w0 hL

set_option maxRecDepth 100000 in
theorem lifted (R : TreeSays (fun _ => True)) (os : Os) (started : os.Started) (H : Type) (enc : TypeId × Value → H) (F : Stop.Interp) :
    ReturnsInHanded {} Tryd.checked os 3 .any ((OpenSpec.ofChange Rows.treeDeepSpec).preRow enc Tryd.prog Tryd.f3 [] false laidList) (((OpenSpec.ofChange Rows.treeDeepSpec).at F).post enc Tryd.prog Tryd.f3 false true false false) :=
  law_handed_laid (C := Tryd.checked) laidList 4 own started (by kernel_rfl) Tryd.func3
    (witness_row_at (enc := enc) (C := Tryd.checked) false (laidWorld os) #[.int .i64 0, .bool false] rfl (by kernel_rfl) (by kernel_rfl) (by kernel_rfl) (OpenSpec.preRow_of_B rfl 8 (by kernel_rfl) (by kernel_rfl) (laidWorld_met os #[.int .i64 0, .bool false])))
    laidOut rfl rfl rfl Tryd.underlying4
    (by kernel_rfl)
    (fun ds hd => by
      rw [Tryd.params3] at hd
      match ds, hd with
      | [_, _], _ => exact ⟨rfl, rfl, rfl⟩)
    (walks R)

theorem over (R : TreeSays (fun _ => True)) : Rows.treeDeepRow.holds Tryd.pinned (OpenSpec.ofChange Rows.treeDeepSpec) :=
  OpenClaim.holds_of_cond 3 Tryd.f3 rfl rfl rfl rfl rfl rfl rfl ⟨rfl, rfl, rfl, rfl, rfl⟩ rfl rfl rfl rfl rfl (by kernel_rfl) Tryd.func3 (by kernel_rfl)
    (of_decide_eq_true (by kernel_rfl)) (by unfold Func.isWrapper; first | (rw [if_pos (by decide +kernel)]; kernel_rfl) | (rw [if_neg (by decide +kernel)]; exact ⟨rfl, rfl⟩))
    (fun os started H enc _ F => by rw [OpenClaim.pre_eq_preRow]; exact lifted R os started H enc F)

theorem card_of (h : Rows.treeDeepRow.holds Tryd.pinned (OpenSpec.ofChange Rows.treeDeepSpec)) : Rows.TreeDeepCardSaid :=
  Claim7.holds_tied_plain_at .later [] _ true _ _ h (fun _ h => by cases h) (by kernel_rfl) (fun _ h => by cases h) treeDeep_row_tie rfl ⟨rfl, rfl⟩ (by kernel_rfl) rfl
    (fun f fn hf hfn => by
      obtain rfl : f = 3 := Option.some.inj ((show Tryd.prog.funcNamed Rows.treeDeepRow.func = some 3 by kernel_rfl).symm.trans hf) |>.symm
      obtain rfl : fn = Tryd.f3 := (Option.some.inj (Tryd.func3.symm.trans hfn)).symm
      exact ⟨by kernel_rfl, fun j t ht => by
        have hall : (Tryd.f3.params.toList.all fun t => !Tryd.prog.wantsStandIn t) = true := by kernel_rfl
        have := List.all_eq_true.1 hall t (List.mem_of_getElem? (by simpa using ht))
        have h2 : Tryd.prog.wantsStandIn t = false := by simpa using this
        exact h2⟩)
    (by kernel_rfl)

/-- The statement. -/
theorem proved : Rows.TreeDeepCardSaid := card_of (over tree_says)
end Go.Proofs.YtogpicfofifbkaaDoor.treeDeep
