/- Proved: for every input ListingJoin returns true, and each argument reads afterwards as it read before. No condition. -/
import Derived.Test.YtdcpdieejknliaaDoorRows
import Derived.Test.YtdcpdieejknliaaDoorFrame
import Derived.Test.YtdcpdieejknliaaDoorOpenIns
import Derived.Test.YtdcpdieejknliaaDoorListJoin
import Derived.Test.YtdcpdieejknliaaDoorListCode
import Derived.Test.YtdcpdieejknliaaDoorCards
import Derived.Test.YtdcpdieejknliaaDoorTie
import Derived.Test.YtdcpdieejknliaaDoorFrameLaid
import Derived.Test.YtdcpdieejknliaaDoorListLaid
import Derived.SevenTiedAt
namespace Go.Proofs.YtdcpdieejknliaaDoor.listingJoin
open Go.RowKit Go.ChangeShapes Go.WideShapes Go.ChangeAt

theorem own : ownKnob Tryd.prog.godebug = none := by kernel_rfl
theorem laidOut : laidOutB Tryd.prog = true := by kernel_rfl
theorem size_api_Instr : Tryd.prog.bytesOf 38 = 32 := by kernel_rfl

theorem walks (R : ListSays Laid) : WalksAt Tryd.prog 5 Tryd.f5.params.toList fun W => laidMetH Tryd.prog laidList W ∧ W.ShapedOpen Tryd.prog := by
  intro H enc W base vs ds ps hX hval hA hsz
  have hL := laid_of hX.1 hX.2
  rw [Tryd.params5] at hA hval hsz
  obtain ⟨v0, vs0, d0, ds0, p0, q0, rfl, rfl, rfl, h0, r0⟩ := trodAll_cons hA
  obtain ⟨v1, vs1, d1, ds1, p1, q1, rfl, rfl, rfl, h1, r1⟩ := trodAll_cons r0
  obtain ⟨rfl, rfl, rfl⟩ := trodAll_nil r1
  obtain ⟨A0, n0, c0, rfl⟩ := okWide_slice Tryd.underlying22 (hval 0 22 v0 rfl rfl)
  obtain ⟨f0, g0⟩ := h0
  obtain ⟨hnc0, s0, l0, hl0, ok0⟩ := open_instrs_ok g0
  have hb0 : n0 ≤ 140737488355328 := by
    rcases s0 with ⟨rfl, _⟩ | ⟨el, sp, hd', hle⟩
    · omega
    · have := sized_slice hsz (j := 0) (t := 22) (e := 38) (elems := el) (spare := sp) rfl (by simp only [List.getElem?_cons_zero]; exact congrArg some hd') Tryd.underlying22
      rw [size_api_Instr] at this
      simp only [reachBytes] at this
      omega
  obtain ⟨A1, n1, c1, rfl⟩ := okWide_slice Tryd.underlying22 (hval 1 22 v1 rfl rfl)
  obtain ⟨f1, g1⟩ := h1
  obtain ⟨hnc1, s1, l1, hl1, ok1⟩ := open_instrs_ok g1
  have hb1 : n1 ≤ 140737488355328 := by
    rcases s1 with ⟨rfl, _⟩ | ⟨el, sp, hd', hle⟩
    · omega
    · have := sized_slice hsz (j := 1) (t := 22) (e := 38) (elems := el) (spare := sp) rfl (by simp only [List.getElem?_cons_succ, List.getElem?_cons_zero]; exact congrArg some hd') Tryd.underlying22
      rw [size_api_Instr] at this
      simp only [reachBytes] at this
      omega
  exact ljoin_any R A0 n0 c0 l0 A1 n1 c1 l1 W hL hl0 hl1 ok0 ok1 hb0 hb1

set_option maxRecDepth 100000 in
theorem lifted (R : ListSays Laid) (os : Os) (started : os.Started) (H : Type) (enc : TypeId × Value → H) (F : Stop.Interp) :
    ReturnsInHanded {} Tryd.checked os 5 .any ((OpenSpec.ofChange Rows.listingJoinSpec).preRow enc Tryd.prog Tryd.f5 [] false laidList) (((OpenSpec.ofChange Rows.listingJoinSpec).at F).post enc Tryd.prog Tryd.f5 false true false false) :=
  law_handed_laid (C := Tryd.checked) laidList 4 own started (by kernel_rfl) Tryd.func5
    (witness_row_at (enc := enc) (C := Tryd.checked) false (laidWorld os) #[.slice none 0 0, .slice none 0 0] rfl (by kernel_rfl) (by kernel_rfl) (by kernel_rfl) (OpenSpec.preRow_of_B rfl 8 (by kernel_rfl) (by kernel_rfl) (laidWorld_met os #[.slice none 0 0, .slice none 0 0])))
    laidOut rfl rfl rfl Tryd.underlying4
    (by kernel_rfl)
    (fun ds hd => by
      rw [Tryd.params5] at hd
      match ds, hd with
      | [_, _], _ => exact ⟨rfl, rfl, rfl⟩)
    (walks R)

theorem over (R : ListSays Laid) : Rows.listingJoinRow.holds Tryd.pinned (OpenSpec.ofChange Rows.listingJoinSpec) :=
  OpenClaim.holds_of_cond 5 Tryd.f5 rfl rfl rfl rfl rfl rfl rfl ⟨rfl, rfl, rfl, rfl, rfl⟩ rfl rfl rfl rfl rfl (by kernel_rfl) Tryd.func5 (by kernel_rfl)
    (of_decide_eq_true (by kernel_rfl)) (by unfold Func.isWrapper; first | (rw [if_pos (by decide +kernel)]; kernel_rfl) | (rw [if_neg (by decide +kernel)]; exact ⟨rfl, rfl⟩))
    (fun os started H enc _ F => by rw [OpenClaim.pre_eq_preRow]; exact lifted R os started H enc F)

theorem card_of (h : Rows.listingJoinRow.holds Tryd.pinned (OpenSpec.ofChange Rows.listingJoinSpec)) : Rows.ListingJoinCardSaid :=
  Claim7.holds_tied_plain_at .later [] _ true _ true h (fun _ h => by cases h) (by kernel_rfl) (fun _ h => by cases h) listingJoin_row_tie rfl ⟨rfl, rfl⟩ (by kernel_rfl) rfl
    (fun f fn hf hfn => by
      obtain rfl : f = 5 := Option.some.inj ((show Tryd.prog.funcNamed Rows.listingJoinRow.func = some 5 by kernel_rfl).symm.trans hf) |>.symm
      obtain rfl : fn = Tryd.f5 := (Option.some.inj (Tryd.func5.symm.trans hfn)).symm
      exact ⟨by kernel_rfl, fun j t ht => by
        have hall : (Tryd.f5.params.toList.all fun t => !Tryd.prog.wantsStandIn t) = true := by kernel_rfl
        have := List.all_eq_true.1 hall t (List.mem_of_getElem? (by simpa using ht))
        have h2 : Tryd.prog.wantsStandIn t = false := by simpa using this
        exact h2⟩)
    (by kernel_rfl)

/-- The statement. -/
theorem proved : Rows.ListingJoinCardSaid := card_of (over list_says)
end Go.Proofs.YtdcpdieejknliaaDoor.listingJoin
