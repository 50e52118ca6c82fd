/- Proved: for every input TokenBlank returns true, and each argument reads afterwards as it read before. No condition. -/
import Derived.Test.YtgabeacpgmomhaaDoorRows
import Derived.Test.YtgabeacpgmomhaaDoorFrame
import Derived.Test.YtgabeacpgmomhaaDoorOpenInts
import Derived.Test.YtgabeacpgmomhaaDoorTokAgain
import Derived.ChangeMaps5
import Derived.Test.YtgabeacpgmomhaaDoorTokCode
import Derived.Test.YtgabeacpgmomhaaDoorCards
import Derived.Test.YtgabeacpgmomhaaDoorTie
import Derived.Test.YtgabeacpgmomhaaDoorFrameLaid
import Derived.Test.YtgabeacpgmomhaaDoorTokLaid
import Derived.SevenTiedAt
namespace Go.Proofs.YtgabeacpgmomhaaDoor.tokenBlank
open Go.RowKit Go.ChangeShapes Go.WideShapes Go.ChangeAt

theorem own : ownKnob Tryd.prog.godebug = none := by kernel_rfl
theorem laidOut : laidOutB Tryd.prog = true := by kernel_rfl
theorem size_int : Tryd.prog.bytesOf 3 = 8 := by kernel_rfl

set_option maxRecDepth 100000 in
theorem walks (R : TokSays Laid) : WalksAt Tryd.prog 4 Tryd.f4.params.toList fun W => laidMetH Tryd.prog laidList W ∧ W.ShapedOpen Tryd.prog := by
  intro H enc W base vs ds ps hX hval hA hsz
  have hL := laid_of hX.1 hX.2
  rw [Tryd.params4] at hA hval hsz
  obtain ⟨v0, vs0, d0, ds0, p0, q0, rfl, rfl, rfl, h0, r0⟩ := trodAll_cons hA
  obtain ⟨v1, vs1, d1, ds1, p1, q1, rfl, rfl, rfl, h1, r1⟩ := trodAll_cons r0
  obtain ⟨rfl, rfl, rfl⟩ := trodAll_nil r1
  obtain ⟨x0, rfl, rfl, rfl, _w0⟩ := Go.ChangeMaps.open_string Tryd.underlying9 (hval 0 9 v0 rfl rfl) h0
  obtain ⟨A1, n1, c1, rfl⟩ := okWide_slice Tryd.underlying32 (hval 1 32 v1 rfl rfl)
  obtain ⟨f1, g1⟩ := h1
  obtain ⟨hnc1, s1, l1, hl1, ok1⟩ := open_ints (k := .i64) Tryd.underlying32 Tryd.underlying3 (by kernel_rfl) g1
  have ok1 := fun y hy => wf_bd_i64 (ok1 y hy)
  have hb1 : n1 ≤ 140737488355328 := by
    rcases s1 with ⟨rfl, _⟩ | ⟨el, sp, hd', hle⟩
    · omega
    · have := sized_slice hsz (j := 1) (t := 32) (e := 3) (elems := el) (spare := sp) rfl (by simp only [List.getElem?_cons_succ, List.getElem?_cons_zero]; exact congrArg some hd') Tryd.underlying32
      rw [size_int] at this
      simp only [reachBytes] at this
      omega
  exact tblank_any R x0 A1 n1 c1 l1 W hL hl1

set_option maxRecDepth 100000 in
theorem lifted (R : TokSays Laid) (os : Os) (started : os.Started) (H : Type) (enc : TypeId × Value → H) (F : Stop.Interp) :
    ReturnsInHanded {} Tryd.checked os 4 .any ((OpenSpec.ofChange Rows.tokenBlankSpec).preRow enc Tryd.prog Tryd.f4 [] false laidList) (((OpenSpec.ofChange Rows.tokenBlankSpec).at F).post enc Tryd.prog Tryd.f4 false true false false) :=
  law_handed_laid (C := Tryd.checked) laidList 4 own started (by kernel_rfl) Tryd.func4
    (witness_row_at (enc := enc) (C := Tryd.checked) false (laidWorld os) #[.string ⟨#[]⟩, .slice none 0 0] rfl (by kernel_rfl) (by kernel_rfl) (by kernel_rfl) (OpenSpec.preRow_of_B rfl 8 (by kernel_rfl) (by kernel_rfl) (laidWorld_met os #[.string ⟨#[]⟩, .slice none 0 0])))
    laidOut rfl rfl rfl Tryd.underlying4
    (by kernel_rfl)
    (fun ds hd => by
      rw [Tryd.params4] at hd
      match ds, hd with
      | [_, _], _ => exact ⟨rfl, rfl, rfl⟩)
    (walks R)

theorem over (R : TokSays Laid) : Rows.tokenBlankRow.holds Tryd.pinned (OpenSpec.ofChange Rows.tokenBlankSpec) :=
  OpenClaim.holds_of_cond 4 Tryd.f4 rfl rfl rfl rfl rfl rfl rfl ⟨rfl, rfl, rfl, rfl, rfl⟩ rfl rfl rfl rfl rfl (by kernel_rfl) Tryd.func4 (by kernel_rfl)
    (of_decide_eq_true (by kernel_rfl)) (by unfold Func.isWrapper; first | (rw [if_pos (by decide +kernel)]; kernel_rfl) | (rw [if_neg (by decide +kernel)]; exact ⟨rfl, rfl⟩))
    (fun os started H enc _ F => by rw [OpenClaim.pre_eq_preRow]; exact lifted R os started H enc F)

theorem card_of (h : Rows.tokenBlankRow.holds Tryd.pinned (OpenSpec.ofChange Rows.tokenBlankSpec)) : Rows.TokenBlankCardSaid :=
  Claim7.holds_tied_plain_at .later [] _ true _ _ h (fun _ h => by cases h) (by kernel_rfl) (fun _ h => by cases h) tokenBlank_row_tie rfl ⟨rfl, rfl⟩ (by kernel_rfl) rfl
    (fun f fn hf hfn => by
      obtain rfl : f = 4 := Option.some.inj ((show Tryd.prog.funcNamed Rows.tokenBlankRow.func = some 4 by kernel_rfl).symm.trans hf) |>.symm
      obtain rfl : fn = Tryd.f4 := (Option.some.inj (Tryd.func4.symm.trans hfn)).symm
      exact ⟨by kernel_rfl, fun j t ht => by
        have hall : (Tryd.f4.params.toList.all fun t => !Tryd.prog.wantsStandIn t) = true := by kernel_rfl
        have := List.all_eq_true.1 hall t (List.mem_of_getElem? (by simpa using ht))
        have h2 : Tryd.prog.wantsStandIn t = false := by simpa using this
        exact h2⟩)
    (by kernel_rfl)

/-- The statement. -/
theorem proved : Rows.TokenBlankCardSaid := card_of (over tok_says)
end Go.Proofs.YtgabeacpgmomhaaDoor.tokenBlank
