/- Proved: for every input FilesTell returns true, and each argument reads afterwards as it read before. No condition. -/
import Derived.Test.YtgcdmcdolpdjdaaDoorRows
import Derived.Test.YtgcdmcdolpdjdaaDoorFrame
import Derived.Test.YtgcdmcdolpdjdaaDoorOpenFiles
import Derived.Test.YtgcdmcdolpdjdaaDoorFileFace
import Derived.ChangeMaps5
import Derived.Test.YtgcdmcdolpdjdaaDoorFileCode
import Derived.Test.YtgcdmcdolpdjdaaDoorCards
import Derived.Test.YtgcdmcdolpdjdaaDoorTie
import Derived.Test.YtgcdmcdolpdjdaaDoorFrameLaid
import Derived.Test.YtgcdmcdolpdjdaaDoorFileLaid
import Derived.SevenTiedAt
namespace Go.Proofs.YtgcdmcdolpdjdaaDoor.filesTell
open Go.RowKit Go.ChangeShapes Go.WideShapes Go.ChangeAt

theorem own : ownKnob Tryd.prog.godebug = none := by kernel_rfl
theorem laidOut : laidOutB Tryd.prog = true := by kernel_rfl
theorem size_api_File : Tryd.prog.bytesOf 25 = 32 := by kernel_rfl

theorem walks (R : FileSays) : WalksAt Tryd.prog 3 Tryd.f3.params.toList fun W => laidMetH Tryd.prog laidList W ∧ W.ShapedOpen Tryd.prog := by
  intro H enc W base vs ds ps hX hval hA hsz
  have hL := laid_of hX.1 hX.2
  rw [Tryd.params3] at hA hval hsz
  obtain ⟨v0, vs0, d0, ds0, p0, q0, rfl, rfl, rfl, h0, r0⟩ := trodAll_cons hA
  obtain ⟨v1, vs1, d1, ds1, p1, q1, rfl, rfl, rfl, h1, r1⟩ := trodAll_cons r0
  obtain ⟨v2, vs2, d2, ds2, p2, q2, rfl, rfl, rfl, h2, r2⟩ := trodAll_cons r1
  obtain ⟨rfl, rfl, rfl⟩ := trodAll_nil r2
  obtain ⟨A0, n0, c0, rfl⟩ := okWide_slice Tryd.underlying22 (hval 0 22 v0 rfl rfl)
  obtain ⟨f0, g0⟩ := h0
  obtain ⟨hnc0, s0, l0, hl0, ok0⟩ := open_files g0
  have hb0 : n0 ≤ 140737488355328 := by
    rcases s0 with ⟨rfl, _⟩ | ⟨el, sp, hd', hle⟩
    · omega
    · have := sized_slice hsz (j := 0) (t := 22) (e := 25) (elems := el) (spare := sp) rfl (by simp only [List.getElem?_cons_zero]; exact congrArg some hd') Tryd.underlying22
      rw [size_api_File] at this
      simp only [reachBytes] at this
      omega
  obtain ⟨x1, rfl, rfl, rfl, _w1⟩ := Go.ChangeMaps.open_string Tryd.underlying9 (hval 1 9 v1 rfl rfl) h1
  obtain ⟨x2, rfl, rfl, rfl, _w2⟩ := Go.ChangeMaps.open_string Tryd.underlying9 (hval 2 9 v2 rfl rfl) h2
  exact ftells_any R A0 n0 c0 l0 x1 x2 W hl0 hnc0

set_option maxRecDepth 100000 in
theorem lifted (R : FileSays) (os : Os) (started : os.Started) (H : Type) (enc : TypeId × Value → H) (F : Stop.Interp) :
    ReturnsInHanded {} Tryd.checked os 3 .any ((OpenSpec.ofChange Rows.filesTellSpec).preRow enc Tryd.prog Tryd.f3 [] false laidList) (((OpenSpec.ofChange Rows.filesTellSpec).at F).post enc Tryd.prog Tryd.f3 false true false false) :=
  law_handed_laid (C := Tryd.checked) laidList 4 own started (by kernel_rfl) Tryd.func3
    (witness_row_at (enc := enc) (C := Tryd.checked) false (laidWorld os) #[.slice none 0 0, .string ⟨#[]⟩, .string ⟨#[]⟩] rfl (by kernel_rfl) (by kernel_rfl) (by kernel_rfl) (OpenSpec.preRow_of_B rfl 8 (by kernel_rfl) (by kernel_rfl) (laidWorld_met os #[.slice none 0 0, .string ⟨#[]⟩, .string ⟨#[]⟩])))
    laidOut rfl rfl rfl Tryd.underlying4
    (by kernel_rfl)
    (fun ds hd => by
      rw [Tryd.params3] at hd
      match ds, hd with
      | [_, _, _], _ => exact ⟨rfl, rfl, rfl⟩)
    (walks R)

theorem over (R : FileSays) : Rows.filesTellRow.holds Tryd.pinned (OpenSpec.ofChange Rows.filesTellSpec) :=
  OpenClaim.holds_of_cond 3 Tryd.f3 rfl rfl rfl rfl rfl rfl rfl ⟨rfl, rfl, rfl, rfl, rfl⟩ rfl rfl rfl rfl rfl (by kernel_rfl) Tryd.func3 (by kernel_rfl)
    (of_decide_eq_true (by kernel_rfl)) (by unfold Func.isWrapper; first | (rw [if_pos (by decide +kernel)]; kernel_rfl) | (rw [if_neg (by decide +kernel)]; exact ⟨rfl, rfl⟩))
    (fun os started H enc _ F => by rw [OpenClaim.pre_eq_preRow]; exact lifted R os started H enc F)

theorem card_of (h : Rows.filesTellRow.holds Tryd.pinned (OpenSpec.ofChange Rows.filesTellSpec)) : Rows.FilesTellCardSaid :=
  Claim7.holds_tied_plain_at .later [] _ true _ _ h (fun _ h => by cases h) (by kernel_rfl) (fun _ h => by cases h) filesTell_row_tie rfl ⟨rfl, rfl⟩ (by kernel_rfl) rfl
    (fun f fn hf hfn => by
      obtain rfl : f = 3 := Option.some.inj ((show Tryd.prog.funcNamed Rows.filesTellRow.func = some 3 by kernel_rfl).symm.trans hf) |>.symm
      obtain rfl : fn = Tryd.f3 := (Option.some.inj (Tryd.func3.symm.trans hfn)).symm
      exact ⟨by kernel_rfl, fun j t ht => by
        have hall : (Tryd.f3.params.toList.all fun t => !Tryd.prog.wantsStandIn t) = true := by kernel_rfl
        have := List.all_eq_true.1 hall t (List.mem_of_getElem? (by simpa using ht))
        have h2 : Tryd.prog.wantsStandIn t = false := by simpa using this
        exact h2⟩)
    (by kernel_rfl)

/-- The statement. -/
theorem proved : Rows.FilesTellCardSaid := card_of (over file_says)
end Go.Proofs.YtgcdmcdolpdjdaaDoor.filesTell
