/- Proved: for every input InstrJoin returns true, and each argument reads afterwards as it read before. No condition. -/
import Derived.Test.YtdlhadmafcgaiaaRows
import Derived.Test.YtdlhadmafcgaiaaJoin
import Derived.Test.YtdlhadmafcgaiaaOpen
namespace Go.Proofs.Ytdlhadmafcgaiaa.instrJoin
open Go.RowKit Go.ChangeShapes Go.WideShapes Go.ChangeAt

theorem own : ownKnob Try.prog.godebug = none := by kernel_rfl
theorem laidOut : laidOutB Try.prog = true := by kernel_rfl
theorem size_ins : Try.prog.bytesOf 36 = 32 := by kernel_rfl

theorem walks : Walks Try.prog 5 Try.f5.params.toList := by
  intro H enc W base vs ds ps hval hA hsz
  rw [Try.params5] at hA hval hsz
  obtain ⟨v0, vs0, d0, ds0, p0, q0, rfl, rfl, rfl, h0, r0⟩ := trodAll_cons hA
  obtain ⟨v1, vs1, d1, ds1, p1, q1, rfl, rfl, rfl, h1, r1⟩ := trodAll_cons r0
  obtain ⟨rfl, rfl, rfl⟩ := trodAll_nil r1
  obtain ⟨A, n, c, rfl⟩ := okWide_slice Try.underlying22 (hval 0 22 v0 rfl rfl)
  obtain ⟨B, m, d, rfl⟩ := okWide_slice Try.underlying22 (hval 1 22 v1 rfl rfl)
  obtain ⟨f0, g0⟩ := h0
  obtain ⟨f1, g1⟩ := h1
  obtain ⟨_, s0, l, hl, hk⟩ := open_instrs g0
  obtain ⟨_, s1, l', hl', hk'⟩ := open_instrs g1
  have hn : n ≤ 4398046511104 := by
    rcases s0 with ⟨rfl, _⟩ | ⟨el, sp, hd, hle⟩
    · omega
    · have := sized_slice hsz (j := 0) (t := 22) (e := 36) (elems := el) (spare := sp) rfl (by simp only [List.getElem?_cons_zero]; exact congrArg some hd) Try.underlying22
      rw [size_ins] at this
      simp only [reachBytes] at this
      omega
  have hm : m ≤ 4398046511104 := by
    rcases s1 with ⟨rfl, _⟩ | ⟨el, sp, hd, hle⟩
    · omega
    · have := sized_slice hsz (j := 1) (t := 22) (e := 36) (elems := el) (spare := sp) rfl (by simp only [List.getElem?_cons_succ, List.getElem?_cons_zero]; exact congrArg some hd) Try.underlying22
      rw [size_ins] at this
      simp only [reachBytes] at this
      omega
  obtain rfl : n = l.length := by have := hl.1; rw [cells_len] at this; omega
  obtain rfl : m = l'.length := by have := hl'.1; rw [cells_len] at this; omega
  by_cases a0 : l.length ≤ 100
  rotate_left
  · exact join_out A B c d l l' W hl hl' hn hm (.inl (by omega))
  by_cases a1 : l'.length ≤ 100
  rotate_left
  · exact join_out A B c d l l' W hl hl' hn hm (.inr (.inl ⟨a0, by omega⟩))
  by_cases a2 : (bytesOf l).length = 8 * l.length
  rotate_left
  · exact join_out A B c d l l' W hl hl' hn hm (.inr (.inr (.inl ⟨a0, a1, by rw [bne_iff_ne]; omega⟩)))
  by_cases a3 : (bytesOf l').length = 8 * l'.length
  rotate_left
  · exact join_out A B c d l l' W hl hl' hn hm (.inr (.inr (.inr ⟨a0, a1, by rw [bne_eq_false_iff_eq]; omega, by rw [bne_iff_ne]; omega⟩)))
  exact join_in A B c d l l' W hl hl' a0 a1 (fun y hy => (List.mem_append.1 hy).elim (hk y) (hk' y)) a2 a3

set_option maxRecDepth 100000 in
theorem lifted (os : Os) (started : os.Started) (H : Type) (enc : TypeId × Value → H) :
    ReturnsInHanded {} Try.checked os 5 .any (Rows.instrJoinSpec.pre6 enc Try.prog Try.f5 Rows.instrJoinRow.domain false) (Rows.instrJoinSpec.post enc Try.prog Try.f5 false true false false) :=
  law_handed (C := Try.checked) 4 own started (by kernel_rfl) Try.func5
    (ChangeSpec.witness6 (enc := enc) (C := Try.checked) false ⟨#[], #[.slice none 0 0, .slice none 0 0], []⟩ 8 (by kernel_rfl) (by kernel_rfl) (by kernel_rfl) (by kernel_rfl))
    laidOut rfl rfl rfl Try.underlying4
    (by kernel_rfl)
    (fun ds hd => by
      rw [Try.params5] at hd
      match ds, hd with
      | [_, _], _ => exact ⟨rfl, rfl, rfl⟩)
    walks

theorem over : Rows.instrJoinRow.holds Try.pinned (OpenSpec.ofChange Rows.instrJoinSpec) :=
  OpenClaim.holds_of_wide 5 Try.f5 rfl rfl rfl rfl rfl rfl rfl ⟨rfl, rfl, rfl, rfl, rfl⟩ rfl rfl rfl rfl rfl (by kernel_rfl) Try.func5 (by kernel_rfl)
    (of_decide_eq_true (by kernel_rfl)) (by unfold Func.isWrapper; first | (rw [if_pos (by decide +kernel)]; kernel_rfl) | (rw [if_neg (by decide +kernel)]; exact ⟨rfl, rfl⟩))
    (fun os started H enc _ => lifted os started H enc)

/-- The statement. -/
theorem proved : Rows.InstrJoinSaid := over
end Go.Proofs.Ytdlhadmafcgaiaa.instrJoin
