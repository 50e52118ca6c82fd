/- Proved: for every input InstrTells returns true, and each argument reads afterwards as it read before. No condition. -/
import Derived.Test.YtdlhadmafcgaiaaRows
import Derived.Test.YtdlhadmafcgaiaaTells
import Derived.Test.YtdlhadmafcgaiaaOpen
namespace Go.Proofs.Ytdlhadmafcgaiaa.instrTells
open Go.RowKit Go.ChangeShapes Go.WideShapes Go.ChangeAt

set_option maxRecDepth 100000 in
set_option maxHeartbeats 4000000 in
theorem tells_out (A B : Option Addr) (n m c d : Nat) (w : World) (h : 200 < n ∨ (n ≤ 200 ∧ 1000 < m)) (hn : n ≤ 140737488355328) (hm : m ≤ 140737488355328) :
    Calls Try.prog 3 #[.slice A n c, .slice B m d] w fun r w' => r = .returned (.bool true) ∧ Below w.heap.size w w' := by
  rcases h with h | ⟨h, h'⟩
  all_goals
    go_enter Try.func3, Try.ntmps3
    go_wp2_with fail
    refine (alive_any _).mono ?_
    rintro r w1 ⟨rfl, hb1⟩
    go_wp2
    go_ret
    exact ⟨rfl, hb1⟩

theorem own : ownKnob Try.prog.godebug = none := by kernel_rfl
theorem laidOut : laidOutB Try.prog = true := by kernel_rfl
theorem size_ins : Try.prog.bytesOf 36 = 32 := by kernel_rfl
theorem size_byte : Try.prog.bytesOf 5 = 1 := by kernel_rfl

theorem walks : Walks Try.prog 3 Try.f3.params.toList := by
  intro H enc W base vs ds ps hval hA hsz
  rw [Try.params3] at hA hval hsz
  obtain ⟨v0, vs0, d0, ds0, p0, q0, rfl, rfl, rfl, h0, r0⟩ := trodAll_cons hA
  obtain ⟨v1, vs1, d1, ds1, p1, q1, rfl, rfl, rfl, h1, r1⟩ := trodAll_cons r0
  obtain ⟨rfl, rfl, rfl⟩ := trodAll_nil r1
  obtain ⟨A, n, c, rfl⟩ := okWide_slice Try.underlying22 (hval 0 22 v0 rfl rfl)
  obtain ⟨B, m, d, rfl⟩ := okWide_slice Try.underlying23 (hval 1 23 v1 rfl rfl)
  obtain ⟨f0, g0⟩ := h0
  obtain ⟨f1, g1⟩ := h1
  obtain ⟨_, s0, l, hl, hk⟩ := open_instrs g0
  obtain ⟨_, s1, b, hb⟩ := open_bytes g1
  have hn : n ≤ 140737488355328 := by
    rcases s0 with ⟨rfl, _⟩ | ⟨el, sp, hd, hle⟩
    · omega
    · have := sized_slice hsz (j := 0) (t := 22) (e := 36) (elems := el) (spare := sp) rfl (by simp only [List.getElem?_cons_zero]; exact congrArg some hd) Try.underlying22
      rw [size_ins] at this
      simp only [reachBytes] at this
      omega
  have hm : m ≤ 140737488355328 := by
    rcases s1 with ⟨rfl, _⟩ | ⟨el, sp, hd, hle⟩
    · omega
    · have := sized_slice hsz (j := 1) (t := 23) (e := 5) (elems := el) (spare := sp) rfl (by simp only [List.getElem?_cons_succ, List.getElem?_cons_zero]; exact congrArg some hd) Try.underlying23
      rw [size_byte] at this
      simp only [reachBytes] at this
      omega
  by_cases hin : n ≤ 200 ∧ m ≤ 1000
  · exact tells_in A B n m c d l b W hl hb hin.1 hin.2 hk
  · exact tells_out A B n m c d W (by omega) hn hm

set_option maxRecDepth 100000 in
theorem lifted (os : Os) (started : os.Started) (H : Type) (enc : TypeId × Value → H) :
    ReturnsInHanded {} Try.checked os 3 .any (Rows.instrTellsSpec.pre6 enc Try.prog Try.f3 Rows.instrTellsRow.domain false) (Rows.instrTellsSpec.post enc Try.prog Try.f3 false true false false) :=
  law_handed (C := Try.checked) 4 own started (by kernel_rfl) Try.func3
    (ChangeSpec.witness6 (enc := enc) (C := Try.checked) false ⟨#[], #[.slice none 0 0, .slice none 0 0], []⟩ 8 (by kernel_rfl) (by kernel_rfl) (by kernel_rfl) (by kernel_rfl))
    laidOut rfl rfl rfl Try.underlying4
    (by kernel_rfl)
    (fun ds hd => by
      rw [Try.params3] at hd
      match ds, hd with
      | [_, _], _ => exact ⟨rfl, rfl, rfl⟩)
    walks

theorem over : Rows.instrTellsRow.holds Try.pinned (OpenSpec.ofChange Rows.instrTellsSpec) :=
  OpenClaim.holds_of_wide 3 Try.f3 rfl rfl rfl rfl rfl rfl rfl ⟨rfl, rfl, rfl, rfl, rfl⟩ rfl rfl rfl rfl rfl (by kernel_rfl) Try.func3 (by kernel_rfl)
    (of_decide_eq_true (by kernel_rfl)) (by unfold Func.isWrapper; first | (rw [if_pos (by decide +kernel)]; kernel_rfl) | (rw [if_neg (by decide +kernel)]; exact ⟨rfl, rfl⟩))
    (fun os started H enc _ => lifted os started H enc)

/-- The statement. -/
theorem proved : Rows.InstrTellsSaid := over
end Go.Proofs.Ytdlhadmafcgaiaa.instrTells
