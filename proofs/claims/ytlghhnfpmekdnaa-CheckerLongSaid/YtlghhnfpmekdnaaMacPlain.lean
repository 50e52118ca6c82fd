/- What one step of the landed machine gives: an instruction that neither jumps nor ends; a jump. -/
import Derived.Test.YtlghhnfpmekdnaaMacStep
namespace Go.Proofs.Ytlghhnfpmekdnaa.Landed
open Go.RowKit

theorem after_on {g : Nat} {d : Dat} {s : Mac} {p r : Int} {w : World} {e : Ending} {w' : World} (h : Stood g (.int .i64 0) ⟨d, s, p, r⟩ w e w') : After g d (s, true, false) p r w e w' :=
  ⟨h.2.2, .inr (.inl ⟨rfl, rfl, h.1, h.2.1⟩)⟩
theorem after_fault {g : Nat} {d : Dat} {s : Mac} {t : St} {p r : Int} {w : World} {e : Ending} {w' : World} (h : Stood g (.int .i64 2) t w e w') : After g d (s, false, false) p r w e w' :=
  ⟨h.2.2, .inr (.inr ⟨rfl, rfl, h.1⟩)⟩
theorem after_end {g : Nat} {d : Dat} {s u : Mac} {p r : Int} {w : World} {e : Ending} {w' : World} (hu : u.Ok) (h : Stood g (.int .i64 1) ⟨d, u, p, 0⟩ w e w') : After g d (s, false, true) p r w e w' :=
  ⟨h.2.2, .inl ⟨rfl, h.1, u, hu, h.2.1⟩⟩

/-- Out of reckon's contract to step's. -/
theorem other_stood {g : Nat} {w : World} {o : Int} {t2 : St} {q : Mac × Bool × Bool} {d : Dat} {p r : Int} {w1 : World}
    (hq : ∀ (w0 : World) (e : Ending) (w2 : World), Stood g (.int .i64 o) t2 w0 e w2 → After g d q p r w0 e w2) :
    ∀ (e : Ending) (w2 : World), Stood g (.int .i64 o) t2 w1 e w2 → (∃ o : Int, e = .returned (.int .i64 o)) ∧ (w.grownBy w1 (some g) → After g d q p r w e w2) := by
  intro e w2 h
  exact ⟨⟨o, h.1⟩, fun hg => hq w e w2 ⟨h.1, h.2.1, only_trans hg h.2.2⟩⟩

theorem step_alu (g : Nat) (t : St) (c jt jf k : Int) (w : World) (hs : t.s.Ok) (hb : Box w g 52 t.vals) (p0 : 0 ≤ t.p) (p1 : t.p ≤ 4398046511104) (k0 : 0 ≤ k) (k1 : k ≤ 4294967295) (hc : isAlu c = true) :
    Calls Try.prog 23 #[.pointer (some ⟨g, 0, none⟩), .agg #[.int .i64 c, .int .i64 jt, .int .i64 jf, .int .u32 k]] w (After g t.d (plainOf t.s c k t.d) (t.p + 1) t.r w) := by
  have hn : stepCodes.contains c = false := by
    rcases alu_mem hc with rfl | rfl | rfl | rfl | rfl | rfl | rfl | rfl | rfl | rfl | rfl | rfl | rfl | rfl | rfl | rfl | rfl | rfl <;> decide
  refine step_other g t c jt jf k w hs hb p0 p1 hn _ fun w1 hw1 => ?_
  by_cases hz : c = 52 ∨ c = 60
  · rcases hz with rfl | rfl
    · have ho : operandOf 52 k t.s.x = k := operand_alu 52 k t.s.x hc
      by_cases h0 : k = 0
      · have e : plainOf t.s 52 k t.d = (t.s, false, false) := by simp [plainOf, isAlu, aluCodes, other, h0]
        rw [e]
        exact (reckon_52z g (St.mk t.d t.s (t.p + 1) t.r) jt jf k w1 hs hw1 (ho.trans h0)).mono (other_stood fun _ _ _ h => after_fault h)
      · have e : plainOf t.s 52 k t.d = ({ t.s with a := t.s.a / k }, true, false) := by simp [plainOf, isAlu, aluCodes, other, aluOf, h0]
        rw [e]
        exact (reckon_52 g (St.mk t.d t.s (t.p + 1) t.r) jt jf k k w1 hs hw1 ho (by omega) k1).mono (other_stood fun _ _ _ h => after_on h)
    · have ho : operandOf 60 k t.s.x = t.s.x := operand_alu 60 k t.s.x hc
      have x0 := hs.x0
      by_cases h0 : t.s.x = 0
      · have e : plainOf t.s 60 k t.d = (t.s, false, true) := by simp [plainOf, isAlu, aluCodes, other, h0]
        rw [e]
        exact (reckon_60z g (St.mk t.d t.s (t.p + 1) t.r) jt jf k w1 hs hw1 (ho.trans h0)).mono (other_stood fun _ _ _ h => after_end hs h)
      · have e : plainOf t.s 60 k t.d = ({ t.s with a := t.s.a / t.s.x }, true, false) := by simp [plainOf, isAlu, aluCodes, other, aluOf, h0]
        rw [e]
        exact (reckon_60 g (St.mk t.d t.s (t.p + 1) t.r) jt jf k t.s.x w1 hs hw1 ho (by omega) hs.x1).mono (other_stood fun _ _ _ h => after_on h)
  · have e : plainOf t.s c k t.d = ({ t.s with a := aluOf c t.s.a (other t.s c k) }, true, false) := by
      unfold plainOf
      rw [if_pos hc, if_neg (fun h => hz h.1)]
    rw [e]
    exact (reckon_alu g (St.mk t.d t.s (t.p + 1) t.r) c jt jf k w1 hs hw1 k0 k1 hc hz).mono (other_stood fun _ _ _ h => after_on h)

theorem step_plain (g : Nat) (t : St) (c jt jf k : Int) (w : World) (hd : t.d.Ok) (hs : t.s.Ok) (hb : Box w g 52 t.vals) (p0 : 0 ≤ t.p) (p1 : t.p ≤ 4398046511104) (k0 : 0 ≤ k) (k1 : k ≤ 4294967295)
    (h6 : ¬ c = 6) (h22 : ¬ c = 22) (h5 : ¬ c = 5) (hj : isJump c = false) :
    Calls Try.prog 23 #[.pointer (some ⟨g, 0, none⟩), .agg #[.int .i64 c, .int .i64 jt, .int .i64 jf, .int .u32 k]] w (After g t.d (plainOf t.s c k t.d) (t.p + 1) t.r w) := by
  by_cases ha : isAlu c = true
  · exact step_alu g t c jt jf k w hs hb p0 p1 k0 k1 ha
  · have hf : isAlu c = false := by simpa using ha
    by_cases hp : plainCodes.contains c = true
    · have hm : c = 0 ∨ c = 1 ∨ c = 128 ∨ c = 129 ∨ c = 132 ∨ c = 7 ∨ c = 135 ∨ c = 32 ∨ c = 2 ∨ c = 3 ∨ c = 96 ∨ c = 97 := by simpa [plainCodes] using hp
      have cell : (c = 2 ∨ c = 3 ∨ c = 96 ∨ c = 97) → Calls Try.prog 23 #[.pointer (some ⟨g, 0, none⟩), .agg #[.int .i64 c, .int .i64 jt, .int .i64 jf, .int .u32 k]] w (After g t.d (plainOf t.s c k t.d) (t.p + 1) t.r w) := by
        intro hc
        by_cases h16 : 16 ≤ k
        · have e : plainOf t.s c k t.d = (t.s, false, false) := by
            rcases hc with rfl | rfl | rfl | rfl <;> simp [plainOf, isAlu, aluCodes, h16]
          rw [e]
          rcases hc with rfl | rfl | rfl | rfl
          · exact (step_cell_2 g t jt jf k w hs hb p0 p1 _ _ fun w1 hw1 => cell_far g _ 2 jt jf k w1 hw1 h16).mono fun _ _ h => after_fault h
          · exact (step_cell_3 g t jt jf k w hs hb p0 p1 _ _ fun w1 hw1 => cell_far g _ 3 jt jf k w1 hw1 h16).mono fun _ _ h => after_fault h
          · exact (step_cell_96 g t jt jf k w hs hb p0 p1 _ _ fun w1 hw1 => cell_far g _ 96 jt jf k w1 hw1 h16).mono fun _ _ h => after_fault h
          · exact (step_cell_97 g t jt jf k w hs hb p0 p1 _ _ fun w1 hw1 => cell_far g _ 97 jt jf k w1 hw1 h16).mono fun _ _ h => after_fault h
        · obtain ⟨n, rfl⟩ := Int.eq_ofNat_of_zero_le k0
          have hn : n < 16 := by omega
          rcases hc with rfl | rfl | rfl | rfl
          · rw [show plainOf t.s 2 n t.d = ({ t.s with cells := t.s.cells.set n t.s.a }, true, false) by simp [plainOf, isAlu, aluCodes, h16]]
            exact (step_cell_2 g t jt jf n w hs hb p0 p1 _ _ fun w1 hw1 => cell_st g (St.mk t.d t.s (t.p + 1) t.r) jt jf n w1 hs hw1 hn).mono fun _ _ h => after_on h
          · rw [show plainOf t.s 3 n t.d = ({ t.s with cells := t.s.cells.set n t.s.x }, true, false) by simp [plainOf, isAlu, aluCodes, h16]]
            exact (step_cell_3 g t jt jf n w hs hb p0 p1 _ _ fun w1 hw1 => cell_stx g (St.mk t.d t.s (t.p + 1) t.r) jt jf n w1 hs hw1 hn).mono fun _ _ h => after_on h
          · rw [show plainOf t.s 96 n t.d = ({ t.s with a := t.s.cells.getD n 0 }, true, false) by simp [plainOf, isAlu, aluCodes, h16]]
            exact (step_cell_96 g t jt jf n w hs hb p0 p1 _ _ fun w1 hw1 => cell_ldmem g (St.mk t.d t.s (t.p + 1) t.r) jt jf n w1 hs hw1 hn).mono fun _ _ h => after_on h
          · rw [show plainOf t.s 97 n t.d = ({ t.s with x := t.s.cells.getD n 0 }, true, false) by simp [plainOf, isAlu, aluCodes, h16]]
            exact (step_cell_97 g t jt jf n w hs hb p0 p1 _ _ fun w1 hw1 => cell_ldxmem g (St.mk t.d t.s (t.p + 1) t.r) jt jf n w1 hs hw1 hn).mono fun _ _ h => after_on h
      rcases hm with rfl | rfl | rfl | rfl | rfl | rfl | rfl | rfl | h
      · exact (step_0 g t jt jf k w hs hb p0 p1).mono fun _ _ h => after_on h
      · exact (step_1 g t jt jf k w hs hb p0 p1).mono fun _ _ h => after_on h
      · exact (step_128 g t jt jf k w hs hb p0 p1).mono fun _ _ h => after_on h
      · exact (step_129 g t jt jf k w hs hb p0 p1).mono fun _ _ h => after_on h
      · exact step_other g t 132 jt jf k w hs hb p0 p1 (by decide) _ fun w1 hw1 => (reckon_132 g (St.mk t.d t.s (t.p + 1) t.r) jt jf k _ w1 hs hw1 rfl).mono (other_stood fun _ _ _ h => after_on h)
      · exact (step_7 g t jt jf k w hs hb p0 p1).mono fun _ _ h => after_on h
      · exact (step_135 g t jt jf k w hs hb p0 p1).mono fun _ _ h => after_on h
      · by_cases hk : okOff k = true
        · rw [show plainOf t.s 32 k t.d = ({ t.s with a := wordOf t.d k }, true, false) by simp [plainOf, isAlu, aluCodes, hk]]
          exact (step_ldabs g t jt jf k w hs hb p0 p1 hd k0 k1 hk).mono fun _ _ h => after_on h
        · have hk' : okOff k = false := by simpa using hk
          rw [show plainOf t.s 32 k t.d = ({ t.s with a := wordOf t.d k }, false, false) by simp [plainOf, isAlu, aluCodes, hk']]
          exact (step_ldabs_not g t jt jf k w hs hb p0 p1 hd k0 k1 hk').mono fun _ _ h => after_fault h
      · exact cell h
    · have hq : plainCodes.contains c = false := by simpa using hp
      have hq' := hq
      simp [plainCodes] at hq'
      have e : plainOf t.s c k t.d = (t.s, false, false) := by
        simp [plainOf, hf, hq']
      have hn : stepCodes.contains c = false := by
        have hj' := hj
        simp [isJump, jumpCodes] at hj'
        simp [stepCodes, hq', hj', h6, h22, h5]
      rw [e]
      exact step_other g t c jt jf k w hs hb p0 p1 hn _ fun w1 hw1 => (reckon_none g (St.mk t.d t.s (t.p + 1) t.r) c jt jf k _ w1 hs hw1 rfl hf (by rw [beq_eq_false_iff_ne]; exact hq'.2.2.2.2.1)).mono (other_stood fun _ _ _ h => after_fault h)

/-- A conditional jump. -/
theorem step_jump (g : Nat) (t : St) (c jt jf k J : Int) (w : World) (hs : t.s.Ok) (hb : Box w g 52 t.vals) (p0 : 0 ≤ t.p) (p1 : t.p ≤ 4398046511104) (hc : isJump c = true) (hJ : (if jumpOf c t.s.a (other t.s c k) then jt else jf) = J) :
    Calls Try.prog 23 #[.pointer (some ⟨g, 0, none⟩), .agg #[.int .i64 c, .int .i64 jt, .int .i64 jf, .int .u32 k]] w (Stood g (.int .i64 0) ⟨t.d, t.s, wrap64 (t.p + 1 + J), t.r⟩ w) := by
  rcases jump_mem hc with rfl | rfl | rfl | rfl | rfl | rfl | rfl | rfl
  · exact step_jump_21 g t jt jf k w hs hb p0 p1 J hJ
  · exact step_jump_29 g t jt jf k w hs hb p0 p1 J hJ
  · exact step_jump_37 g t jt jf k w hs hb p0 p1 J hJ
  · exact step_jump_45 g t jt jf k w hs hb p0 p1 J hJ
  · exact step_jump_53 g t jt jf k w hs hb p0 p1 J hJ
  · exact step_jump_61 g t jt jf k w hs hb p0 p1 J hJ
  · exact step_jump_69 g t jt jf k w hs hb p0 p1 J hJ
  · exact step_jump_77 g t jt jf k w hs hb p0 p1 J hJ

end Go.Proofs.Ytlghhnfpmekdnaa.Landed
