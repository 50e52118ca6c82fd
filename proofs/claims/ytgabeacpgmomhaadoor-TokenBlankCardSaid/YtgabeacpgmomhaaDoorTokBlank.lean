/- The walk of TokenBlank, given the landed code's contract. -/
import Derived.Test.YtgabeacpgmomhaaDoorTokBlanks
import Derived.Test.YtgabeacpgmomhaaDoorTokAdd
import Derived.StillTailTactics
import Derived.Deep.DeepCutAuto
namespace Go.Proofs.YtgabeacpgmomhaaDoor
open Go.RowKit

theorem ofInt_and1023 (a : Int) : ((BitVec.ofInt 64 a &&& BitVec.ofInt 64 1023).toNat : Int) = a % 1024 := by
  have e : (BitVec.ofInt 64 1023).toNat = 2 ^ 10 - 1 := by decide
  rw [BitVec.toNat_and, e, Nat.and_two_pow_sub_one_eq_mod, BitVec.toNat_ofInt]
  omega
theorem and1023_i64 (a : Int) : bits .and .i64 a 1023 = a % 1024 := by
  show IntKind.i64.wrap ((BitVec.ofInt 64 a &&& BitVec.ofInt 64 1023).toNat : Int) = _
  rw [ofInt_and1023 a, IntKind.wrap_i64]
  omega

theorem err_not {s : List UInt8} {e : Int} {p : Nat × Nat} (h : splitOf s = .error (e, p)) : (e == 0) = false := by
  unfold splitOf at h
  split at h
  · have h' : ((9 : Int), ((1, 1) : Nat × Nat)) = (e, p) := by injection h
    rw [← (Prod.mk.inj h').1]
    rfl
  · cases hv : splitL s.length (1, 1) s with
    | error q =>
      rw [hv] at h
      have h' : ((3 : Int), q) = (e, p) := by injection h
      rw [← (Prod.mk.inj h').1]
      rfl
    | ok l => rw [hv] at h; cases h

set_option maxRecDepth 100000 in
set_option maxHeartbeats 4000000 in
/-- The text is none. -/
theorem tblank_bad {Y : World → Prop} (R : TokSays Y) (s : ByteArray) (P : Option Addr) (np cp : Nat) (w : World) (hY : Y w) (e : Int) (p : Nat × Nat) (hv : splitOf s.data.toList = .error (e, p)) :
    Calls Tryd.prog 4 #[.string s, .slice P np cp] w fun e w' => e = .returned (.bool true) ∧ Below w.heap.size w w' := by
  have H2 : Hid (∀ W : World, Calls Tryd.prog 9 #[.string s, .int .i64 0] W (SplitRes 0 (splitOf s.data.toList) W)) := fun W => split_any s 0 W
  have hst := store_cx
  have he := err_not hv
  have he' : ¬ e = 0 := by simpa using he
  rw [hv] at H2
  clear hv
  go_enter Tryd.func4, Tryd.ntmps4
  go_wp2_with fail
  refine (talive_any R _ hY).mono ?_
  rintro r w1 ⟨rfl, hb1⟩
  go_wp2_with fail
  refine (H2.out _).mono ?_
  intro r w2 h2
  obtain ⟨A2, c2, rfl, hb2⟩ := res_bad h2
  have hn2 := below_step hb1 (Nat.le_refl _) hb2
  have hn3 := below_alloc hn2 (Nat.le_refl _) (.cells (faultCells e 0 (fl p.1) (fl p.2)) 27)
  unfold faultCells at hn3
  clear h2 hb1 hb2 hn2
  dsimp only [faultCells]
  go_wp2
  go_ret
  exact ⟨by simp [*], hn3⟩

set_option maxRecDepth 100000 in
set_option maxHeartbeats 4000000 in
/-- The text is too long, or the pads too few. -/
theorem tblank_out {Y : World → Prop} (R : TokSays Y) (s : ByteArray) (P : Option Addr) (np cp : Nat) (w : World) (hY : Y w) (l : List TokV) (hv : splitOf s.data.toList = .ok l) (h : ¬ (s.size ≤ 500 ∧ l.length + 1 ≤ np)) :
    Calls Tryd.prog 4 #[.string s, .slice P np cp] w fun e w' => e = .returned (.bool true) ∧ Below w.heap.size w w' := by
  have H2 : Hid (∀ W : World, Calls Tryd.prog 9 #[.string s, .int .i64 0] W (SplitRes 0 (splitOf s.data.toList) W)) := fun W => split_any s 0 W
  have hst := store_cx
  have hll := splitOf_len hv
  rw [hv] at H2
  obtain ⟨m, hm⟩ : ∃ m, m = l.length := ⟨_, rfl⟩
  have HM := Lib.hid hm
  rw [← hm] at hll h
  clear hv hm
  by_cases hs : s.size ≤ 500
  · have hsI : (s.size : Int) ≤ 500 := by omega
    have hpI : (np : Int) < (m : Int) + 1 := by omega
    clear h hs
    go_enter Tryd.func4, Tryd.ntmps4
    go_wp2_with fail
    refine (talive_any R _ hY).mono ?_
    rintro r w1 ⟨rfl, hb1⟩
    go_wp2_with fail
    refine (H2.out _).mono ?_
    intro r w2 h2
    obtain ⟨A2, c2, rfl, _, _, hb2⟩ := res_ok h2
    rw [← HM.out]
    have hn2 := below_step hb1 (Nat.le_refl _) hb2
    have hn3 := below_alloc hn2 (Nat.le_refl _) (.cells (faultCells 0 0 0 0) 27)
    unfold faultCells at hn3
    clear h2 hb1 hb2 hn2
    dsimp only [faultCells]
    go_wp2
    go_ret
    exact ⟨by simp [*], hn3⟩
  · have hsI : (500 : Int) < (s.size : Int) := by omega
    clear h hs
    go_enter Tryd.func4, Tryd.ntmps4
    go_wp2_with fail
    refine (talive_any R _ hY).mono ?_
    rintro r w1 ⟨rfl, hb1⟩
    go_wp2_with fail
    refine (H2.out _).mono ?_
    intro r w2 h2
    obtain ⟨A2, c2, rfl, _, _, hb2⟩ := res_ok h2
    rw [← HM.out]
    have hn2 := below_step hb1 (Nat.le_refl _) hb2
    have hn3 := below_alloc hn2 (Nat.le_refl _) (.cells (faultCells 0 0 0 0) 27)
    unfold faultCells at hn3
    clear h2 hb1 hb2 hn2
    dsimp only [faultCells]
    go_wp2
    go_ret
    exact ⟨by simp [*], hn3⟩

end Go.Proofs.YtgabeacpgmomhaaDoor
