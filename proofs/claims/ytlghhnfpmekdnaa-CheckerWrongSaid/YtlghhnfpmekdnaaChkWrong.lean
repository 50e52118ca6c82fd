/- The walk of the statement CheckerWrong: it returns true, and writes nothing that was there. -/
import Derived.Test.YtlghhnfpmekdnaaChkFace
import Derived.Deep.DeepCutAuto
namespace Go.Proofs.Ytlghhnfpmekdnaa
open Go.RowKit

def wrongs : List (List Ins) := [[⟨6, 0, 0, 0⟩], [⟨22, 0, 0, 0⟩], [⟨0, 0, 0, 0⟩], [⟨32, 0, 0, 60⟩, ⟨6, 0, 0, 0⟩], [⟨32, 0, 0, 64⟩, ⟨6, 0, 0, 0⟩], [⟨32, 0, 0, 2⟩, ⟨6, 0, 0, 0⟩], [⟨40, 0, 0, 0⟩, ⟨6, 0, 0, 0⟩], [⟨2, 0, 0, 15⟩, ⟨6, 0, 0, 0⟩], [⟨2, 0, 0, 16⟩, ⟨6, 0, 0, 0⟩], [⟨96, 0, 0, 3⟩, ⟨6, 0, 0, 0⟩], [⟨2, 0, 0, 3⟩, ⟨96, 0, 0, 3⟩, ⟨6, 0, 0, 0⟩], [⟨52, 0, 0, 0⟩, ⟨6, 0, 0, 0⟩], [⟨60, 0, 0, 0⟩, ⟨6, 0, 0, 0⟩], [⟨100, 0, 0, 31⟩, ⟨6, 0, 0, 0⟩], [⟨116, 0, 0, 32⟩, ⟨6, 0, 0, 0⟩], [⟨5, 0, 0, 0⟩, ⟨6, 0, 0, 0⟩], [⟨5, 0, 0, 1⟩, ⟨6, 0, 0, 0⟩], [⟨21, 1, 0, 0⟩, ⟨6, 0, 0, 0⟩, ⟨6, 0, 0, 0⟩], [⟨21, 0, 2, 0⟩, ⟨6, 0, 0, 0⟩, ⟨6, 0, 0, 0⟩], [⟨6, 0, 0, 0⟩, ⟨132, 0, 0, 0⟩], [⟨21, 1, 0, 0⟩, ⟨2, 0, 0, 0⟩, ⟨96, 0, 0, 0⟩, ⟨6, 0, 0, 0⟩], [⟨21, (-1), 0, 0⟩, ⟨6, 0, 0, 0⟩], [⟨5, 0, 0, 4294967295⟩, ⟨6, 0, 0, 0⟩], [⟨5, 0, 0, 1⟩, ⟨96, 0, 0, 0⟩, ⟨6, 0, 0, 0⟩]]
def wrongL (j : Nat) : List Ins := wrongs.getD j []
def wrongAts : List Int := [-1, -1, 0, -1, 0, 0, 0, -1, 0, 0, -1, 0, -1, -1, 0, -1, 0, -1, 0, 1, 2, 0, 0, -1]
def wrongAt (j : Nat) : Int := wrongAts.getD j 0

theorem wrong_check : ∀ j, j < 24 → checkOf (wrongL j) = (wrongAt j, decide (wrongAt j < 0)) := by decide +kernel

theorem wrong_ok (j : Nat) : ∀ y ∈ wrongL j, y.Ok := by
  have h : ∀ l ∈ wrongs, ∀ y ∈ l, (-9223372036854775808 ≤ y.code ∧ y.code ≤ 9223372036854775807) ∧ (-9223372036854775808 ≤ y.jt ∧ y.jt ≤ 9223372036854775807) ∧ (-9223372036854775808 ≤ y.jf ∧ y.jf ≤ 9223372036854775807) ∧ (0 ≤ y.k ∧ y.k ≤ 4294967295) := by decide +kernel
  intro y hy
  unfold wrongL at hy
  by_cases hj : j < wrongs.length
  · have hm : wrongs.getD j [] ∈ wrongs := by
      simp only [List.getD, List.getElem?_eq_getElem hj, Option.getD_some]
      exact List.getElem_mem hj
    obtain ⟨h1, h2, h3, h4⟩ := h _ hm y hy
    obtain ⟨a, b, c, d⟩ := y
    exact ins_ok h1 h2 h3 h4
  · rw [List.getD, List.getElem?_eq_none (by omega)] at hy
    cases hy

/-- What the two literals have laid down: the filters, and where each is refused. -/
def WrongLies (w : World) (g h : Nat) : Prop :=
  (∀ j, j < 24 → ∃ A m, w.cell? ⟨g, j, none⟩ = some (.slice A m m) ∧ m ≤ 4 ∧ Lies w w.heap.size 4 A m (cellsOf (wrongL j))) ∧ ∀ j, j < 24 → w.cell? ⟨h, j, none⟩ = some (.int .i64 (wrongAt j))

theorem cell_lit {X : World} {g : Nat} {t t2 : TypeId} {cs cs2 : Array Value} (hg : g = X.heap.size) (j : Nat) : ((X.alloc (.cells cs t)).alloc (.cells cs2 t2)).cell? ⟨g, j, none⟩ = cs[j]? := by
  subst hg
  exact ((Box.new X t cs).alloc _).cell j
theorem cell_last {X : World} {g : Nat} {t : TypeId} {cs : Array Value} (hg : g = X.heap.size) (j : Nat) : (X.alloc (.cells cs t)).cell? ⟨g, j, none⟩ = cs[j]? := by
  subst hg
  exact (Box.new X t cs).cell j

theorem lies_more {w : World} {size n : Nat} {A : Option Addr} {xs : List Value} (o : Obj) (h : Lies w w.heap.size size A n xs) : Lies (w.alloc o) (w.alloc o).heap.size size A n xs := (h.alloc (Nat.le_refl _) o).wider (by simp)

set_option maxRecDepth 100000 in
set_option maxHeartbeats 4000000 in
theorem cwrong_in (R : ChkSays) (j : Nat) (w : World) (hj : j < 24) :
    Calls Try.prog 5 #[.int .i64 j] w fun r w' => r = .returned (.bool true) ∧ Below w.heap.size w w' := by
  go_enter Try.func5, Try.ntmps5
  go_wp2_with fail
  refine (calive_any R _).mono ?_
  rintro r w1 ⟨rfl, hb1⟩
  go_upto_region 4 with (fail)
  go_cut [6] (fun s6 wx => ∃ h, s6 = .slice (some ⟨h, 0, none⟩) 24 24 ∧ WrongLies wx (w1.heap.size + 25) h ∧ Below w.heap.size w wx)
  case first =>
    go_wp2
    go_meet
    refine ⟨_, rfl, ⟨?_, ?_⟩, ?_⟩
    · intro j hj
      rcases (show j = 0 ∨ j = 1 ∨ j = 2 ∨ j = 3 ∨ j = 4 ∨ j = 5 ∨ j = 6 ∨ j = 7 ∨ j = 8 ∨ j = 9 ∨ j = 10 ∨ j = 11 ∨ j = 12 ∨ j = 13 ∨ j = 14 ∨ j = 15 ∨ j = 16 ∨ j = 17 ∨ j = 18 ∨ j = 19 ∨ j = 20 ∨ j = 21 ∨ j = 22 ∨ j = 23 from by omega) with rfl | rfl | rfl | rfl | rfl | rfl | rfl | rfl | rfl | rfl | rfl | rfl | rfl | rfl | rfl | rfl | rfl | rfl | rfl | rfl | rfl | rfl | rfl | rfl
      · refine ⟨_, _, (cell_lit ?_ 0).trans rfl, ?_, ?_⟩
        · simp
        · omega
        · iterate 25 (with_reducible refine lies_more _ ?_)
          exact lies_new _ _ _ (by simp) rfl rfl
      · refine ⟨_, _, (cell_lit ?_ 1).trans rfl, ?_, ?_⟩
        · simp
        · omega
        · iterate 24 (with_reducible refine lies_more _ ?_)
          exact lies_new _ _ _ (by simp) rfl rfl
      · refine ⟨_, _, (cell_lit ?_ 2).trans rfl, ?_, ?_⟩
        · simp
        · omega
        · iterate 23 (with_reducible refine lies_more _ ?_)
          exact lies_new _ _ _ (by simp) rfl rfl
      · refine ⟨_, _, (cell_lit ?_ 3).trans rfl, ?_, ?_⟩
        · simp
        · omega
        · iterate 22 (with_reducible refine lies_more _ ?_)
          exact lies_new _ _ _ (by simp) rfl rfl
      · refine ⟨_, _, (cell_lit ?_ 4).trans rfl, ?_, ?_⟩
        · simp
        · omega
        · iterate 21 (with_reducible refine lies_more _ ?_)
          exact lies_new _ _ _ (by simp) rfl rfl
      · refine ⟨_, _, (cell_lit ?_ 5).trans rfl, ?_, ?_⟩
        · simp
        · omega
        · iterate 20 (with_reducible refine lies_more _ ?_)
          exact lies_new _ _ _ (by simp) rfl rfl
      · refine ⟨_, _, (cell_lit ?_ 6).trans rfl, ?_, ?_⟩
        · simp
        · omega
        · iterate 19 (with_reducible refine lies_more _ ?_)
          exact lies_new _ _ _ (by simp) rfl rfl
      · refine ⟨_, _, (cell_lit ?_ 7).trans rfl, ?_, ?_⟩
        · simp
        · omega
        · iterate 18 (with_reducible refine lies_more _ ?_)
          exact lies_new _ _ _ (by simp) rfl rfl
      · refine ⟨_, _, (cell_lit ?_ 8).trans rfl, ?_, ?_⟩
        · simp
        · omega
        · iterate 17 (with_reducible refine lies_more _ ?_)
          exact lies_new _ _ _ (by simp) rfl rfl
      · refine ⟨_, _, (cell_lit ?_ 9).trans rfl, ?_, ?_⟩
        · simp
        · omega
        · iterate 16 (with_reducible refine lies_more _ ?_)
          exact lies_new _ _ _ (by simp) rfl rfl
      · refine ⟨_, _, (cell_lit ?_ 10).trans rfl, ?_, ?_⟩
        · simp
        · omega
        · iterate 15 (with_reducible refine lies_more _ ?_)
          exact lies_new _ _ _ (by simp) rfl rfl
      · refine ⟨_, _, (cell_lit ?_ 11).trans rfl, ?_, ?_⟩
        · simp
        · omega
        · iterate 14 (with_reducible refine lies_more _ ?_)
          exact lies_new _ _ _ (by simp) rfl rfl
      · refine ⟨_, _, (cell_lit ?_ 12).trans rfl, ?_, ?_⟩
        · simp
        · omega
        · iterate 13 (with_reducible refine lies_more _ ?_)
          exact lies_new _ _ _ (by simp) rfl rfl
      · refine ⟨_, _, (cell_lit ?_ 13).trans rfl, ?_, ?_⟩
        · simp
        · omega
        · iterate 12 (with_reducible refine lies_more _ ?_)
          exact lies_new _ _ _ (by simp) rfl rfl
      · refine ⟨_, _, (cell_lit ?_ 14).trans rfl, ?_, ?_⟩
        · simp
        · omega
        · iterate 11 (with_reducible refine lies_more _ ?_)
          exact lies_new _ _ _ (by simp) rfl rfl
      · refine ⟨_, _, (cell_lit ?_ 15).trans rfl, ?_, ?_⟩
        · simp
        · omega
        · iterate 10 (with_reducible refine lies_more _ ?_)
          exact lies_new _ _ _ (by simp) rfl rfl
      · refine ⟨_, _, (cell_lit ?_ 16).trans rfl, ?_, ?_⟩
        · simp
        · omega
        · iterate 9 (with_reducible refine lies_more _ ?_)
          exact lies_new _ _ _ (by simp) rfl rfl
      · refine ⟨_, _, (cell_lit ?_ 17).trans rfl, ?_, ?_⟩
        · simp
        · omega
        · iterate 8 (with_reducible refine lies_more _ ?_)
          exact lies_new _ _ _ (by simp) rfl rfl
      · refine ⟨_, _, (cell_lit ?_ 18).trans rfl, ?_, ?_⟩
        · simp
        · omega
        · iterate 7 (with_reducible refine lies_more _ ?_)
          exact lies_new _ _ _ (by simp) rfl rfl
      · refine ⟨_, _, (cell_lit ?_ 19).trans rfl, ?_, ?_⟩
        · simp
        · omega
        · iterate 6 (with_reducible refine lies_more _ ?_)
          exact lies_new _ _ _ (by simp) rfl rfl
      · refine ⟨_, _, (cell_lit ?_ 20).trans rfl, ?_, ?_⟩
        · simp
        · omega
        · iterate 5 (with_reducible refine lies_more _ ?_)
          exact lies_new _ _ _ (by simp) rfl rfl
      · refine ⟨_, _, (cell_lit ?_ 21).trans rfl, ?_, ?_⟩
        · simp
        · omega
        · iterate 4 (with_reducible refine lies_more _ ?_)
          exact lies_new _ _ _ (by simp) rfl rfl
      · refine ⟨_, _, (cell_lit ?_ 22).trans rfl, ?_, ?_⟩
        · simp
        · omega
        · iterate 3 (with_reducible refine lies_more _ ?_)
          exact lies_new _ _ _ (by simp) rfl rfl
      · refine ⟨_, _, (cell_lit ?_ 23).trans rfl, ?_, ?_⟩
        · simp
        · omega
        · iterate 2 (with_reducible refine lies_more _ ?_)
          exact lies_new _ _ _ (by simp) rfl rfl
    · intro j hj
      rcases (show j = 0 ∨ j = 1 ∨ j = 2 ∨ j = 3 ∨ j = 4 ∨ j = 5 ∨ j = 6 ∨ j = 7 ∨ j = 8 ∨ j = 9 ∨ j = 10 ∨ j = 11 ∨ j = 12 ∨ j = 13 ∨ j = 14 ∨ j = 15 ∨ j = 16 ∨ j = 17 ∨ j = 18 ∨ j = 19 ∨ j = 20 ∨ j = 21 ∨ j = 22 ∨ j = 23 from by omega) with rfl | rfl | rfl | rfl | rfl | rfl | rfl | rfl | rfl | rfl | rfl | rfl | rfl | rfl | rfl | rfl | rfl | rfl | rfl | rfl | rfl | rfl | rfl | rfl
      all_goals
        refine (cell_last ?_ _).trans rfl
        simp
    · iterate 27 (with_reducible refine below_alloc ?_ (Nat.le_refl _) _)
      exact hb1
  case rest =>
    obtain ⟨h, rfl, ⟨hA, hB⟩, hnx⟩ := hcut
    obtain ⟨A, m, x0, hm, hl⟩ := hA j hj
    have x1 := hB j hj
    have HC := Lib.hid (wrong_check j hj)
    have b0 : decide ((j : Int) < 0) = false := decide_eq_false (by omega)
    have b1 : decide ((24 : Int) ≤ (j : Int)) = false := decide_eq_false (by omega)
    have b1' : decide (24 ≤ j) = false := decide_eq_false (by omega)
    obtain ⟨V, hV⟩ : ∃ V, V = wrongAt j := ⟨_, rfl⟩
    rw [← hV] at x1 HC
    clear hA hB hV hb1
    go_wp2_with fail
    refine (R.check A m m (wrongL j) _ hl (Nat.le_refl _) (wrong_ok j) (by omega)).mono ?_
    rw [HC.out]
    rintro r w2 ⟨rfl, hb2⟩
    have hn2 := below_step hnx (Nat.le_refl _) hb2
    have x2 := (hb2.cell (p := ⟨h, j, none⟩) (World.block_lt_of_cell? _ _ x1)).trans x1
    clear hb2 hnx hl x0 x1
    go_wp2
    all_goals
      go_ret
      exact ⟨rfl, hn2⟩

set_option maxRecDepth 100000 in
set_option maxHeartbeats 2000000 in
theorem cwrong_out (R : ChkSays) (j : Int) (w : World) (h : j < 0 ∨ 24 ≤ j) :
    Calls Try.prog 5 #[.int .i64 j] w fun r w' => r = .returned (.bool true) ∧ Below w.heap.size w w' := by
  by_cases h0 : j < 0
  · clear h
    go_enter Try.func5, Try.ntmps5
    go_wp2_with fail
    refine (calive_any R _).mono ?_
    rintro r w1 ⟨rfl, hb1⟩
    go_wp2
    go_ret
    refine ⟨rfl, ?_⟩
    iterate 27 (with_reducible refine below_alloc ?_ (Nat.le_refl _) _)
    exact hb1
  · have h2 : 24 ≤ j := by omega
    clear h
    go_enter Try.func5, Try.ntmps5
    go_wp2_with fail
    refine (calive_any R _).mono ?_
    rintro r w1 ⟨rfl, hb1⟩
    go_wp2
    go_ret
    refine ⟨rfl, ?_⟩
    iterate 27 (with_reducible refine below_alloc ?_ (Nat.le_refl _) _)
    exact hb1

theorem cwrong_any (R : ChkSays) (j : Int) (w : World) :
    Calls Try.prog 5 #[.int .i64 j] w fun r w' => r = .returned (.bool true) ∧ Below w.heap.size w w' := by
  by_cases h : j < 0 ∨ 24 ≤ j
  · exact cwrong_out R j w h
  · obtain ⟨k, rfl⟩ := Int.eq_ofNat_of_zero_le (show 0 ≤ j by omega)
    exact cwrong_in R k w (by omega)

end Go.Proofs.Ytlghhnfpmekdnaa
