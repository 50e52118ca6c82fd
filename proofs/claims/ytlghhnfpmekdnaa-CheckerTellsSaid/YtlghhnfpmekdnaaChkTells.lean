/- The walk of the statement CheckerTells: it returns true, and writes nothing that was there. -/
import Derived.Test.YtlghhnfpmekdnaaChkFace
namespace Go.Proofs.Ytlghhnfpmekdnaa
open Go.RowKit

theorem stored_len (l : List Ins) : (storedOf l).1.length ≤ l.length := by
  unfold storedOf
  split
  · simp
  · rw [masks_len, start_len]
    exact Nat.le_refl _

set_option maxRecDepth 100000 in
set_option maxHeartbeats 2000000 in
theorem ctells_in (R : ChkSays) (A : Option Addr) (n c : Nat) (l : List Ins) (w : World) (hl : Lies w w.heap.size 4 A n (cellsOf l)) (hnc : n ≤ c) (hok : ∀ y ∈ l, y.Ok) (hn : n ≤ 300) :
    Calls Try.prog 3 #[.slice A n c] w fun r w' => r = .returned (.bool true) ∧ Below w.heap.size w w' := by
  obtain ⟨i0, hi, hz0, hz1, hz2⟩ := info_parts Try.infoInsK
  have HL := Lib.hid hl
  have HOK := Lib.hid hok
  have b0 : decide ((300 : Int) < (n : Int)) = false := decide_eq_false (by omega)
  have b0' : decide (300 < n) = false := decide_eq_false (by omega)
  clear hl hok
  obtain ⟨K, hK⟩ : ∃ K, K = checkOf l := ⟨_, rfl⟩
  obtain ⟨S, hS⟩ : ∃ S, S = storedOf l := ⟨_, rfl⟩
  have HK := Lib.hid hK
  have HS := Lib.hid hS
  have hsl : S.1.length ≤ 300 := by
    have h1 := stored_len l
    have h2 := HL.out.1
    rw [cells_len] at h2
    rw [hS]
    omega
  obtain ⟨kn, kb⟩ := K
  obtain ⟨sl, sb⟩ := S
  clear hK hS
  dsimp only at hsl
  go_enter Try.func3, Try.ntmps3
  go_wp2_with fail
  refine (calive_any R _).mono ?_
  rintro r w1 ⟨rfl, hb1⟩
  have hs1 := hb1.size
  have hl1 : Lies w1 w.heap.size 4 A n (cellsOf l) := HL.out.below hb1
  go_wp2_with (at_builtin; go_loud (refine wpList_append_lies _ rfl (.const (.slice none 0 0)) (.tmp 23) _ rfl w.heap.size 39 i0 _ 4 32 Try.underlying22 hi hz0 hz1 hz2 rfl (by omega) (.slice none 0 0) 0 [] rfl (World.ownsRow_nil _ _ _ _) _ A n c _ rfl hl1 (cells_one _) (by unfold maxLen; omega) (by omega) (by omega) ?_))
  intro v2 w2 hown2 hg2
  have hn2 : Below w.heap.size w w2 := below_grown hb1 (World.ownsRow_nil w1 w.heap.size 39 4) (Nat.le_refl _) (by omega) hg2
  obtain ⟨A2, c2, rfl, hc2, hl2⟩ := own_form hown2
  clear hown2 hg2 hb1 hl1 hi hz0 hz1 hz2
  go_wp2_with fail
  refine (R.check A2 _ c2 l _ hl2 hc2 HOK.out (by omega)).mono ?_
  rw [← HK.out]
  rintro r w3 ⟨rfl, hb3⟩
  have hn3 := below_step hn2 (Nat.le_refl _) hb3
  have hl3 : Lies w3 w3.heap.size 4 A n (cellsOf l) := (HL.out.below hn3).wider hn3.size
  clear hl2 hn2 hb3
  go_wp2_with fail
  refine (refCheck_any A n c l _ hl3 hnc HOK.out (by omega)).mono ?_
  rw [← HK.out]
  rintro r w4 ⟨rfl, hb4⟩
  have hn4 := below_step hn3 (Nat.le_refl _) hb4
  have hl4 : Lies w4 w4.heap.size 4 A n (cellsOf l) := (HL.out.below hn4).wider hn4.size
  clear hl3 hn3 hb4
  go_wp2_with fail
  refine (R.stored A n c l _ hl4 hnc HOK.out (by omega)).mono ?_
  rw [← HS.out]
  rintro r w5 ⟨v5, rfl, hown5, hb5⟩
  have hn5 := below_step hn4 (Nat.le_refl _) hb5
  have hl5 : Lies w5 w5.heap.size 4 A n (cellsOf l) := (HL.out.below hn5).wider hn5.size
  obtain ⟨A5, c5, rfl, hc5, hr5⟩ := own_form hown5
  clear hl4 hn4 hb5 hown5
  go_wp2_with fail
  refine (refStored_any A n c l _ hl5 HOK.out (by omega)).mono ?_
  rw [← HS.out]
  rintro r w6 ⟨v6, rfl, hown6, hb6⟩
  have hn6 := below_step hn5 (Nat.le_refl _) hb6
  obtain ⟨A6, c6, rfl, hc6, hr6⟩ := own_form hown6
  have hr5' := hr5.below hb6
  have hs6 := hb6.size
  clear hl5 hn5 hb6 hown6 hr5
  dsimp only at hr5' hr6 hc5 hc6
  go_wp2_with fail
  go_loopw [12] (fun i wr => ∃ k : Nat, k ≤ sl.length ∧ i = .int .i64 k ∧ Below w6.heap.size w6 wr) (fun i _ => sl.length - (intOf i).toNat)
  case atStart => exact ⟨0, by omega, rfl, Below.refl _ _⟩
  case round =>
    obtain ⟨k, hk, rfl, hnx⟩ := hrel
    have hgo := below_step hn6 (Nat.le_refl _) hnx
    by_cases hlt : k < sl.length
    · obtain ⟨b1, o1, rfl, hb1, hc1⟩ := hr5'.2 (by omega)
      obtain ⟨b2, o2, rfl, hb2, hc2⟩ := hr6.2 (by omega)
      obtain ⟨v, hv⟩ : ∃ v, sl[k]? = some v := ⟨_, List.getElem?_eq_getElem hlt⟩
      have x1 := (hnx.cell (p := ⟨b1, o1 + k, none⟩) (Nat.lt_of_lt_of_le hb1 hs6)).trans (hc1 k (.int .i64 v) (by simp [hv]))
      have x2 := (hnx.cell (p := ⟨b2, o2 + k, none⟩) hb2).trans (hc2 k (.int .i64 v) (by simp [hv]))
      clear hc1 hc2 hv hr5' hr6
      go_wp2_with fail
      go_quiet (fail)
      go_wp2
      go_roundw
      case rel => exact ⟨k + 1, by omega, by go_num, below_drewN hnx _⟩
      case measure => simp [intOf]; omega
    · go_wp2
      go_ret
      exact ⟨rfl, hgo⟩

set_option maxRecDepth 100000 in
theorem ctells_out (R : ChkSays) (A : Option Addr) (n c : Nat) (w : World) (hn : 300 < n) (hm : n ≤ 140737488355328) :
    Calls Try.prog 3 #[.slice A n c] w fun r w' => r = .returned (.bool true) ∧ Below w.heap.size w w' := by
  have b0 : decide ((300 : Int) < (n : Int)) = true := decide_eq_true (by omega)
  have b0' : decide (300 < n) = true := decide_eq_true (by omega)
  go_enter Try.func3, Try.ntmps3
  go_wp2_with fail
  refine (calive_any R _).mono ?_
  rintro r w1 ⟨rfl, hb1⟩
  go_wp2
  go_ret
  exact ⟨rfl, hb1⟩

theorem ctells_any (R : ChkSays) (A : Option Addr) (n c : Nat) (l : List Ins) (w : World) (hl : Lies w w.heap.size 4 A n (cellsOf l)) (hnc : n ≤ c) (hok : ∀ y ∈ l, y.Ok) (hm : n ≤ 140737488355328) :
    Calls Try.prog 3 #[.slice A n c] w fun r w' => r = .returned (.bool true) ∧ Below w.heap.size w w' := by
  by_cases h : n ≤ 300
  · exact ctells_in R A n c l w hl hnc hok h
  · exact ctells_out R A n c w (by omega) hm

end Go.Proofs.Ytlghhnfpmekdnaa
