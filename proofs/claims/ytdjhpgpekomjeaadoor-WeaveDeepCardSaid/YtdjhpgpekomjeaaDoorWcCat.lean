/- What slices.Grow and slices.Concat give the landed weave: lists of tokens, put together in new memory. -/
import Derived.Test.YtdjhpgpekomjeaaDoorWcLib
import Derived.Lib.AppendZeros
namespace Go.Proofs.YtdjhpgpekomjeaaDoor.LandedW
open Go.RowKit

set_option maxHeartbeats 2000000 in
theorem grow_any (N : Nat) (w : World) (hN : N ≤ 1000000000) :
    Calls Tryd.prog 13 #[.slice none 0 0, .int .i64 (N : Int)] w
      fun e w' => ∃ v, e = .returned v ∧ w'.ownsRow w.heap.size 35 4 v 0 [] ∧ Below w.heap.size w w' := by
  obtain ⟨i0, hi, hz0, hz1, hz2⟩ := info_parts Tryd.infoTok
  have h1 : ¬ ((N : Int) < 0) := by omega
  rcases Nat.eq_zero_or_pos N with rfl | h0
  · go_enter Tryd.func13, Tryd.ntmps13
    go_wp2_with fail
    try go_quiet (fail)
    go_wp2_with fail
    go_ret
    exact ⟨_, rfl, World.ownsRow_nil _ _ _ _, Below.refl _ _⟩
  · have hr := fun (W : World) ty => Lib.run_append_nil_zeros (P := Tryd.prog) W 26 3 ty 35 i0 _ .i64 .i64 Tryd.underlying26 Tryd.underlying3 hi hz0 N h0 (by omega) (by omega) (by rw [hz2]; omega)
    have hG0 := fun (W : World) => grownCap_ge W N 0 35
    have hG1 := fun (W : World) => grownCap_le_maxLen W N 0 35 (by unfold maxLen; omega)
    have hgt : (0 : Int) < (N : Int) := by omega
    go_enter Tryd.func13, Tryd.ntmps13
    go_wp2_with (at_builtin; refine Lib.wpList_append_run _ rfl _ _ _ _ rfl _ _ rfl rfl _ _ (hr _ _) ?_)
    go_ret
    refine ⟨_, rfl, ?_, (below_alloc (Below.refl _ _) (Nat.le_refl _) _).drew⟩
    refine World.ownsRow_made w _ _ (Nat.le_refl _) (hG1 w) ?_
    rw [Array.size_append, size_zeroCells, size_zeroCells]
    have := hG0 w
    show N * 4 + (grownCap w N 0 35 - N) * 4 = _
    omega

/-! ### Put together -/
/-- How many tokens the first k lists have. -/
def total (l : List (List FTok)) : Nat := l.flatten.length
theorem total_le (l : List (List FTok)) (h : ∀ r ∈ l, r.length ≤ 20000) : total l ≤ 20000 * l.length := by
  unfold total
  induction l with
  | nil => simp
  | cons r s ih =>
    have h1 := h r List.mem_cons_self
    have h2 := ih fun x hx => h x (List.mem_cons_of_mem _ hx)
    rw [List.flatten_cons, List.length_append, List.length_cons]
    omega
theorem total_take {l : List (List FTok)} {k : Nat} {r : List FTok} (h : l[k]? = some r) : total (l.take (k + 1)) = total (l.take k) + r.length := by
  unfold total
  rw [take_one h, List.flatten_append, List.length_append]
  simp

set_option maxHeartbeats 4000000 in
theorem concat_any (Q : Option Addr) (m c : Nat) (qs : List Value) (runs : List (List FTok)) (w : World) (hq : Lies w w.heap.size 1 Q m qs) (hm : m = runs.length) (hm3 : m ≤ 3000) (hr : ∀ r ∈ runs, r.length ≤ 20000)
    (hp : ∀ (i : Nat) (q : Value) (r : List FTok), qs[i]? = some q → runs[i]? = some r → ∃ (A : Option Addr) (c : Nat), q = Value.slice A r.length c ∧ Lies w w.heap.size 4 A r.length (ftoksV r)) :
    Calls Tryd.prog 8 #[.slice Q m c] w (NewRow 35 4 runs.flatten.length (ftoksV runs.flatten) w) := by
  obtain ⟨i0, hi, hz0, hz1, hz2⟩ := info_parts Tryd.infoTok
  have hql : qs.length = m := by have := hq.1; omega
  have HQ := Lib.hid hq
  have HQL := Lib.hid hql
  have HM := Lib.hid hm
  have HR := Lib.hid hr
  have HP := Lib.hid hp
  have HT : Hid (∀ k, total (runs.take k) ≤ 60000000) := fun k => by
    have h1 := total_le (runs.take k) (fun r h => hr r (List.mem_of_mem_take h))
    have h2 : (runs.take k).length ≤ runs.length := List.length_take_le' _ _
    omega
  have HG : Hid (∀ (N : Nat) (W : World), N ≤ 60000000 → Calls Tryd.prog 13 #[.slice none 0 0, .int .i64 (N : Int)] W
      fun e w' => ∃ v, e = .returned v ∧ w'.ownsRow W.heap.size 35 4 v 0 [] ∧ Below W.heap.size W w') := fun N W h => grow_any N W (by omega)
  have HAT : Hid (∀ k, k < m → ∃ q r, qs[k]? = some q ∧ runs[k]? = some r) := fun k hk => ⟨_, _, List.getElem?_eq_getElem (by omega), List.getElem?_eq_getElem (by omega)⟩
  obtain ⟨X, hX⟩ : ∃ X, X = runs.flatten := ⟨_, rfl⟩
  have HX := Lib.hid hX
  obtain ⟨NX, hNX⟩ : ∃ NX, NX = X.length := ⟨_, rfl⟩
  have HNX := Lib.hid hNX
  rw [← hX, ← hNX]
  clear hq hql hm hr hp hX hNX
  go_enter Tryd.func8, Tryd.ntmps8
  go_wp2_with fail
  go_loopw [3, 11] (fun z i wr => ∃ k : Nat, k ≤ m ∧ i = .int .i64 k ∧ z = .int .i64 (total (runs.take k) : Nat) ∧ Below w.heap.size w wr) (fun _ i _ => m - (intOf i).toNat)
  case atStart => exact ⟨0, by omega, rfl, by simp [total], Below.refl _ _⟩
  case round =>
    obtain ⟨k, hk, rfl, rfl, hnx⟩ := hrel
    by_cases hlt : k < m
    · obtain ⟨q, r, hqk, hrk⟩ := HAT.out k hlt
      obtain ⟨A, cc, rfl, _⟩ := HP.out k q r hqk hrk
      obtain ⟨b, o, rfl, hb, hc⟩ := HQ.out.2 (by omega)
      have t0 := (hnx.cell (p := ⟨b, o + k, none⟩) hb).trans (hc k _ hqk)
      have h1 := HT.out k
      have h2 := HT.out (k + 1)
      have h3 := total_take hrk
      have HT3 : Hid (total (runs.take (k + 1)) = total (runs.take k) + r.length) := h3
      rw [h3] at h2
      generalize total (runs.take k) = S at *
      obtain ⟨L, hL⟩ : ∃ L, L = r.length := ⟨_, rfl⟩
      rw [← hL] at HT3 h2 t0
      have hneg : ¬ ((S : Int) + (L : Int) < 0) := by omega
      have hw1 : wrap64 ((S : Int) + (L : Int)) = (S : Int) + (L : Int) := by unfold wrap64; omega
      clear hc hqk hrk h3 hL
      go_wp2_with fail
      try go_quiet (fail)
      go_wp2_with fail
      go_roundw
      case rel => exact ⟨k + 1, by omega, by go_num, by rw [HT3.out]; go_num, hnx⟩
      case measure => simp [intOf]; omega
    · obtain rfl : m = k := by omega
      have hT0 := HT.out m
      go_wp2_with fail
      refine (HG.out _ _ hT0).mono ?_
      rintro e w2 ⟨v2, rfl, hown2, hb2⟩
      have hnx2 := hnx.trans (hb2.mono hnx.size)
      have HOWN2 := Lib.hid (own_base hown2 hnx.size)
      clear hown2 hb2 hnx
      go_wp2_with fail
      go_loopw [6, 27] (fun v i wr => ∃ k : Nat, k ≤ m ∧ i = .int .i64 k ∧ wr.ownsRow w.heap.size 35 4 v (total (runs.take k)) (ftoksV (runs.take k).flatten) ∧ Below w.heap.size w wr) (fun _ i _ => m - (intOf i).toNat)
      case atStart => exact ⟨0, by omega, rfl, HOWN2.out, hnx2⟩
      case round =>
        obtain ⟨k, hk, rfl, hown, hnx⟩ := hrel
        by_cases hlt : k < m
        · obtain ⟨q, r, hqk, hrk⟩ := HAT.out k hlt
          obtain ⟨A, cc, rfl, hla⟩ := HP.out k q r hqk hrk
          obtain ⟨b, o, rfl, hb, hc⟩ := HQ.out.2 (by omega)
          have t0 := (hnx.cell (p := ⟨b, o + k, none⟩) hb).trans (hc k _ hqk)
          have h1 := HT.out k
          have h2 := HT.out (k + 1)
          have h3 := total_take hrk
          have HFL : Hid ((runs.take (k + 1)).flatten = (runs.take k).flatten ++ r) := by
            unfold Hid
            rw [take_one hrk, List.flatten_append]
            simp
          have HT3 : Hid (total (runs.take (k + 1)) = total (runs.take k) + r.length) := h3
          rw [h3] at h2
          have hla1 := hla.below hnx
          have HOW := Lib.hid hown
          have HN := Lib.hid hnx
          generalize total (runs.take k) = S at *
          obtain ⟨F, hF⟩ : ∃ F, F = (runs.take k).flatten := ⟨_, rfl⟩
          rw [← hF] at HFL HOW hown
          obtain ⟨L, hL⟩ : ∃ L, L = r.length := ⟨_, rfl⟩
          have HL := Lib.hid hL
          rw [← hL] at HT3 h2 t0 hla1
          have hws := hnx.size
          clear hc hqk hrk h3 hL hla hF hnx
          go_wp2_with (at_builtin; go_loud (refine wpList_append_lies _ rfl (.tmp 31) (.tmp 32) _ rfl w.heap.size 35 i0 _ 4 48 Tryd.underlying26 hi hz0 hz1 hz2 rfl (by omega) _ _ _ rfl hown _ A L cc (ftoksV r) rfl hla1 (ftoksV_cells _) (by unfold maxLen; omega) (by omega) (by omega) ?_))
          intro v4 w4 hown4 hg4
          have HOW4 := Lib.hid hown4
          have HN4 := Lib.hid (below_grown HN.out HOW.out (Nat.le_refl _) hws hg4)
          clear hown4 hg4 hown hla1
          go_wp2
          go_roundw
          case rel => exact ⟨k + 1, by omega, by go_num, by rw [HT3.out, HFL.out, ftoksV_append]; exact HOW4.out, HN4.out⟩
          case measure => simp [intOf]; omega
        · obtain rfl : m = k := by omega
          have HE : Hid (X = (runs.take m).flatten ∧ NX = total (runs.take m)) := by
            have h : runs.take m = runs := List.take_of_length_le (by rw [← HM.out]; exact Nat.le_refl _)
            refine ⟨by rw [h]; exact HX.out, ?_⟩
            rw [h, HNX.out, HX.out]
            rfl
          go_wp2
          go_ret
          exact ⟨_, rfl, by rw [HE.out.1, HE.out.2]; exact hown, hnx⟩

end Go.Proofs.YtdjhpgpekomjeaaDoor.LandedW
