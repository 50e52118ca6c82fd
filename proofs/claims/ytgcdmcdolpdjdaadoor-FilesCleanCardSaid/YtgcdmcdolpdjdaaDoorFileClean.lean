/- The walk of FilesClean, given the landed code's contract. -/
import Derived.Test.YtgcdmcdolpdjdaaDoorCleanLaw
import Derived.Test.YtgcdmcdolpdjdaaDoorFileFace
namespace Go.Proofs.YtgcdmcdolpdjdaaDoor
open Go.RowKit

/-- What comes back is a text and a bool. -/
def TextBool (s : ByteArray) (b : Bool) (w : World) : Ending → World → Prop := fun r w' => r = .returned (.tuple #[.string s, .bool b]) ∧ Below w.heap.size w w'

theorem str_of (s : ByteArray) (l : List UInt8) (h : s.data.toList = l) : s = strOf l := by rw [← h, strOf_of]

set_option maxRecDepth 100000 in
set_option maxHeartbeats 4000000 in
theorem fclean_both (R : FileSays) (a b xb yb : ByteArray) (w : World) (ha : a.size ≤ 100) (hb : b.size ≤ 100) (hx : cleanPath a.data.toList = (xb.data.toList, true)) (hy : cleanPath b.data.toList = (yb.data.toList, true)) :
    Calls Tryd.prog 4 #[.string a, .string b] w fun e w' => e = .returned (.bool true) ∧ Below w.heap.size w w' := by
  have hxl : xb.size ≤ 101 := by
    have := clean_len hx
    simp only [Array.length_toList] at this
    have h1 : xb.data.size = xb.size := rfl
    have h2 : a.data.size = a.size := rfl
    omega
  have hyl : yb.size ≤ 101 := by
    have := clean_len hy
    simp only [Array.length_toList] at this
    have h1 : yb.data.size = yb.size := rfl
    have h2 : b.data.size = b.size := rfl
    omega
  have hyz : yb.data.toList.length = yb.size := by simp only [Array.length_toList]; rfl
  have HA : Hid (∀ W : World, Calls Tryd.prog 6 #[.string a] W (TextBool xb true W)) := fun W => by
    have := R.clean a W (by omega)
    rw [hx] at this
    unfold StrBool at this
    rw [strOf_of] at this
    exact this
  have HB : Hid (∀ W : World, Calls Tryd.prog 6 #[.string b] W (TextBool yb true W)) := fun W => by
    have := R.clean b W (by omega)
    rw [hy] at this
    unfold StrBool at this
    rw [strOf_of] at this
    exact this
  have HX : Hid (∀ W : World, Calls Tryd.prog 6 #[.string xb] W (TextBool xb true W)) := fun W => by
    have := R.clean xb W (by omega)
    rw [clean_again hx] at this
    unfold StrBool at this
    rw [strOf_of] at this
    exact this
  have HU : Hid (∀ (u : ByteArray) (W : World), u = strOf (xb.data.toList ++ ups (yb.data.toList.count 47 + 1)) → Calls Tryd.prog 6 #[.string (xb ++ (⟨#[47]⟩ : ByteArray) ++ yb ++ u.extract xb.size u.size)] W (TextBool xb true W)) := fun u W hu => by
    have hcount : yb.data.toList.count 47 ≤ yb.size := by rw [← hyz]; exact List.count_le_length
    have hex : u.extract xb.size u.size = strOf (ups (yb.data.toList.count 47 + 1)) := by
      rw [hu, Go.Lib.extract_eq]
      have h1 : xb.size = xb.data.toList.length := by simp only [Array.length_toList]; rfl
      have h2 : (strOf (xb.data.toList ++ ups (yb.data.toList.count 47 + 1))).size = (xb.data.toList ++ ups (yb.data.toList.count 47 + 1)).length := strOf_size _
      rw [h2, h1, strOf_data, List.drop_left, List.length_append, Nat.add_sub_cancel_left, List.take_length]
      rfl
    have e : xb ++ (⟨#[47]⟩ : ByteArray) ++ yb ++ u.extract xb.size u.size = strOf (xb.data.toList ++ 47 :: (yb.data.toList ++ ups (yb.data.toList.count 47 + 1))) := by
      rw [hex]
      have h1 : xb = strOf xb.data.toList := (strOf_of xb).symm
      have h2 : yb = strOf yb.data.toList := (strOf_of yb).symm
      generalize xb.data.toList = X at *
      generalize hY : yb.data.toList = Y at *
      rw [h1, h2, show (⟨#[47]⟩ : ByteArray) = strOf [47] from rfl]
      unfold strOf
      simp only [strOf_append, List.append_assoc]
      rfl
    have hsz : (strOf (xb.data.toList ++ 47 :: (yb.data.toList ++ ups (yb.data.toList.count 47 + 1)))).size ≤ 1099511627776 := by
      rw [strOf_size]
      simp only [List.length_append, List.length_cons, ups_len, Array.length_toList]
      have h1 : xb.data.size = xb.size := rfl
      have h2 : yb.data.size = yb.size := rfl
      omega
    have := R.clean _ W hsz
    rw [strOf_data, clean_back hx hy] at this
    unfold StrBool at this
    rw [strOf_of] at this
    rw [e]
    exact this
  have HJ : Hid (∀ W : World, Calls Tryd.prog 10 #[.string xb, .string ((⟨#[47]⟩ : ByteArray) ++ b)] W (TextBool yb true W)) := fun W => by
    have e : (⟨#[47]⟩ : ByteArray) ++ b = strOf (47 :: b.data.toList) := by
      have h1 : b = strOf b.data.toList := (strOf_of b).symm
      generalize b.data.toList = B at *
      rw [h1, show (⟨#[47]⟩ : ByteArray) = strOf [47] from rfl]
      unfold strOf
      simp only [strOf_append]
      rfl
    have hsz : (strOf (47 :: b.data.toList)).size ≤ 1099511627776 := by
      rw [strOf_size]
      simp only [List.length_cons, Array.length_toList]
      have h2 : b.data.size = b.size := rfl
      omega
    have := R.join xb _ W (by omega) hsz
    rw [strOf_data, join_root, hy] at this
    unfold StrBool at this
    rw [strOf_of] at this
    rw [e]
    exact this
  have HUP : Hid (upTo yb.data.toList = yb.data.toList.count 47 + 1) := upTo_all hy
  have a100 : (a.size : Int) ≤ 100 := by omega
  have b100 : (b.size : Int) ≤ 100 := by omega
  clear hx hy
  go_enter Tryd.func4, Tryd.ntmps4
  go_wp2_with fail
  refine (falive_any R _).mono ?_
  rintro r w1 ⟨rfl, hb1⟩
  go_wp2_with fail
  refine (HA.out _).mono ?_
  rintro r w2 ⟨rfl, hb2⟩
  have hn2 := below_step hb1 (Nat.le_refl _) hb2
  clear hb1 hb2
  go_wp2_with fail
  refine (HB.out _).mono ?_
  rintro r w3 ⟨rfl, hb3⟩
  have hn3 := below_step hn2 (Nat.le_refl _) hb3
  clear hb3 hn2
  go_wp2_with fail
  refine (HX.out _).mono ?_
  rintro r w4 ⟨rfl, hb4⟩
  have hn4 := below_step hn3 (Nat.le_refl _) hb4
  clear hb4 hn3
  go_wp2_with fail
  go_loop [12, 13] (fun s i => ∃ (k : Nat) (u : ByteArray), k ≤ yb.size ∧ i = .int .i64 k ∧ s = .string u ∧ Hid (u = strOf (xb.data.toList ++ ups (upTo (yb.data.toList.take k)))) ∧ u.size ≤ xb.size + 3 * (k + 1)) (fun _ i => yb.size - (intOf i).toNat)
  case atStart => exact ⟨0, xb, by omega, rfl, rfl, by
    unfold Hid
    rw [List.take_zero, upTo, ups, List.append_nil, strOf_of], by omega⟩
  case round =>
    obtain ⟨k, u, hk, rfl, rfl, HUK, hus⟩ := hrel
    by_cases hlt : k < yb.size
    · have hat := str_at yb k hlt
      have hb1 := byte_lt (yb[k]'hlt)
      have hstep : upTo (yb.data.toList.take (k + 1)) = upTo (yb.data.toList.take k) + (if yb.data.toList.take k = [] ∨ yb[k]'hlt = 47 then 1 else 0) := by
        rw [take_one hat, upTo_snoc]
      by_cases hq : k = 0 ∨ yb[k]'hlt = 47
      · have hcond : yb.data.toList.take k = [] ∨ yb[k]'hlt = 47 := by
          rcases hq with rfl | h
          · exact .inl rfl
          · exact .inr h
        rw [if_pos hcond] at hstep
        have HN : Hid (u ++ (⟨#[47, 46, 46]⟩ : ByteArray) = strOf (xb.data.toList ++ ups (upTo (yb.data.toList.take (k + 1))))) := by
          unfold Hid
          rw [hstep, ups_snoc, HUK.out, show (⟨#[47, 46, 46]⟩ : ByteArray) = strOf [47, 46, 46] from rfl]
          unfold strOf
          simp only [strOf_append, List.append_assoc]
        have hu3 : (u ++ (⟨#[47, 46, 46]⟩ : ByteArray)).size ≤ xb.size + 3 * (k + 1 + 1) := by
          rw [ByteArray.size_append]
          have : (⟨#[47, 46, 46]⟩ : ByteArray).size = 3 := rfl
          omega
        clear hstep hcond hat HUK
        by_cases h0 : k = 0
        · have k0 : ((k : Int) == 0) = true := by rw [h0]; rfl
          have k0n : (k == 0) = true := by rw [h0]; rfl
          clear hq h0
          go_wp2
          go_round
          case rel => exact ⟨k + 1, _, by omega, by go_num, rfl, HN, hu3⟩
          case measure => simp [intOf]; omega
        · have k0 : ((k : Int) == 0) = false := by rw [beq_eq_false_iff_ne]; omega
          have k0n : (k == 0) = false := by rw [beq_eq_false_iff_ne]; omega
          have hy47 : (((yb[k]'hlt).toNat : Int) == 47) = true := by
            rcases hq with h | h
            · exact absurd h h0
            · rw [h]; rfl
          clear hq h0
          go_wp2
          go_round
          case rel => exact ⟨k + 1, _, by omega, by go_num, rfl, HN, hu3⟩
          case measure => simp [intOf]; omega
      · have hcond : ¬ (yb.data.toList.take k = [] ∨ yb[k]'hlt = 47) := by
          rintro (h | h)
          · have := congrArg List.length h
            rw [List.length_take, hyz, List.length_nil] at this
            exact hq (.inl (by omega))
          · exact hq (.inr h)
        rw [if_neg hcond, Nat.add_zero] at hstep
        have HN : Hid (u = strOf (xb.data.toList ++ ups (upTo (yb.data.toList.take (k + 1))))) := by
          unfold Hid
          rw [hstep]
          exact HUK.out
        have k0 : ((k : Int) == 0) = false := by rw [beq_eq_false_iff_ne]; omega
        have k0n : (k == 0) = false := by rw [beq_eq_false_iff_ne]; omega
        have hy47 : (((yb[k]'hlt).toNat : Int) == 47) = false := by
          rw [beq_eq_false_iff_ne]
          intro e
          exact hq (.inr (UInt8.toNat_inj.1 (by rw [show (47 : UInt8).toNat = 47 from rfl]; omega)))
        clear hstep hcond hat HUK hq
        go_wp2
        go_round
        case rel => exact ⟨k + 1, _, by omega, by go_num, rfl, HN, by omega⟩
        case measure => simp [intOf]; omega
    · obtain rfl : k = yb.size := by omega
      have hfin : u = strOf (xb.data.toList ++ ups (yb.data.toList.count 47 + 1)) := by
        rw [HUK.out, ← HUP.out, ← hyz, List.take_length]
      have HFIN := Lib.hid hfin
      have hxu : xb.size ≤ u.size := by
        rw [hfin, strOf_size, List.length_append, Array.length_toList]
        have h1 : xb.data.size = xb.size := rfl
        omega
      have hxuI : (xb.size : Int) ≤ (u.size : Int) := by omega
      clear HUK hfin
      have z1 : (xb ++ (⟨#[47]⟩ : ByteArray)).size ≤ 102 := by
        rw [ByteArray.size_append]
        have : (⟨#[47]⟩ : ByteArray).size = 1 := rfl
        omega
      have z2 : (xb ++ (⟨#[47]⟩ : ByteArray) ++ yb).size ≤ 203 := by
        rw [ByteArray.size_append]
        omega
      have z3 : (u.extract xb.size u.size).size ≤ 500 := by
        rw [ByteArray.size_extract]
        omega
      go_wp2_with fail
      refine (HU.out u _ HFIN.out).mono ?_
      rintro r w5 ⟨rfl, hb5⟩
      have hn5 := below_step hn4 (Nat.le_refl _) hb5
      clear hb5 hn4 z1 z2 z3
      go_wp2_with fail
      refine (HJ.out _).mono ?_
      rintro r w6 ⟨rfl, hb6⟩
      have hn6 := below_step hn5 (Nat.le_refl _) hb6
      clear hb6 hn5
      go_wp2
      go_ret
      exact ⟨by simp, hn6⟩

/-- One of both is none. -/
theorem fclean_one (R : FileSays) (a b xb yb : ByteArray) (x y : Bool) (w : World) (ha : a.size ≤ 100) (hb : b.size ≤ 100) (hx : cleanPath a.data.toList = (xb.data.toList, x)) (hy : cleanPath b.data.toList = (yb.data.toList, y)) (h : x = false ∨ y = false) :
    Calls Tryd.prog 4 #[.string a, .string b] w fun e w' => e = .returned (.bool true) ∧ Below w.heap.size w w' := by
  have HA : Hid (∀ W : World, Calls Tryd.prog 6 #[.string a] W (TextBool xb x W)) := fun W => by
    have := R.clean a W (by omega)
    rw [hx] at this
    unfold StrBool at this
    rw [strOf_of] at this
    exact this
  have HB : Hid (∀ W : World, Calls Tryd.prog 6 #[.string b] W (TextBool yb y W)) := fun W => by
    have := R.clean b W (by omega)
    rw [hy] at this
    unfold StrBool at this
    rw [strOf_of] at this
    exact this
  have hxz : x = false → xb.size = 0 := fun e => by
    rw [e] at hx
    have := congrArg List.length (clean_bad hx)
    rw [Array.length_toList] at this
    exact this
  have a100 : (a.size : Int) ≤ 100 := by omega
  have b100 : (b.size : Int) ≤ 100 := by omega
  clear hx hy
  cases x
  · have hz := hxz rfl
    clear hxz h
    go_enter Tryd.func4, Tryd.ntmps4
    go_wp2_with fail
    refine (falive_any R _).mono ?_
    rintro r w1 ⟨rfl, hb1⟩
    go_wp2_with fail
    refine (HA.out _).mono ?_
    rintro r w2 ⟨rfl, hb2⟩
    have hn2 := below_step hb1 (Nat.le_refl _) hb2
    clear hb1 hb2
    go_wp2_with fail
    refine (HB.out _).mono ?_
    rintro r w3 ⟨rfl, hb3⟩
    have hn3 := below_step hn2 (Nat.le_refl _) hb3
    clear hb3 hn2
    go_wp2
    go_ret
    exact ⟨by simp, hn3⟩
  · have hy0 : y = false := by rcases h with h | h; exact absurd h (by decide); exact h
    subst hy0
    clear hxz h
    go_enter Tryd.func4, Tryd.ntmps4
    go_wp2_with fail
    refine (falive_any R _).mono ?_
    rintro r w1 ⟨rfl, hb1⟩
    go_wp2_with fail
    refine (HA.out _).mono ?_
    rintro r w2 ⟨rfl, hb2⟩
    have hn2 := below_step hb1 (Nat.le_refl _) hb2
    clear hb1 hb2
    go_wp2_with fail
    refine (HB.out _).mono ?_
    rintro r w3 ⟨rfl, hb3⟩
    have hn3 := below_step hn2 (Nat.le_refl _) hb3
    clear hb3 hn2
    go_wp2
    all_goals
      go_ret
      exact ⟨by simp, hn3⟩

theorem fclean_any (R : FileSays) (a b : ByteArray) (w : World) :
    Calls Tryd.prog 4 #[.string a, .string b] w fun e w' => e = .returned (.bool true) ∧ Below w.heap.size w w' := by
  by_cases ha : a.size ≤ 100
  · by_cases hb : b.size ≤ 100
    · cases hx : (cleanPath a.data.toList).2
      · exact fclean_one R a b (strOf (cleanPath a.data.toList).1) (strOf (cleanPath b.data.toList).1) false (cleanPath b.data.toList).2 w ha hb (by rw [strOf_data, ← hx]) (by rw [strOf_data]) (.inl rfl)
      · cases hy : (cleanPath b.data.toList).2
        · exact fclean_one R a b (strOf (cleanPath a.data.toList).1) (strOf (cleanPath b.data.toList).1) true false w ha hb (by rw [strOf_data, ← hx]) (by rw [strOf_data, ← hy]) (.inr rfl)
        · exact fclean_both R a b (strOf (cleanPath a.data.toList).1) (strOf (cleanPath b.data.toList).1) w ha hb (by rw [strOf_data, ← hx]) (by rw [strOf_data, ← hy])
    · have a100 : (a.size : Int) ≤ 100 := by omega
      have b100 : (100 : Int) < (b.size : Int) := by omega
      clear ha hb
      go_enter Tryd.func4, Tryd.ntmps4
      go_wp2_with fail
      refine (falive_any R _).mono ?_
      rintro r w1 ⟨rfl, hb1⟩
      go_wp2
      go_ret
      exact ⟨rfl, hb1⟩
  · have a100 : (100 : Int) < (a.size : Int) := by omega
    clear ha
    go_enter Tryd.func4, Tryd.ntmps4
    go_wp2_with fail
    refine (falive_any R _).mono ?_
    rintro r w1 ⟨rfl, hb1⟩
    go_wp2
    go_ret
    exact ⟨rfl, hb1⟩

end Go.Proofs.YtgcdmcdolpdjdaaDoor
