/- The walk of the statement CheckerMore: it returns true, and writes nothing that was there. -/
import Derived.Test.YtlghhnfpmekdnaaChkMorePlain
namespace Go.Proofs.Ytlghhnfpmekdnaa
open Go.RowKit

theorem more_ok (l : List Ins) (k : Int) (hok : ∀ y ∈ l, y.Ok) (hk : 0 ≤ k ∧ k ≤ 4294967295) : ∀ y ∈ moreL l k, y.Ok := by
  intro y hy
  unfold moreL at hy
  rcases List.mem_append.1 hy with h | h
  · exact hok y h
  · simp only [List.mem_cons, List.not_mem_nil, or_false] at h
    rcases h with rfl | rfl
    · exact ins_ok (by omega) (by omega) (by omega) (by omega)
    · exact ins_ok (by omega) (by omega) (by omega) hk

set_option maxRecDepth 100000 in
set_option maxHeartbeats 2000000 in
theorem cmore_in (R : ChkSays) (A : Option Addr) (n c : Nat) (l : List Ins) (k : Int) (a : Nat) (w : World) (hl : Lies w w.heap.size 4 A n (cellsOf l)) (hnc : n ≤ c) (hok : ∀ y ∈ l, y.Ok) (hk : 0 ≤ k ∧ k ≤ 4294967295) (hn : n ≤ 200) (ha : a ≤ 9223372036854775807) :
    Calls Try.prog 7 #[.slice A n c, .int .u32 k, .int .i64 a] w fun r w' => r = .returned (.bool true) ∧ Below w.heap.size w w' := by
  obtain ⟨i0, hi, hz0, hz1, hz2⟩ := info_parts Try.infoInsK
  have hln : l.length = n := by have := hl.1; rw [cells_len] at this; omega
  have HLN := Lib.hid hln
  have HL := Lib.hid hl
  have HOK := Lib.hid hok
  have b0 : decide ((200 : Int) < (n : Int)) = false := decide_eq_false (by omega)
  have b0' : decide (200 < n) = false := decide_eq_false (by omega)
  have b1 : decide ((a : Int) < 0) = false := decide_eq_false (by omega)
  clear hl hok hln
  obtain ⟨K, hK⟩ : ∃ K, K = checkOf l := ⟨_, rfl⟩
  have HK := Lib.hid hK
  clear hK
  go_enter Try.func7, Try.ntmps7
  go_wp2_with fail
  refine (calive_any R _).mono ?_
  rintro r w1 ⟨rfl, hb1⟩
  have hl1 : Lies w1 w1.heap.size 4 A n (cellsOf l) := (HL.out.below hb1).wider hb1.size
  go_wp2_with fail
  refine (R.check A n c l _ hl1 hnc HOK.out (by omega)).mono ?_
  rw [← HK.out]
  obtain ⟨kn, kb⟩ := K
  rintro r w2 ⟨rfl, hb2⟩
  have hn2 := below_step hb1 (Nat.le_refl _) hb2
  clear hb1 hl1 hb2
  cases kb
  · go_wp2
    go_ret
    exact ⟨rfl, hn2⟩
  · have hin : (checkOf l).2 = true := by rw [← HK.out]
    have hn1 : 1 ≤ n := by have := (let_in l hin).1; have := HLN.out; omega
    have HM : Hid (checkOf (moreL l k) = (-1, true)) := more_in l k hin (by have := HLN.out; omega)
    have hs2 := hn2.size
    have hl2 : Lies w2 w.heap.size 4 A n (cellsOf l) := HL.out.below hn2
    clear hin
    go_wp2_with (at_builtin; go_loud (refine wpList_append_lies _ rfl (.const (.slice none 0 0)) (.tmp 37) _ rfl w.heap.size 39 i0 _ 4 32 Try.underlying22 hi hz0 hz1 hz2 rfl (by omega) (.slice none 0 0) 0 [] rfl (World.ownsRow_nil _ _ _ _) _ A n c _ rfl hl2 (cells_one _) (by unfold maxLen; omega) (by omega) (by omega) ?_))
    intro v5 w5 hown5 hg5
    have hn5 : Below w.heap.size w w5 := below_grown hn2 (World.ownsRow_nil w2 w.heap.size 39 4) (Nat.le_refl _) (by omega) hg5
    have hz5 := hn5.size
    clear hg5 hl2 hn2
    go_wp2_with (at_builtin; go_loud (refine wpList_append_lit _ rfl (.tmp 38) (.tmp 42) _ rfl w.heap.size 39 i0 _ 4 32 Try.underlying22 hi hz0 hz1 hz2 rfl (by omega) _ _ _ rfl hown5 _ _ 2 2 rfl rfl ?e1 ?e2 ?e3 ?e4 ?_))
    case e1 => simp [Value.oneCell']
    case e2 => unfold maxLen; omega
    case e3 => omega
    case e4 => omega
    intro v6 w6 hown6 hg6
    have hn6 : Below w.heap.size w w6 := below_grown (hn5.alloc (by omega) _) (hown5.alloc _) (Nat.le_refl _) (by simp; omega) hg6
    obtain ⟨A6, c6, rfl, hc6, hl6⟩ := own_form hown6
    clear hg6 hn5 hown5 hown6 hz5 hi hz0 hz1 hz2
    go_wp2_with fail
    refine (R.check A6 _ c6 (moreL l k) _ (by rw [show cellsOf (moreL l k) = cellsOf l ++ cellsOf [⟨132, 0, 0, 0⟩, ⟨6, 0, 0, k⟩] from by simp [moreL, cellsOf]]; exact hl6) hc6 (more_ok l k HOK.out hk) (by omega)).mono ?_
    rw [HM.out]
    rintro r w7 ⟨rfl, hb7⟩
    have hn7 := below_step hn6 (Nat.le_refl _) hb7
    have hl7 : Lies w7 w7.heap.size 4 A n (cellsOf l) := (HL.out.below hn7).wider hn7.size
    clear hb7 hn6 hl6
    -- the beginning
    obtain ⟨q, hq⟩ : ∃ q : Nat, q = a % n := ⟨_, rfl⟩
    have hqn : q < n := by rw [hq]; exact Nat.mod_lt _ (by omega)
    have hmod : (a : Int) % (n : Int) = (q : Int) := by rw [hq]; simp
    clear hq
    have hlq : Lies w7 w7.heap.size 4 A q (cellsOf (l.take q)) := by
      rw [cells_take l q (by have := HLN.out; omega), Nat.mul_comm]
      exact hl7.front (by omega)
    have hqq : (q : Int) ≤ (n : Int) := by omega
    have hqc : (q : Int) ≤ (c : Int) := by omega
    have hn0 : ((n : Int) == 0) = false := by rw [beq_eq_false_iff_ne]; omega
    obtain ⟨C, hC⟩ : ∃ C, C = checkOf (l.take q) := ⟨_, rfl⟩
    have HC := Lib.hid hC
    clear hC
    go_wp2_with fail
    refine (R.check A q c (l.take q) _ hlq (by omega) (fun y hy => HOK.out y (List.mem_of_mem_take hy)) (by omega)).mono ?_
    rw [← HC.out]
    obtain ⟨cn, cb⟩ := C
    rintro r w8 ⟨rfl, hb8⟩
    have hn8 := below_step hn7 (Nat.le_refl _) hb8
    have hl8 : Lies w8 w8.heap.size 4 A n (cellsOf l) := (HL.out.below hn8).wider hn8.size
    clear hb8 hn7 hl7 hlq
    by_cases hq0 : q = 0
    · subst hq0
      have hcb : cb = false := by
        have := HC.out
        rw [List.take_zero, check_nil] at this
        exact congrArg Prod.snd this
      subst hcb
      go_wp2
      go_ret
      exact ⟨rfl, hn8⟩
    · obtain ⟨x, hx⟩ : ∃ x, l[q - 1]? = some x := ⟨_, List.getElem?_eq_getElem (by have := HLN.out; omega)⟩
      obtain ⟨a0, _, _, _⟩ := cell_at l (q - 1) x hx
      obtain ⟨bi, oi, rfl, hbi, hci⟩ := hl8.2 (by omega)
      have e0 := hci _ _ a0
      have hend : cb = true → x.code = 6 ∨ x.code = 22 := by
        intro h
        refine cut_ends (l.take q) (fun y hy => HOK.out y (List.mem_of_mem_take hy)) (by rw [← HC.out]; exact h) x ?_
        have hlt : (l.take q).length = q := by simp; have := HLN.out; omega
        rw [hlt, List.getElem?_take_of_lt (by omega)]
        exact hx
      have n1 : ((q : Int) - 1).toNat = q - 1 := by omega
      have q0 : ((q : Int) == 0) = false := by rw [beq_eq_false_iff_ne]; omega
      have q1 : (0 : Int) ≤ (q : Int) - 1 := by omega
      obtain ⟨code, jt, jf, kk⟩ := x
      dsimp only at *
      clear a0 hci hx hl8
      cases cb
      · clear hend
        go_wp2
        go_ret
        exact ⟨rfl, hn8⟩
      · rcases hend rfl with rfl | rfl
        all_goals
          clear hend
          go_wp2
          go_ret
          exact ⟨rfl, hn8⟩

set_option maxRecDepth 100000 in
theorem cmore_out (R : ChkSays) (A : Option Addr) (n c : Nat) (k a : Int) (w : World) (hm : n ≤ 140737488355328) (h : 200 < n ∨ a < 0) :
    Calls Try.prog 7 #[.slice A n c, .int .u32 k, .int .i64 a] w fun r w' => r = .returned (.bool true) ∧ Below w.heap.size w w' := by
  by_cases h0 : 200 < n
  · have b0 : decide ((200 : Int) < (n : Int)) = true := decide_eq_true (by omega)
    have b0' : decide (200 < n) = true := decide_eq_true (by omega)
    clear h
    go_enter Try.func7, Try.ntmps7
    go_wp2_with fail
    refine (calive_any R _).mono ?_
    rintro r w1 ⟨rfl, hb1⟩
    go_wp2
    go_ret
    exact ⟨rfl, hb1⟩
  · have b0 : decide ((200 : Int) < (n : Int)) = false := decide_eq_false (by omega)
    have b0' : decide (200 < n) = false := decide_eq_false (by omega)
    have b1 : decide (a < 0) = true := decide_eq_true (by omega)
    clear h
    go_enter Try.func7, Try.ntmps7
    go_wp2_with fail
    refine (calive_any R _).mono ?_
    rintro r w1 ⟨rfl, hb1⟩
    go_wp2
    go_ret
    exact ⟨rfl, hb1⟩

theorem cmore_any (R : ChkSays) (A : Option Addr) (n c : Nat) (l : List Ins) (k a : Int) (w : World) (hl : Lies w w.heap.size 4 A n (cellsOf l)) (hnc : n ≤ c) (hok : ∀ y ∈ l, y.Ok) (hm : n ≤ 140737488355328) (hk : 0 ≤ k ∧ k ≤ 4294967295) (ha : -9223372036854775808 ≤ a ∧ a ≤ 9223372036854775807) :
    Calls Try.prog 7 #[.slice A n c, .int .u32 k, .int .i64 a] w fun r w' => r = .returned (.bool true) ∧ Below w.heap.size w w' := by
  by_cases h : 200 < n ∨ a < 0
  · exact cmore_out R A n c k a w hm h
  · obtain ⟨b, rfl⟩ := Int.eq_ofNat_of_zero_le (show 0 ≤ a by omega)
    exact cmore_in R A n c l k b w hl hnc hok hk (by omega) (by omega)

end Go.Proofs.Ytlghhnfpmekdnaa
