/- What the landed checker's flow gives: how it begins, whether a load is of an unset cell, what an instruction brings to those behind. -/
import Derived.Test.YtlghhnfpmekdnaaChkOps
import Derived.Test.YtlghhnfpmekdnaaChkFacts
namespace Go.Proofs.Ytlghhnfpmekdnaa.LandedChk
open Go.RowKit

theorem box_drewN {w : World} {g : Nat} {t : TypeId} {cs : Array Value} (h : Box w g t cs) (n : Nat) : Box (w.drewN n) g t cs := h

theorem box_other {w : World} {g g' i : Nat} {t : TypeId} {cs : Array Value} {u : Value} (h : Box w g t cs) (hg : g ≠ g') : Box (w.setCell ⟨g', i, none⟩ u) g t cs := by
  have := (only_set w g' i u).block g h.lt (by simpa using hg)
  unfold Box
  rw [this]
  exact h

/-- All cells for so many behind the first. -/
def fillBehind (n k : Nat) : List Int := 0 :: fillMask (n - 1) k
theorem behind_none (n : Nat) (h : 1 ≤ n) : fillBehind n 0 = List.replicate n 0 := by
  rw [fillBehind, fill_none, show n = (n - 1) + 1 from by omega, List.replicate_succ]
  rfl
theorem behind_all (n : Nat) (h : 1 ≤ n) : fillBehind n (n - 1) = startMask n := by
  rw [fillBehind, fill_all, startMask, show n = (n - 1) + 1 from by omega, List.replicate_succ]
  rfl
theorem behind_step (n k : Nat) (h : k < n - 1) : (fillBehind n k).set (k + 1) 65535 = fillBehind n (k + 1) := by
  rw [fillBehind, List.set_cons_succ, fill_step _ _ h]
  rfl
theorem behind_len (n k : Nat) (h : 1 ≤ n) (hk : k ≤ n - 1) : (fillBehind n k).length = n := by
  rw [fillBehind, List.length_cons, fill_len _ _ hk]
  omega

/-- What begin gives. -/
def Begun (n : Nat) (w : World) : Ending → World → Prop :=
  fun r w' => r = .returned (.slice (some ⟨w.heap.size, 0, none⟩) n n) ∧ Box w' w.heap.size 3 (intsV (startMask n)) ∧ Below w.heap.size w w'

set_option maxRecDepth 100000 in
set_option maxHeartbeats 2000000 in
theorem begin_any (n : Nat) (w : World) (h1 : 1 ≤ n) (h2 : n ≤ 4096) : Calls Try.prog 16 #[.int .i64 n] w (Begun n w) := by
  obtain ⟨i0, hi, hz0, hz1, hz2⟩ := info_parts Try.infoInt
  go_enter Try.func16, Try.ntmps16
  go_wp2_with (at_make; go_loud (refine wpList_make_full _ rfl _ _ 43 rfl w.heap.size 3 i0 _ 1 Try.underlying43 hi hz0 hz1 .i64 .i64 _ _ n rfl rfl rfl rfl (by rw [hz2]; omega) (by unfold maxLen; omega) (Nat.le_refl _) ?_))
  intro w1 hown1 hg1
  rw [made_ints] at hown1
  obtain ⟨_, hbx1⟩ := box_of_own hown1
  have hnx1 : Below w.heap.size w w1 := (Below.refl _ _).grown hg1 (Nat.le_refl _) (by simp)
  have hgl1 := hbx1.lt
  rw [← behind_none n h1] at hbx1
  clear hown1 hg1
  have hs1 := hnx1.size
  obtain ⟨g, hg⟩ : ∃ g, g = w.heap.size := ⟨_, rfl⟩
  rw [← hg] at hbx1 hnx1 hgl1 hs1 ⊢
  have HG := Lib.hid hg
  clear hg hi hz0 hz1 hz2
  go_wp2_with fail
  go_loopw [4, 9] (fun _ i wr => ∃ k : Nat, k ≤ n - 1 ∧ i = .int .i64 k ∧ Box wr g 3 (intsV (fillBehind n k)) ∧ Below g w wr) (fun _ i _ => n - (intOf i).toNat)
  case atStart => exact ⟨0, by omega, rfl, hbx1, hnx1⟩
  case round =>
    obtain ⟨k, hk, rfl, hbx, hnx⟩ := hrel
    have hgl := hbx.lt
    by_cases hlt : k < n - 1
    · have hltI : (k : Int) < (n : Int) - 1 := by omega
      have h9 : wr.cell? ⟨g, k + 1, none⟩ = some (.int .i64 ((fillBehind n k).getD (k + 1) 0)) := (hbx.cell (k + 1)).trans (intsV_at _ (k + 1) (by rw [behind_len n k h1 hk]; omega))
      have z9 : wr.frozen? ⟨g, k + 1, none⟩ = false := hbx.free (k + 1)
      have HB2 := Lib.hid hbx
      clear hbx hbx1
      go_wp2
      go_roundw
      case rel => exact ⟨k + 1, by omega, by go_num, by rw [← behind_step n k hlt, ← intsV_set]; exact HB2.out.set (k + 1) _, hnx.setCell (p := ⟨g, k + 1, none⟩) (Nat.le_refl _) _⟩
      case measure => simp [intOf]; omega
    · obtain rfl : k = n - 1 := by omega
      have hltI : ¬ (((n - 1 : Nat) : Int) < (n : Int) - 1) := by omega
      rw [behind_all n h1] at hbx
      go_wp2
      go_ret
      exact ⟨by rw [HG.out]; rfl, by rw [← HG.out]; exact hbx, by rw [← HG.out]; exact hnx⟩

set_option maxRecDepth 100000 in
set_option maxHeartbeats 2000000 in
theorem unset_any (g n i : Nat) (o : List Int) (x : Ins) (w : World) (hx : x.Ok) (hi : i < n) (hl : o.length = n) (hb : Box w g 3 (intsV o)) (hk : x.code = 96 ∨ x.code = 97 → x.k < 16) :
    Calls Try.prog 18 #[.slice (some ⟨g, 0, none⟩) n n, .int .i64 i, .agg #[.int .i64 x.code, .int .i64 x.jt, .int .i64 x.jf, .int .u32 x.k]] w (Tell (badLoad x (o.getD i 0)) w) := by
  have hgl := hb.lt
  have h9 : w.cell? ⟨g, i, none⟩ = some (.int .i64 (o.getD i 0)) := (hb.cell i).trans (intsV_at _ i (by omega))
  clear hb
  obtain ⟨m, hm⟩ : ∃ m, m = o.getD i 0 := ⟨_, rfl⟩
  rw [← hm] at h9 ⊢
  clear hm
  obtain ⟨c, jt, jf, k⟩ := x
  obtain ⟨_, _, _, _, _, _, k0, k1⟩ := hx
  dsimp only at *
  by_cases hld : c = 96 ∨ c = 97
  · have hk16 := hk hld
    obtain ⟨q, rfl⟩ := Int.eq_ofNat_of_zero_le k0
    have hpw := pow16 q (by omega)
    have hv : badLoad ⟨c, jt, jf, (q : Int)⟩ m = (bits .and .i64 m (2 ^ q) == 0) := by
      rw [bit_is m q (by omega)]
      unfold badLoad
      rcases hld with rfl | rfl <;> rfl
    rw [hv]
    clear hv hk
    have n0 : ((q : Int)).toNat = q := by omega
    have n1 : IntKind.i64.wrap ((1 : Int) * (2 : Int) ^ q) = (2 : Int) ^ q := by
      rw [Int.one_mul]
      exact IntWalk.i64_in _ (by omega)
    rcases hld with rfl | rfl
    all_goals
      go_enter Try.func18, Try.ntmps18
      go_wp2_with fail
      go_quiet (fail)
      go_wp2
      go_ret
      exact ⟨rfl, below_drewN ((Below.refl _ _).alloc (Nat.le_refl _) _) _⟩
  · have hv : badLoad ⟨c, jt, jf, k⟩ m = false := by
      unfold badLoad
      simp only [not_or] at hld
      simp [hld.1, hld.2]
    rw [hv]
    have c96 : (c == 96) = false := by rw [beq_eq_false_iff_ne]; exact fun e => hld (.inl e)
    have c97 : (c == 97) = false := by rw [beq_eq_false_iff_ne]; exact fun e => hld (.inr e)
    clear hv hld hk
    go_enter Try.func18, Try.ntmps18
    go_wp2_with fail
    go_quiet (fail)
    go_wp2
    go_ret
    exact ⟨rfl, below_drewN ((Below.refl _ _).alloc (Nat.le_refl _) _) _⟩

/-- What pass gives. -/
def Passed (g : Nat) (o : List Int) (w : World) : Ending → World → Prop :=
  fun e w' => e = .returned (.tuple #[]) ∧ Box w' g 3 (intsV o) ∧ Below g w w'

/-- What one call of it is to give. -/
def Passes (g n i : Nat) (o : List Int) (x : Ins) (w : World) : Prop :=
  Calls Try.prog 19 #[.slice (some ⟨g, 0, none⟩) n n, .int .i64 i, .agg #[.int .i64 x.code, .int .i64 x.jt, .int .i64 x.jf, .int .u32 x.k]] w (Passed g (spread x i o) w)

set_option maxRecDepth 100000 in
set_option maxHeartbeats 2000000 in
theorem pass_ret (g n i : Nat) (o : List Int) (x : Ins) (w : World) (hi : i < n) (hn : n ≤ 4096) (hl : o.length = n) (hb : Box w g 3 (intsV o)) (hr : isRet x.code = true) : Passes g n i o x w := by
  unfold Passes
  have hgl := hb.lt
  have h9 : w.cell? ⟨g, i, none⟩ = some (.int .i64 (o.getD i 0)) := (hb.cell i).trans (intsV_at _ i (by omega))
  have HB := Lib.hid hb
  have HR := Lib.hid hr
  have hs : spread x i o = o := by
    unfold spread
    rw [if_pos]
    simpa [isRet] using hr
  rw [hs]
  clear hb hr hs
  go_enter Try.func19, Try.ntmps19
  go_wp2_with fail
  go_quiet (fail)
  go_wp2_with fail
  refine (returns_any _ _).mono ?_
  rw [HR.out]
  rintro r w1 ⟨rfl, rfl⟩
  go_wp2
  go_end0
  exact ⟨rfl, box_drewN (HB.out.alloc _) _, below_drewN ((Below.refl _ _).alloc (by omega) _) _⟩

set_option maxRecDepth 100000 in
set_option maxHeartbeats 2000000 in
theorem pass_ja (g n i : Nat) (o : List Int) (x : Ins) (w : World) (hx : x.Ok) (hi : i < n) (hn : n ≤ 4096) (hl : o.length = n) (hb : Box w g 3 (intsV o)) (h5 : x.code = 5) (hk : x.k < (n : Int) - 1 - (i : Int)) : Passes g n i o x w := by
  unfold Passes
  obtain ⟨c, jt, jf, k⟩ := x
  obtain ⟨_, _, _, _, _, _, k0, k1⟩ := hx
  dsimp only at *
  subst h5
  obtain ⟨q, rfl⟩ := Int.eq_ofNat_of_zero_le k0
  have hgl := hb.lt
  have h9 : w.cell? ⟨g, i, none⟩ = some (.int .i64 (o.getD i 0)) := (hb.cell i).trans (intsV_at _ i (by omega))
  have ht : w.cell? ⟨g, i + 1 + q, none⟩ = some (.int .i64 (o.getD (i + 1 + q) 0)) := (hb.cell _).trans (intsV_at _ _ (by omega))
  have hz : w.frozen? ⟨g, i + 1 + q, none⟩ = false := hb.free _
  have HB := Lib.hid hb
  have HS : Hid (spread ⟨5, jt, jf, (q : Int)⟩ i o = o.set (i + 1 + q) (bits .and .i64 (o.getD (i + 1 + q) 0) (o.getD i 0))) := rfl
  obtain ⟨old, hold⟩ : ∃ old, old = o.getD (i + 1 + q) 0 := ⟨_, rfl⟩
  obtain ⟨has, hhas⟩ : ∃ has, has = o.getD i 0 := ⟨_, rfl⟩
  rw [← hold] at ht HS
  rw [← hhas] at h9 HS
  clear hb hold hhas
  have n0 : IntKind.i64.wrap (q : Int) = (q : Int) := IntWalk.i64_in _ (by omega)
  have n1 : IntKind.i64.wrap ((i : Int) + 1) = (i : Int) + 1 := IntWalk.i64_in _ (by omega)
  have n2 : IntKind.i64.wrap ((i : Int) + 1 + (q : Int)) = (i : Int) + 1 + (q : Int) := IntWalk.i64_in _ (by omega)
  have n3 : ((i : Int) + 1 + (q : Int)).toNat = i + 1 + q := by omega
  have n4 : (0 : Int) ≤ (i : Int) + 1 + (q : Int) := by omega
  have n5 : (i : Int) + 1 + (q : Int) < (n : Int) := by omega
  go_enter Try.func19, Try.ntmps19
  go_wp2_with fail
  go_quiet (fail)
  go_wp2_with fail
  refine (returns_any _ _).mono ?_
  rintro r w1 ⟨rfl, rfl⟩
  go_wp2
  go_end0
  refine ⟨rfl, ?_, ?_⟩
  · rw [HS.out, ← intsV_set]
    exact (box_drewN (HB.out.alloc _) _).set _ _
  · exact (below_drewN ((Below.refl g w).alloc (by omega) _) _).setCell (p := ⟨g, i + 1 + q, none⟩) (Nat.le_refl _) _

set_option maxRecDepth 100000 in
set_option maxHeartbeats 2000000 in
theorem pass_jump (g n i : Nat) (o : List Int) (x : Ins) (w : World) (hx : x.Ok) (hi : i < n) (hn : n ≤ 4096) (hl : o.length = n) (hb : Box w g 3 (intsV o)) (h0 : 0 ≤ x.jt) (h1 : 0 ≤ x.jf) (hj : isJump x.code = true) (h2 : x.jt < (n : Int) - 1 - (i : Int)) (h3 : x.jf < (n : Int) - 1 - (i : Int)) : Passes g n i o x w := by
  unfold Passes
  obtain ⟨c, jt, jf, k⟩ := x
  obtain ⟨_, _, _, _, _, _, k0, k1⟩ := hx
  dsimp only at *
  obtain ⟨q, rfl⟩ := Int.eq_ofNat_of_zero_le h0
  obtain ⟨r, rfl⟩ := Int.eq_ofNat_of_zero_le h1
  have hr : ¬ (c = 6 ∨ c = 22) := by rcases jump_mem hj with rfl | rfl | rfl | rfl | rfl | rfl | rfl | rfl <;> decide
  have h5 : ¬ c = 5 := by rcases jump_mem hj with rfl | rfl | rfl | rfl | rfl | rfl | rfl | rfl <;> decide
  have hr' : isRet c = false := by
    simp only [not_or] at hr
    simp [isRet, hr.1, hr.2]
  have hgl := hb.lt
  have h9 : w.cell? ⟨g, i, none⟩ = some (.int .i64 (o.getD i 0)) := (hb.cell i).trans (intsV_at _ i (by omega))
  have ht : w.cell? ⟨g, i + 1 + q, none⟩ = some (.int .i64 (o.getD (i + 1 + q) 0)) := (hb.cell _).trans (intsV_at _ _ (by omega))
  have hz : w.frozen? ⟨g, i + 1 + q, none⟩ = false := hb.free _
  have HB := Lib.hid hb
  have HS : Hid (spread ⟨c, (q : Int), (r : Int), k⟩ i o = putAnd (putAnd o (i + 1 + q) (o.getD i 0)) (i + 1 + r) (o.getD i 0)) := by
    unfold Hid spread
    rw [if_neg hr, if_neg h5, if_pos hj]
    rfl
  obtain ⟨old, hold⟩ : ∃ old, old = o.getD (i + 1 + q) 0 := ⟨_, rfl⟩
  obtain ⟨has, hhas⟩ : ∃ has, has = o.getD i 0 := ⟨_, rfl⟩
  rw [← hold] at ht
  rw [← hhas] at h9 HS
  have HO := Lib.hid hold
  have HR := Lib.hid hr'
  have HJ := Lib.hid hj
  have c5 : (c == 5) = false := by rw [beq_eq_false_iff_ne]; exact h5
  clear hb hold hhas hr hr' h5 hj
  have n1 : IntKind.i64.wrap ((i : Int) + 1) = (i : Int) + 1 := IntWalk.i64_in _ (by omega)
  have n2 : IntKind.i64.wrap ((i : Int) + 1 + (q : Int)) = (i : Int) + 1 + (q : Int) := IntWalk.i64_in _ (by omega)
  have n3 : ((i : Int) + 1 + (q : Int)).toNat = i + 1 + q := by omega
  have n4 : (0 : Int) ≤ (i : Int) + 1 + (q : Int) := by omega
  have n5 : (i : Int) + 1 + (q : Int) < (n : Int) := by omega
  have n2r : IntKind.i64.wrap ((i : Int) + 1 + (r : Int)) = (i : Int) + 1 + (r : Int) := IntWalk.i64_in _ (by omega)
  have n3r : ((i : Int) + 1 + (r : Int)).toNat = i + 1 + r := by omega
  have n4r : (0 : Int) ≤ (i : Int) + 1 + (r : Int) := by omega
  have n5r : (i : Int) + 1 + (r : Int) < (n : Int) := by omega
  go_enter Try.func19, Try.ntmps19
  go_wp2_with fail
  go_quiet (fail)
  go_wp2_with fail
  refine (returns_any _ _).mono ?_
  rw [HR.out]
  rintro v1 w1 ⟨rfl, rfl⟩
  go_wp2_with fail
  refine (compares_any _ _).mono ?_
  rw [HJ.out]
  rintro v1 w1 ⟨rfl, rfl⟩
  go_upto_region 7 with (fail)
  go_cut [] (fun wx => Box wx g 3 (intsV (putAnd o (i + 1 + q) has)) ∧ Below g w wx ∧ Box wx w.heap.size 39 #[.int .i64 c, .int .i64 q, .int .i64 r, .int .u32 k])
  case first =>
    go_wp2
    go_meet
    refine ⟨?_, ?_, ?_⟩
    · rw [putAnd, ← HO.out, ← intsV_set]
      exact (box_drewN (HB.out.alloc _) _).set _ _
    · exact (below_drewN ((Below.refl g w).alloc (by omega) _) _).setCell (p := ⟨g, i + 1 + q, none⟩) (Nat.le_refl _) _
    · exact box_other (box_drewN (Box.new _ _ _) _) (by omega)
  case rest =>
    obtain ⟨hbc, hnc, hCx⟩ := hcut
    have hgc := hbc.lt
    have hx2 : wc.cell? ⟨w.heap.size, 2, none⟩ = some (.int .i64 (r : Int)) := hCx.cell 2
    have hlp : (putAnd o (i + 1 + q) has).length = n := by rw [putAnd_len]; exact hl
    have ht2 : wc.cell? ⟨g, i + 1 + r, none⟩ = some (.int .i64 ((putAnd o (i + 1 + q) has).getD (i + 1 + r) 0)) := (hbc.cell _).trans (intsV_at _ _ (by omega))
    have hz2 : wc.frozen? ⟨g, i + 1 + r, none⟩ = false := hbc.free _
    have HBC := Lib.hid hbc
    obtain ⟨old2, hold2⟩ : ∃ old2, old2 = (putAnd o (i + 1 + q) has).getD (i + 1 + r) 0 := ⟨_, rfl⟩
    rw [← hold2] at ht2
    have HO2 := Lib.hid hold2
    clear hbc hCx hlp hold2 ht hz n2 n3 n4 n5
    go_wp2
    go_end0
    refine ⟨rfl, ?_, ?_⟩
    · rw [HS.out, putAnd, ← HO2.out, ← intsV_set]
      exact HBC.out.set _ _
    · exact hnc.setCell (p := ⟨g, i + 1 + r, none⟩) (Nat.le_refl _) _

set_option maxRecDepth 100000 in
set_option maxHeartbeats 2000000 in
theorem pass_on (g n i : Nat) (o : List Int) (x : Ins) (w : World) (hx : x.Ok) (hi : i < n) (hn : n ≤ 4096) (hl : o.length = n) (hb : Box w g 3 (intsV o)) (hr : ¬ (x.code = 6 ∨ x.code = 22)) (h5 : ¬ x.code = 5) (hj : ¬ isJump x.code = true) (hk : x.code = 2 ∨ x.code = 3 → x.k < 16) (hm : i + 1 < n) : Passes g n i o x w := by
  unfold Passes
  obtain ⟨c, jt, jf, k⟩ := x
  obtain ⟨_, _, _, _, _, _, k0, k1⟩ := hx
  dsimp only at *
  have hr' : isRet c = false := by
    simp only [not_or] at hr
    simp [isRet, hr.1, hr.2]
  have hj' : isJump c = false := by simpa using hj
  have hgl := hb.lt
  have h9 : w.cell? ⟨g, i, none⟩ = some (.int .i64 (o.getD i 0)) := (hb.cell i).trans (intsV_at _ i (by omega))
  have ht : w.cell? ⟨g, i + 1, none⟩ = some (.int .i64 (o.getD (i + 1) 0)) := (hb.cell _).trans (intsV_at _ _ (by omega))
  have hz : w.frozen? ⟨g, i + 1, none⟩ = false := hb.free _
  have HB := Lib.hid hb
  have HR := Lib.hid hr'
  have HJ := Lib.hid hj'
  have c5 : (c == 5) = false := by rw [beq_eq_false_iff_ne]; exact h5
  obtain ⟨old, hold⟩ : ∃ old, old = o.getD (i + 1) 0 := ⟨_, rfl⟩
  obtain ⟨has, hhas⟩ : ∃ has, has = o.getD i 0 := ⟨_, rfl⟩
  rw [← hold] at ht
  rw [← hhas] at h9
  by_cases hst : c = 2 ∨ c = 3
  · have hk16 := hk hst
    obtain ⟨q, rfl⟩ := Int.eq_ofNat_of_zero_le k0
    have HS : Hid (spread ⟨c, jt, jf, (q : Int)⟩ i o = o.set (i + 1) (bits .and .i64 old (bits .or .i64 has (2 ^ q)))) := by
      unfold Hid spread
      rw [if_neg hr, if_neg h5, if_neg hj, if_pos hst, hhas, hold]
      rfl
    have hpw := pow16 q (by omega)
    have n0 : ((q : Int)).toNat = q := by omega
    have n1 : IntKind.i64.wrap ((1 : Int) * (2 : Int) ^ q) = (2 : Int) ^ q := by
      rw [Int.one_mul]
      exact IntWalk.i64_in _ (by omega)
    have n2 : ((i : Int) + 1).toNat = i + 1 := by omega
    have n3 : (0 : Int) ≤ (i : Int) + 1 := by omega
    have n4 : (i : Int) + 1 < (n : Int) := by omega
    clear hb hold hhas hr hr' h5 hj hj' hk
    rcases hst with rfl | rfl
    all_goals
      go_enter Try.func19, Try.ntmps19
      go_wp2_with fail
      go_quiet (fail)
      go_wp2_with fail
      refine (returns_any _ _).mono ?_
      rintro v1 w1 ⟨rfl, rfl⟩
      go_wp2_with fail
      refine (compares_any _ _).mono ?_
      rintro v1 w1 ⟨rfl, rfl⟩
      go_wp2_with fail
      refine wp_region_still_tail 11 (by kernel_rfl) (by kernel_rfl) ?_
      simp only [List.take_succ_cons, List.take_zero, List.drop_succ_cons, List.drop_zero]
      change wpStill _ _ (World.drew _) _ _ _
      repeat still_step
      refine wpStill_nil ?_
      change wpList _ _ _ _ _ (World.drew _)
      go_wp2
      go_end0
      refine ⟨rfl, ?_, ?_⟩
      · rw [HS.out, ← intsV_set]
        exact ((box_drewN (HB.out.alloc _) _).drew).set _ _
      · exact ((below_drewN ((Below.refl g w).alloc (by omega) _) _).drew).setCell (p := ⟨g, i + 1, none⟩) (Nat.le_refl _) _
  · have HS : Hid (spread ⟨c, jt, jf, k⟩ i o = o.set (i + 1) (bits .and .i64 old has)) := by
      unfold Hid spread
      rw [if_neg hr, if_neg h5, if_neg hj, if_neg hst, hhas, hold]
      rfl
    have c2 : (c == 2) = false := by rw [beq_eq_false_iff_ne]; exact fun e => hst (.inl e)
    have c3 : (c == 3) = false := by rw [beq_eq_false_iff_ne]; exact fun e => hst (.inr e)
    clear hb hold hhas hr hr' h5 hj hj' hk hst
    go_enter Try.func19, Try.ntmps19
    go_wp2_with fail
    go_quiet (fail)
    go_wp2_with fail
    refine (returns_any _ _).mono ?_
    rw [HR.out]
    rintro v1 w1 ⟨rfl, rfl⟩
    go_wp2_with fail
    refine (compares_any _ _).mono ?_
    rw [HJ.out]
    rintro v1 w1 ⟨rfl, rfl⟩
    go_wp2
    go_end0
    refine ⟨rfl, ?_, ?_⟩
    · rw [HS.out, ← intsV_set]
      exact (box_drewN (HB.out.alloc _) _).set _ _
    · exact (below_drewN ((Below.refl g w).alloc (by omega) _) _).setCell (p := ⟨g, i + 1, none⟩) (Nat.le_refl _) _

theorem pass_any (g n i : Nat) (o : List Int) (x : Ins) (w : World) (hx : x.Ok) (hi : i < n) (hn : n ≤ 4096) (hl : o.length = n) (hb : Box w g 3 (intsV o)) (hf : Fine x ((n : Int) - 1 - (i : Int))) : Passes g n i o x w := by
  obtain ⟨⟨p0, p1, p2, p3, _⟩, fja, fjump, fmem, fmore⟩ := hf
  by_cases hr : x.code = 6 ∨ x.code = 22
  · exact pass_ret g n i o x w hi hn hl hb (by rcases hr with e | e <;> simp [isRet, e])
  by_cases h5 : x.code = 5
  · exact pass_ja g n i o x w hx hi hn hl hb h5 (fja h5)
  by_cases hj : isJump x.code = true
  · exact pass_jump g n i o x w hx hi hn hl hb p0 p2 hj (fjump hj).1 (fjump hj).2
  · exact pass_on g n i o x w hx hi hn hl hb hr h5 hj (fun e => fmem (by omega)) (by have := fmore hr; omega)

end Go.Proofs.Ytlghhnfpmekdnaa.LandedChk
