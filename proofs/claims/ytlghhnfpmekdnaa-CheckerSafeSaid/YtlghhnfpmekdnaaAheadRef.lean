/- What the document's own storedAhead gives. -/
import Derived.Test.YtlghhnfpmekdnaaStoredRef
namespace Go.Proofs.Ytlghhnfpmekdnaa
open Go.RowKit

set_option maxRecDepth 100000 in
set_option maxHeartbeats 4000000 in
theorem refAhead_any (A : Option Addr) (n c N : Nat) (l : List Ins) (w : World) (hl : Lies w w.heap.size 4 A n (cellsOf l)) (hok : ∀ y ∈ l, y.Ok) (hN : n ≤ N) (h2 : N ≤ 4096) (hfi : ∀ (i : Nat) (x : Ins), l[i]? = some x → Fine x ((N : Int) - 1 - (i : Int))) :
    Calls Try.prog 21 #[.slice A n c, .int .i64 N] w (NewRow 3 1 (N + 1) ((masks l (startMask (N + 1)) n).map (Value.int .i64)) w) := by
  obtain ⟨i0, hi, hz0, hz1, hz2⟩ := info_parts Try.infoInt
  have hln : l.length = n := by have := hl.1; rw [cells_len] at this; omega
  have HLN := Lib.hid hln
  have HOK := Lib.hid hok
  have HL := Lib.hid hl
  have HF := Lib.hid hfi
  clear hln hok hl hfi
  go_enter Try.func21, Try.ntmps21
  go_wp2_with (at_make; go_loud (refine wpList_make_full _ rfl _ _ 26 rfl w.heap.size 3 i0 _ 1 Try.underlying26 hi hz0 hz1 .i64 .i64 _ _ (N + 1) rfl rfl (by omega) (by omega) (by rw [hz2]; omega) (by unfold maxLen; omega) (Nat.le_refl _) ?_))
  intro w1 hown1 hg1
  try simp only [Nat.mul_one] at hown1
  rw [made_ints] at hown1
  obtain ⟨_, hbx1⟩ := box_of_own hown1
  have hnx1 : Below w.heap.size w w1 := (Below.refl _ _).grown hg1 (Nat.le_refl _) (by simp)
  have hgl1 := hbx1.lt
  rw [← fill_none] at hbx1
  clear hown1 hg1
  have hs1 := hnx1.size
  obtain ⟨g, hg⟩ : ∃ g, g = w.heap.size := ⟨_, rfl⟩
  rw [← hg] at hbx1 hnx1 hgl1 hs1 ⊢
  have HG := Lib.hid hg
  clear hg
  go_wp2_with fail
  go_loopw [6] (fun i wr => ∃ k : Nat, k ≤ N + 1 ∧ i = .int .i64 k ∧ Box wr g 3 (intsV (fillMask (N + 1) k)) ∧ Below g w wr) (fun i _ => N + 1 - (intOf i).toNat)
  case atStart => exact ⟨0, by omega, rfl, hbx1, hnx1⟩
  case round =>
    obtain ⟨k, hk, rfl, hbx, hnx⟩ := hrel
    have hgl := hbx.lt
    by_cases hlt : k < N + 1
    · have h9 : wr.cell? ⟨g, k, none⟩ = some (.int .i64 ((fillMask (N + 1) k).getD k 0)) := (hbx.cell k).trans (intsV_at _ k (by rw [fill_len (N + 1) k hk]; omega))
      have z9 : wr.frozen? ⟨g, k, none⟩ = false := hbx.free k
      have HB2 := Lib.hid hbx
      clear hbx hbx1
      go_wp2
      go_roundw
      case rel => exact ⟨k + 1, by omega, by go_num, by rw [← fill_step (N + 1) k hlt, ← intsV_set]; exact HB2.out.set k _, hnx.setCell (p := ⟨g, k, none⟩) (Nat.le_refl _) _⟩
      case measure => simp [intOf]; omega
    · have HK : Hid (k = N + 1) := by
        show _ = _
        omega
      have hk1 : (N : Int) < (k : Int) := by omega
      have hk2 : (k : Int) ≤ (N : Int) + 1 := by omega
      have hd1 : decide (k ≤ N) = false := decide_eq_false (by omega)
      have hd2 : decide ((k : Int) ≤ (N : Int)) = false := decide_eq_false (by omega)
      rw [HK.out, fill_all] at hbx
      have h0 : wr.cell? ⟨g, 0, none⟩ = some (.int .i64 ((List.replicate (N + 1) (65535 : Int)).getD 0 0)) := (hbx.cell 0).trans (intsV_at _ 0 (by simp))
      have z0 : wr.frozen? ⟨g, 0, none⟩ = false := hbx.free 0
      have HBX := Lib.hid hbx
      clear hbx hbx1 hz0 hz1 hz2 hi
      go_wp2_with fail
      have hbx0 : Box (wr.setCell ⟨g, 0, none⟩ (.int .i64 0)) g 3 (intsV (masks l (startMask (N + 1)) 0)) := by
        have := HBX.out.set 0 (.int .i64 0)
        rw [intsV_set] at this
        exact this
      have hnx0 : Below g w (wr.setCell ⟨g, 0, none⟩ (.int .i64 0)) := hnx.setCell (p := ⟨g, 0, none⟩) (Nat.le_refl _) _
      clear hnx h0 z0 HBX hgl
      generalize wr.setCell ⟨g, 0, none⟩ (.int .i64 0) = w0 at *
      go_loopw [7] (fun i wr => ∃ m : Nat, m ≤ n ∧ i = .int .i64 m ∧ Box wr g 3 (intsV (masks l (startMask (N + 1)) m)) ∧ Below g w wr) (fun i _ => n - (intOf i).toNat)
      case atStart => exact ⟨0, by omega, rfl, hbx0, hnx0⟩
      case round =>
        obtain ⟨m, hm, rfl, hbx, hnx⟩ := hrel
        clear hbx0 hnx0
        have hgl := hbx.lt
        by_cases hlt : m < n
        · obtain ⟨x, hx⟩ : ∃ x, l[m]? = some x := ⟨_, List.getElem?_eq_getElem (by have := HLN.out; omega)⟩
          have hfine := HF.out m x hx
          have hxo := HOK.out x (List.mem_of_getElem? hx)
          obtain ⟨a0, a1, a2, a3⟩ := cell_at l m x hx
          obtain ⟨bi, oi, rfl, hbi, hci⟩ := HL.out.2 (by omega)
          rw [← HG.out] at hbi
          have e0 := (hnx.cell (p := ⟨bi, oi + m * 4, none⟩) hbi).trans (hci _ _ a0)
          have e1 := (hnx.cell (p := ⟨bi, oi + (m * 4 + 1), none⟩) hbi).trans (hci _ _ a1)
          have e2 := (hnx.cell (p := ⟨bi, oi + (m * 4 + 2), none⟩) hbi).trans (hci _ _ a2)
          have e3 := (hnx.cell (p := ⟨bi, oi + (m * 4 + 3), none⟩) hbi).trans (hci _ _ a3)
          rw [← Nat.add_assoc] at e1 e2 e3
          have HM := Lib.hid (masks_step l (startMask (N + 1)) m x hx)
          obtain ⟨mo, hmo⟩ : ∃ mo, mo = masks l (startMask (N + 1)) m := ⟨_, rfl⟩
          have hml : mo.length = N + 1 := by rw [hmo, masks_len, start_len]
          rw [← hmo] at hbx HM
          have h9 : wr.cell? ⟨g, m, none⟩ = some (.int .i64 (mo.getD m 0)) := (hbx.cell m).trans (intsV_at mo m (by omega))
          have hat : ∀ j, j < N + 1 → wr.cell? ⟨g, j, none⟩ = some (.int .i64 (mo.getD j 0)) := fun j hj => (hbx.cell j).trans (intsV_at mo j (by omega))
          have hfr : ∀ j, wr.frozen? ⟨g, j, none⟩ = false := fun j => hbx.free j
          have HAT := Lib.hid hat
          have HFR := Lib.hid hfr
          have HB := Lib.hid hbx
          have HML := Lib.hid hml
          clear hmo a0 a1 a2 a3 hci hx hbx hat hfr hml
          obtain ⟨has, hhas⟩ : ∃ has, has = mo.getD m 0 := ⟨_, rfl⟩
          rw [← hhas] at h9
          have HH := Lib.hid hhas
          clear hhas
          obtain ⟨code, jt, jf, kk⟩ := x
          obtain ⟨⟨p0, p1, p2, p3, _⟩, fja, fjump, fmem, fmore⟩ := hfine
          obtain ⟨_, _, _, _, _, _, k0, k1⟩ := hxo
          dsimp only at *
          by_cases hret : code = 6 ∨ code = 22
          · have HS : Hid (spread ⟨code, jt, jf, kk⟩ m mo = mo) := by unfold Hid spread; rw [if_pos hret]
            clear fja fjump fmem fmore
            rcases hret with rfl | rfl
            all_goals
              go_wp2
              go_roundw
              case rel => exact ⟨m + 1, by omega, by go_num, by rw [HM.out, HS.out]; exact HB.out.alloc _, hnx.alloc (by omega) _⟩
              case measure => simp [intOf]; omega
          · by_cases h5 : code = 5
            · have hq := fja h5
              obtain ⟨q, rfl⟩ := Int.eq_ofNat_of_zero_le k0
              have HS : Hid (spread ⟨code, jt, jf, (q : Int)⟩ m mo = mo.set (m + 1 + q) (bits .and .i64 (mo.getD (m + 1 + q) 0) has)) := by
                unfold Hid spread
                rw [if_neg hret, if_pos h5, HH.out]
                rfl
              subst h5
              have ht := HAT.out (m + 1 + q) (by omega)
              have hz := HFR.out (m + 1 + q)
              obtain ⟨old, hold⟩ : ∃ old, old = mo.getD (m + 1 + q) 0 := ⟨_, rfl⟩
              rw [← hold] at ht HS
              clear hold fja fjump fmem fmore hret
              have n0 : IntKind.i64.wrap (q : Int) = (q : Int) := IntWalk.i64_in _ (by omega)
              have n1 : IntKind.i64.wrap ((m : Int) + 1) = (m : Int) + 1 := IntWalk.i64_in _ (by omega)
              have n2 : IntKind.i64.wrap ((m : Int) + 1 + (q : Int)) = (m : Int) + 1 + (q : Int) := IntWalk.i64_in _ (by omega)
              have n3 : ((m : Int) + 1 + (q : Int)).toNat = m + 1 + q := by omega
              have n4 : (0 : Int) ≤ (m : Int) + 1 + (q : Int) := by omega
              have n5 : (m : Int) + 1 + (q : Int) < (N : Int) + 1 := by omega
              go_wp2_with fail
              refine wp_region_still_tail 19 (by kernel_rfl) (by kernel_rfl) ?_
              simp only [List.take_succ_cons, List.take_zero, List.drop_succ_cons, List.drop_zero]
              change wpStill _ _ (World.drew _) _ _ _
              repeat still_step
              refine wpStill_nil ?_
              change wpList _ _ _ _ _ (World.drew _)
              go_wp2
              go_roundw
              case rel => exact ⟨m + 1, by omega, by go_num, by rw [HM.out, HS.out, ← intsV_set]; exact ((HB.out.set _ _).alloc _).drew, ((hnx.setCell (p := ⟨g, m + 1 + q, none⟩) (Nat.le_refl _) _).alloc (by simp [World.setCell]; omega) _).drew⟩
              case measure => simp [intOf]; omega
            · by_cases hj : isJump code = true
              · obtain ⟨hq1, hq2⟩ := fjump hj
                obtain ⟨q, rfl⟩ := Int.eq_ofNat_of_zero_le p0
                obtain ⟨r, rfl⟩ := Int.eq_ofNat_of_zero_le p2
                have HS : Hid (spread ⟨code, (q : Int), (r : Int), kk⟩ m mo = putAnd (putAnd mo (m + 1 + q) has) (m + 1 + r) has) := by
                  unfold Hid spread
                  rw [if_neg hret, if_neg h5, if_pos hj, HH.out]
                  rfl
                have HJ := Lib.hid hj
                have c6 : (code == 6) = false := by rw [beq_eq_false_iff_ne]; exact fun e => hret (.inl e)
                have c22 : (code == 22) = false := by rw [beq_eq_false_iff_ne]; exact fun e => hret (.inr e)
                have c5 : (code == 5) = false := by rw [beq_eq_false_iff_ne]; exact h5
                have ht := HAT.out (m + 1 + q) (by omega)
                have hz := HFR.out (m + 1 + q)
                obtain ⟨old, hold⟩ : ∃ old, old = mo.getD (m + 1 + q) 0 := ⟨_, rfl⟩
                rw [← hold] at ht
                have HO := Lib.hid hold
                clear hold fja fjump fmem fmore hret h5 hj
                have n1 : IntKind.i64.wrap ((m : Int) + 1) = (m : Int) + 1 := IntWalk.i64_in _ (by omega)
                have n2 : IntKind.i64.wrap ((m : Int) + 1 + (q : Int)) = (m : Int) + 1 + (q : Int) := IntWalk.i64_in _ (by omega)
                have n3 : ((m : Int) + 1 + (q : Int)).toNat = m + 1 + q := by omega
                have n4 : (0 : Int) ≤ (m : Int) + 1 + (q : Int) := by omega
                have n5 : (m : Int) + 1 + (q : Int) < (N : Int) + 1 := by omega
                go_wp2_with fail
                refine (isJump_any _ _).mono ?_
                rintro r' w2 ⟨rfl, rfl⟩
                rw [HJ.out]
                go_upto_region 19 with (fail)
                go_cut [] (fun wx => Box wx g 3 (intsV (putAnd mo (m + 1 + q) has)) ∧ Below g w wx ∧ ∃ C, Box wx wr.heap.size 39 C ∧ C[2]? = some (.int .i64 (r : Int)))
                case first =>
                  refine wp_region_still_tail 17 (by kernel_rfl) (by kernel_rfl) ?_
                  simp only [List.take_succ_cons, List.take_zero, List.drop_succ_cons, List.drop_zero]
                  change wpStill _ _ (World.drew _) _ _ _
                  repeat still_step
                  refine wpStill_nil ?_
                  change wpList _ _ _ _ _ (World.drew _)
                  go_wp2
                  go_meet
                  refine ⟨?_, ((hnx.setCell (p := ⟨g, m + 1 + q, none⟩) (Nat.le_refl _) _).alloc (by simp [World.setCell]; omega) _).drew, ?_⟩
                  · unfold putAnd
                    rw [← intsV_set, ← HO.out]
                    exact ((HB.out.set _ _).alloc _).drew
                  · exact ⟨_, (box_new_set _ _ _ _ _).drew, rfl⟩
                case rest =>
                  obtain ⟨hbc, hnc, C, hCx, hC2⟩ := hcut
                  have hx2 : wc.cell? ⟨wr.heap.size, 2, none⟩ = some (.int .i64 (r : Int)) := (hCx.cell 2).trans hC2
                  have hlp : (putAnd mo (m + 1 + q) has).length = N + 1 := by rw [putAnd_len]; exact HML.out
                  have ht2 : wc.cell? ⟨g, m + 1 + r, none⟩ = some (.int .i64 ((putAnd mo (m + 1 + q) has).getD (m + 1 + r) 0)) := (hbc.cell _).trans (intsV_at _ _ (by omega))
                  have hz2' : wc.frozen? ⟨g, m + 1 + r, none⟩ = false := hbc.free _
                  have HBC := Lib.hid hbc
                  obtain ⟨old2, hold2⟩ : ∃ old2, old2 = (putAnd mo (m + 1 + q) has).getD (m + 1 + r) 0 := ⟨_, rfl⟩
                  rw [← hold2] at ht2
                  have HO2 := Lib.hid hold2
                  clear hbc hCx hC2 hlp hold2 ht hz n1 n2 n3 n4 n5
                  have n1r : IntKind.i64.wrap ((m : Int) + 1) = (m : Int) + 1 := IntWalk.i64_in _ (by omega)
                  have n2r : IntKind.i64.wrap ((m : Int) + 1 + (r : Int)) = (m : Int) + 1 + (r : Int) := IntWalk.i64_in _ (by omega)
                  have n3r : ((m : Int) + 1 + (r : Int)).toNat = m + 1 + r := by omega
                  have n4r : (0 : Int) ≤ (m : Int) + 1 + (r : Int) := by omega
                  have n5r : (m : Int) + 1 + (r : Int) < (N : Int) + 1 := by omega
                  go_wp2_with fail
                  refine wp_region_still_tail 17 (by kernel_rfl) (by kernel_rfl) ?_
                  simp only [List.take_succ_cons, List.take_zero, List.drop_succ_cons, List.drop_zero]
                  change wpStill _ _ (World.drew _) _ _ _
                  repeat still_step
                  refine wpStill_nil ?_
                  change wpList _ _ _ _ _ (World.drew _)
                  go_wp2
                  go_roundw
                  case rel =>
                    refine ⟨m + 1, by omega, by go_num, ?_, ((hnc.drew).setCell (p := ⟨g, m + 1 + r, none⟩) (Nat.le_refl _) _)⟩
                    rw [HM.out, HS.out, putAnd, ← intsV_set, ← HO2.out]
                    exact (HBC.out.drew).set _ _
                  case measure => simp [intOf]; omega
              · have hleft : (N : Int) - 1 - (m : Int) ≠ 0 := fmore hret
                have hj' : isJump code = false := by simpa using hj
                have HJ := Lib.hid hj'
                have c6 : (code == 6) = false := by rw [beq_eq_false_iff_ne]; exact fun e => hret (.inl e)
                have c22 : (code == 22) = false := by rw [beq_eq_false_iff_ne]; exact fun e => hret (.inr e)
                have c5 : (code == 5) = false := by rw [beq_eq_false_iff_ne]; exact h5
                have hml : m + 1 < N + 1 := by omega
                have ht := HAT.out (m + 1) hml
                have hz := HFR.out (m + 1)
                obtain ⟨old, hold⟩ : ∃ old, old = mo.getD (m + 1) 0 := ⟨_, rfl⟩
                rw [← hold] at ht
                have HO := Lib.hid hold
                clear hold
                by_cases hst : code = 2 ∨ code = 3
                · have hk16 : kk < 16 := fmem (by rcases hst with e | e; exact .inl e; exact .inr (.inl e))
                  obtain ⟨q, rfl⟩ := Int.eq_ofNat_of_zero_le k0
                  have HS : Hid (spread ⟨code, jt, jf, (q : Int)⟩ m mo = mo.set (m + 1) (bits .and .i64 old (bits .or .i64 has (2 ^ q)))) := by
                    unfold Hid spread
                    rw [if_neg hret, if_neg h5, if_neg hj, if_pos hst, HH.out, HO.out]
                    rfl
                  have hpw := pow16 q (by omega)
                  clear fja fjump fmem fmore hret h5 hj hj'
                  rcases hst with rfl | rfl
                  all_goals
                    go_wp2_with fail
                    refine (isJump_any _ _).mono ?_
                    rintro r' w2 ⟨rfl, rfl⟩
                    rw [HJ.out]
                    go_wp2
                    go_roundw
                    case rel => exact ⟨m + 1, by omega, by go_num, by rw [HM.out, HS.out, ← intsV_set]; exact (HB.out.set _ _).alloc _, (hnx.setCell (p := ⟨g, m + 1, none⟩) (Nat.le_refl _) _).alloc (by simp [World.setCell]; omega) _⟩
                    case measure => simp [intOf]; omega
                · have HS : Hid (spread ⟨code, jt, jf, kk⟩ m mo = mo.set (m + 1) (bits .and .i64 old has)) := by
                    unfold Hid spread
                    rw [if_neg hret, if_neg h5, if_neg hj, if_neg hst, HH.out, HO.out]
                    rfl
                  have c2 : (code == 2) = false := by rw [beq_eq_false_iff_ne]; exact fun e => hst (.inl e)
                  have c3 : (code == 3) = false := by rw [beq_eq_false_iff_ne]; exact fun e => hst (.inr e)
                  clear fja fjump fmem fmore hret h5 hj hj' hst
                  go_wp2_with fail
                  refine (isJump_any _ _).mono ?_
                  rintro r' w2 ⟨rfl, rfl⟩
                  rw [HJ.out]
                  go_wp2
                  go_roundw
                  case rel => exact ⟨m + 1, by omega, by go_num, by rw [HM.out, HS.out, ← intsV_set]; exact (HB.out.set _ _).alloc _, (hnx.setCell (p := ⟨g, m + 1, none⟩) (Nat.le_refl _) _).alloc (by simp [World.setCell]; omega) _⟩
                  case measure => simp [intOf]; omega
        · obtain rfl : m = n := by omega
          go_wp2
          go_ret
          have eg := HG.out
          subst eg
          refine ⟨_, rfl, ?_, hnx⟩
          exact own_of_box hbx (Nat.le_refl _) (by rw [List.length_map, masks_len, start_len]) (by unfold maxLen; omega)

end Go.Proofs.Ytlghhnfpmekdnaa
