/- What the document's own Stored gives. -/
import Derived.Test.YtlghhnfpmekdnaaMasks
import Derived.StillTailTactics
import Derived.Deep.DeepCutAuto
namespace Go.Proofs.Ytlghhnfpmekdnaa
open Go.RowKit

theorem Try.infoInt : (Try.prog.info? 3).map (fun i => (i.zero, i.size, i.bytes)) = some (some (.int .i64 0), 1, 8) := by kernel_rfl

theorem pow16 (q : Nat) (h : q < 16) : (0 : Int) ≤ 2 ^ q ∧ (2 : Int) ^ q ≤ 32768 := by
  rcases (show q = 0 ∨ q = 1 ∨ q = 2 ∨ q = 3 ∨ q = 4 ∨ q = 5 ∨ q = 6 ∨ q = 7 ∨ q = 8 ∨ q = 9 ∨ q = 10 ∨ q = 11 ∨ q = 12 ∨ q = 13 ∨ q = 14 ∨ q = 15 from by omega) with rfl | rfl | rfl | rfl | rfl | rfl | rfl | rfl | rfl | rfl | rfl | rfl | rfl | rfl | rfl | rfl <;> decide

theorem box_new_set (w : World) (p : Addr) (u : Value) (t : TypeId) (cs : Array Value) : Box ((w.setCell p u).alloc (.cells cs t)) w.heap.size t cs := by
  have h := Box.new (w.setCell p u) t cs
  rwa [show (w.setCell p u).heap.size = w.heap.size from by simp [World.setCell]] at h

def allFine (l : List Ins) : Bool := (List.range l.length).all fun i => !refusedAt l i
/-- What is surely stored ahead of each; nothing, if the filter is none. -/
def storedOf (l : List Ins) : List Int × Bool := if l.length = 0 ∨ 4096 < l.length ∨ allFine l = false then ([], false) else (masks l (startMask l.length) l.length, true)

/-- What a function that hands back a new slice of integers and a bool gives. -/
def NewInts (xs : List Int) (b : Bool) (w : World) : Ending → World → Prop :=
  fun r w' => ∃ v, r = .returned (.tuple #[v, .bool b]) ∧ w'.ownsRow w.heap.size 3 1 v xs.length (xs.map (Value.int .i64)) ∧ Below w.heap.size w w'

theorem all_fine (l : List Ins) (h : ∀ i, i < l.length → refusedAt l i = false) : allFine l = true := by
  unfold allFine
  rw [List.all_eq_true]
  intro i hi
  rw [h i (List.mem_range.1 hi)]
  rfl

theorem not_fine (l : List Ins) (i : Nat) (hi : i < l.length) (h : refusedAt l i = true) : allFine l = false := by
  unfold allFine
  rw [List.all_eq_false]
  exact ⟨i, List.mem_range.2 hi, by rw [h]; decide⟩

theorem refused_fine (l : List Ins) (hok : ∀ y ∈ l, y.Ok) (i : Nat) (x : Ins) (hx : l[i]? = some x) (h : refusedAt l i = false) : Fine x ((l.length : Int) - 1 - (i : Int)) := by
  have hi := (List.getElem?_eq_some_iff.1 hx).1
  unfold refusedAt at h
  rw [hx] at h
  refine fine_of x _ (hok x (List.mem_of_getElem? hx)).k0 ?_
  rw [← h]
  show _ = refusedB x ((l.length - 1 - i : Nat) : Int)
  congr 1
  omega

set_option maxRecDepth 100000 in
set_option maxHeartbeats 1000000 in
theorem refStored_out (A : Option Addr) (n c : Nat) (l : List Ins) (w : World) (hl : Lies w w.heap.size 4 A n (cellsOf l)) (hn : n ≤ 4398046511104) (h : n = 0 ∨ 4096 < n) :
    Calls Try.prog 12 #[.slice A n c] w (NewInts (storedOf l).1 (storedOf l).2 w) := by
  have hln : l.length = n := by have := hl.1; rw [cells_len] at this; omega
  have hs : storedOf l = ([], false) := by
    unfold storedOf
    rw [if_pos (by rw [hln]; rcases h with h | h; exact .inl h; exact .inr (.inl h))]
  rw [hs]
  clear hs hln
  rcases h with rfl | h
  · go_enter Try.func12, Try.ntmps12
    go_wp2
    go_ret2
    exact ⟨.slice none 0 0, rfl, World.ownsRow_nil _ _ _ _, Below.refl _ _⟩
  · have b0 : ((n : Int) == 0) = false := by rw [beq_eq_false_iff_ne]; omega
    have b1 : decide ((4096 : Int) < (n : Int)) = true := decide_eq_true (by omega)
    go_enter Try.func12, Try.ntmps12
    go_wp2
    go_ret2
    exact ⟨.slice none 0 0, rfl, World.ownsRow_nil _ _ _ _, Below.refl _ _⟩

set_option maxRecDepth 100000 in
set_option maxHeartbeats 4000000 in
theorem refStored_in (A : Option Addr) (n c : Nat) (l : List Ins) (w : World) (hl : Lies w w.heap.size 4 A n (cellsOf l)) (hok : ∀ y ∈ l, y.Ok) (h1 : 1 ≤ n) (h2 : n ≤ 4096) :
    Calls Try.prog 12 #[.slice A n c] w (NewInts (storedOf l).1 (storedOf l).2 w) := by
  obtain ⟨i0, hi, hz0, hz1, hz2⟩ := info_parts Try.infoInt
  have hln : l.length = n := by have := hl.1; rw [cells_len] at this; omega
  have HLN := Lib.hid hln
  have HOK := Lib.hid hok
  have HL := Lib.hid hl
  have HNO : Hid (∀ i, i < n → refusedAt l i = true → storedOf l = ([], false)) := fun i hi hr => by
    unfold storedOf
    rw [if_pos (.inr (.inr (not_fine l i (by omega) hr)))]
  have HYES : Hid ((∀ i, i < n → refusedAt l i = false) → storedOf l = (masks l (startMask n) n, true)) := fun hr => by
    unfold storedOf
    rw [hln, if_neg]
    rintro (h | h | h)
    · omega
    · omega
    · rw [all_fine l (fun i hi => hr i (by omega))] at h
      cases h
  have HFI : Hid (∀ (k : Nat) (x : Ins), l[k]? = some x → refusedAt l k = false → Fine x ((n : Int) - 1 - (k : Int))) := fun k x hx hr => by
    have := refused_fine l hok k x hx hr
    rw [hln] at this
    exact this
  have b0 : ((n : Int) == 0) = false := by rw [beq_eq_false_iff_ne]; omega
  have b1 : decide ((4096 : Int) < (n : Int)) = false := decide_eq_false (by omega)
  clear hln hok hl
  go_enter Try.func12, Try.ntmps12
  go_wp2_with (at_make; go_loud (refine wpList_make_full _ rfl _ _ 26 rfl w.heap.size 3 i0 _ 1 Try.underlying26 hi hz0 hz1 .i64 .i64 _ _ n rfl rfl rfl rfl (by rw [hz2]; omega) (by unfold maxLen; omega) (Nat.le_refl _) ?_))
  intro w1 hown1 hg1
  rw [made_ints] at hown1
  obtain ⟨_, hbx1⟩ := box_of_own hown1
  have hnx1 : Below w.heap.size w w1 := (Below.refl _ _).grown hg1 (Nat.le_refl _) (by simp)
  have hgl1 := hbx1.lt
  have hl1 : Lies w1 w.heap.size 4 A n (cellsOf l) := HL.out.below hnx1
  rw [← fill_none] at hbx1
  clear hown1 hg1
  have hs1 := hnx1.size
  obtain ⟨g, hg⟩ : ∃ g, g = w.heap.size := ⟨_, rfl⟩
  rw [← hg] at hbx1 hnx1 hgl1 hl1 hs1 ⊢
  have HG := Lib.hid hg
  clear hg
  go_wp2_with fail
  go_loopw [6] (fun i wr => ∃ k : Nat, k ≤ n ∧ i = .int .i64 k ∧ Box wr g 3 (intsV (fillMask n k)) ∧ Below g w wr ∧ Hid (∀ j, j < k → refusedAt l j = false)) (fun i _ => n - (intOf i).toNat)
  case atStart => exact ⟨0, by omega, rfl, hbx1, hnx1, fun j hj => absurd hj (by omega)⟩
  case round =>
    obtain ⟨k, hk, rfl, hbx, hnx, HR⟩ := hrel
    have hgl := hbx.lt
    have hlr : Lies wr wr.heap.size 4 A n (cellsOf l) := ((HG.out ▸ HL.out : Lies w g 4 A n (cellsOf l)).below hnx).wider (by omega)
    by_cases hlt : k < n
    · cases hr : refusedAt l k
      · have HRK := Lib.hid hr
        clear hr
        go_wp2_with fail
        refine (refused_any A n c k l _ hlr HOK.out hlt (by omega)).mono ?_
        rw [HRK.out]
        rintro r w2 ⟨rfl, hb2⟩
        have hbx2 := hbx.step hb2
        have hnx2 : Below g w w2 := hnx.trans (hb2.mono (by omega))
        have h9 : w2.cell? ⟨g, k, none⟩ = some (.int .i64 ((fillMask n k).getD k 0)) := (hbx2.cell k).trans (intsV_at _ k (by rw [fill_len n k hk]; omega))
        have z9 : w2.frozen? ⟨g, k, none⟩ = false := hbx2.free k
        have HB2 := Lib.hid hbx2
        have hgl2 := hbx2.lt
        clear hbx2 hbx hnx hb2 hlr hbx1 hl1
        go_wp2
        go_roundw
        case rel => exact ⟨k + 1, by omega, by go_num, by rw [← fill_step n k hlt, ← intsV_set]; exact HB2.out.set k _, hnx2.setCell (p := ⟨g, k, none⟩) (Nat.le_refl _) _, fun j hj => by
          by_cases e : j = k
          · rw [e]; exact HRK.out
          · exact HR.out j (by omega)⟩
        case measure => simp [intOf]; omega
      · have HRK := Lib.hid hr
        clear hr
        go_wp2_with fail
        refine (refused_any A n c k l _ hlr HOK.out hlt (by omega)).mono ?_
        rw [HRK.out]
        rintro r w2 ⟨rfl, hb2⟩
        have hnx2 : Below g w w2 := hnx.trans (hb2.mono (by omega))
        clear hbx hnx hb2 hlr hbx1 hl1
        go_wp2
        go_ret2
        rw [HNO.out k hlt HRK.out]
        exact ⟨.slice none 0 0, rfl, World.ownsRow_nil _ _ _ _, by rw [← HG.out]; exact hnx2⟩
    · obtain rfl : k = n := by omega
      have hst := HYES.out HR.out
      have HST := Lib.hid hst
      have HF : Hid (∀ (j : Nat) (x : Ins), l[j]? = some x → Fine x ((k : Int) - 1 - (j : Int))) := fun j x hx => HFI.out j x hx (HR.out j (by have := (List.getElem?_eq_some_iff.1 hx).1; have := HLN.out; omega))
      rw [fill_all] at hbx
      have h0 : wr.cell? ⟨g, 0, none⟩ = some (.int .i64 ((List.replicate k (65535 : Int)).getD 0 0)) := (hbx.cell 0).trans (intsV_at _ 0 (by simp; omega))
      have z0 : wr.frozen? ⟨g, 0, none⟩ = false := hbx.free 0
      have HBX := Lib.hid hbx
      have hk0 : (0 : Int) < (k : Int) := by omega
      clear hst hbx hbx1 hl1 hlr HNO HYES HFI HR hz0 hz1 hz2 hi
      go_wp2_with fail
      have hbx0 : Box (wr.setCell ⟨g, 0, none⟩ (.int .i64 0)) g 3 (intsV (masks l (startMask k) 0)) := by
        have := HBX.out.set 0 (.int .i64 0)
        rw [intsV_set] at this
        exact this
      have hnx0 : Below g w (wr.setCell ⟨g, 0, none⟩ (.int .i64 0)) := hnx.setCell (p := ⟨g, 0, none⟩) (Nat.le_refl _) _
      clear hnx h0 z0 HBX hgl
      generalize wr.setCell ⟨g, 0, none⟩ (.int .i64 0) = w0 at *
      go_loopw [7] (fun i wr => ∃ m : Nat, m ≤ k ∧ i = .int .i64 m ∧ Box wr g 3 (intsV (masks l (startMask k) m)) ∧ Below g w wr) (fun i _ => k - (intOf i).toNat)
      case atStart => exact ⟨0, by omega, rfl, hbx0, hnx0⟩
      case round =>
        obtain ⟨m, hm, rfl, hbx, hnx⟩ := hrel
        clear hbx0 hnx0
        have hgl := hbx.lt
        by_cases hlt : m < k
        · obtain ⟨x, hx⟩ : ∃ x, l[m]? = some x := ⟨_, List.getElem?_eq_getElem (by have := HLN.out; omega)⟩
          have hfine := HF.out m x hx
          have hxo := HOK.out x (List.mem_of_getElem? hx)
          obtain ⟨a0, a1, a2, a3⟩ := cell_at l m x hx
          obtain ⟨bi, oi, rfl, hbi, hci⟩ := HL.out.2 (by omega)
          rw [← HG.out] at hbi
          have e0 := (hnx.cell (p := ⟨bi, oi + m * 4, none⟩) hbi).trans (hci _ _ a0)
          have e1 := (hnx.cell (p := ⟨bi, oi + (m * 4 + 1), none⟩) hbi).trans (hci _ _ a1)
          have e2 := (hnx.cell (p := ⟨bi, oi + (m * 4 + 2), none⟩) hbi).trans (hci _ _ a2)
          have e3 := (hnx.cell (p := ⟨bi, oi + (m * 4 + 3), none⟩) hbi).trans (hci _ _ a3)
          rw [← Nat.add_assoc] at e1 e2 e3
          have HM := Lib.hid (masks_step l (startMask k) m x hx)
          obtain ⟨mo, hmo⟩ : ∃ mo, mo = masks l (startMask k) m := ⟨_, rfl⟩
          have hml : mo.length = k := by rw [hmo, masks_len, start_len]
          rw [← hmo] at hbx HM
          have h9 : wr.cell? ⟨g, m, none⟩ = some (.int .i64 (mo.getD m 0)) := (hbx.cell m).trans (intsV_at mo m (by omega))
          have hat : ∀ j, j < k → wr.cell? ⟨g, j, none⟩ = some (.int .i64 (mo.getD j 0)) := fun j hj => (hbx.cell j).trans (intsV_at mo j (by omega))
          have hfr : ∀ j, wr.frozen? ⟨g, j, none⟩ = false := fun j => hbx.free j
          have HAT := Lib.hid hat
          have HFR := Lib.hid hfr
          have HB := Lib.hid hbx
          have HML := Lib.hid hml
          clear hmo a0 a1 a2 a3 hci hx hbx hat hfr hml
          obtain ⟨has, hhas⟩ : ∃ has, has = mo.getD m 0 := ⟨_, rfl⟩
          rw [← hhas] at h9
          have HH := Lib.hid hhas
          clear hhas
          obtain ⟨code, jt, jf, kk⟩ := x
          obtain ⟨⟨p0, p1, p2, p3, _⟩, fja, fjump, fmem, fmore⟩ := hfine
          obtain ⟨_, _, _, _, _, _, k0, k1⟩ := hxo
          dsimp only at *
          by_cases hret : code = 6 ∨ code = 22
          · have HS : Hid (spread ⟨code, jt, jf, kk⟩ m mo = mo) := by unfold Hid spread; rw [if_pos hret]
            clear fja fjump fmem fmore
            rcases hret with rfl | rfl
            all_goals
              go_wp2
              go_roundw
              case rel => exact ⟨m + 1, by omega, by go_num, by rw [HM.out, HS.out]; exact HB.out.alloc _, hnx.alloc (by omega) _⟩
              case measure => simp [intOf]; omega
          · by_cases h5 : code = 5
            · have hq := fja h5
              obtain ⟨q, rfl⟩ := Int.eq_ofNat_of_zero_le k0
              have HS : Hid (spread ⟨code, jt, jf, (q : Int)⟩ m mo = mo.set (m + 1 + q) (bits .and .i64 (mo.getD (m + 1 + q) 0) has)) := by
                unfold Hid spread
                rw [if_neg hret, if_pos h5, HH.out]
                rfl
              subst h5
              have ht := HAT.out (m + 1 + q) (by omega)
              have hz := HFR.out (m + 1 + q)
              obtain ⟨old, hold⟩ : ∃ old, old = mo.getD (m + 1 + q) 0 := ⟨_, rfl⟩
              rw [← hold] at ht HS
              clear hold fja fjump fmem fmore hret
              have n0 : IntKind.i64.wrap (q : Int) = (q : Int) := IntWalk.i64_in _ (by omega)
              have n1 : IntKind.i64.wrap ((m : Int) + 1) = (m : Int) + 1 := IntWalk.i64_in _ (by omega)
              have n2 : IntKind.i64.wrap ((m : Int) + 1 + (q : Int)) = (m : Int) + 1 + (q : Int) := IntWalk.i64_in _ (by omega)
              have n3 : ((m : Int) + 1 + (q : Int)).toNat = m + 1 + q := by omega
              have n4 : (0 : Int) ≤ (m : Int) + 1 + (q : Int) := by omega
              have n5 : (m : Int) + 1 + (q : Int) < (k : Int) := by omega
              go_wp2_with fail
              refine wp_region_still_tail 19 (by kernel_rfl) (by kernel_rfl) ?_
              simp only [List.take_succ_cons, List.take_zero, List.drop_succ_cons, List.drop_zero]
              change wpStill _ _ (World.drew _) _ _ _
              repeat still_step
              refine wpStill_nil ?_
              change wpList _ _ _ _ _ (World.drew _)
              go_wp2
              go_roundw
              case rel => exact ⟨m + 1, by omega, by go_num, by rw [HM.out, HS.out, ← intsV_set]; exact ((HB.out.set _ _).alloc _).drew, ((hnx.setCell (p := ⟨g, m + 1 + q, none⟩) (Nat.le_refl _) _).alloc (by simp [World.setCell]; omega) _).drew⟩
              case measure => simp [intOf]; omega
            · by_cases hj : isJump code = true
              · obtain ⟨hq1, hq2⟩ := fjump hj
                obtain ⟨q, rfl⟩ := Int.eq_ofNat_of_zero_le p0
                obtain ⟨r, rfl⟩ := Int.eq_ofNat_of_zero_le p2
                have HS : Hid (spread ⟨code, (q : Int), (r : Int), kk⟩ m mo = putAnd (putAnd mo (m + 1 + q) has) (m + 1 + r) has) := by
                  unfold Hid spread
                  rw [if_neg hret, if_neg h5, if_pos hj, HH.out]
                  rfl
                have HJ := Lib.hid hj
                have c6 : (code == 6) = false := by rw [beq_eq_false_iff_ne]; exact fun e => hret (.inl e)
                have c22 : (code == 22) = false := by rw [beq_eq_false_iff_ne]; exact fun e => hret (.inr e)
                have c5 : (code == 5) = false := by rw [beq_eq_false_iff_ne]; exact h5
                have ht := HAT.out (m + 1 + q) (by omega)
                have hz := HFR.out (m + 1 + q)
                obtain ⟨old, hold⟩ : ∃ old, old = mo.getD (m + 1 + q) 0 := ⟨_, rfl⟩
                rw [← hold] at ht
                have HO := Lib.hid hold
                clear hold fja fjump fmem fmore hret h5 hj
                have n1 : IntKind.i64.wrap ((m : Int) + 1) = (m : Int) + 1 := IntWalk.i64_in _ (by omega)
                have n2 : IntKind.i64.wrap ((m : Int) + 1 + (q : Int)) = (m : Int) + 1 + (q : Int) := IntWalk.i64_in _ (by omega)
                have n3 : ((m : Int) + 1 + (q : Int)).toNat = m + 1 + q := by omega
                have n4 : (0 : Int) ≤ (m : Int) + 1 + (q : Int) := by omega
                have n5 : (m : Int) + 1 + (q : Int) < (k : Int) := by omega
                go_wp2_with fail
                refine (isJump_any _ _).mono ?_
                rintro r' w2 ⟨rfl, rfl⟩
                rw [HJ.out]
                go_upto_region 24 with (fail)
                go_cut [] (fun wx => Box wx g 3 (intsV (putAnd mo (m + 1 + q) has)) ∧ Below g w wx ∧ ∃ C, Box wx wr.heap.size 39 C ∧ C[2]? = some (.int .i64 (r : Int)))
                case first =>
                  refine wp_region_still_tail 17 (by kernel_rfl) (by kernel_rfl) ?_
                  simp only [List.take_succ_cons, List.take_zero, List.drop_succ_cons, List.drop_zero]
                  change wpStill _ _ (World.drew _) _ _ _
                  repeat still_step
                  refine wpStill_nil ?_
                  change wpList _ _ _ _ _ (World.drew _)
                  go_wp2
                  go_meet
                  refine ⟨?_, ((hnx.setCell (p := ⟨g, m + 1 + q, none⟩) (Nat.le_refl _) _).alloc (by simp [World.setCell]; omega) _).drew, ?_⟩
                  · unfold putAnd
                    rw [← intsV_set, ← HO.out]
                    exact ((HB.out.set _ _).alloc _).drew
                  · exact ⟨_, (box_new_set _ _ _ _ _).drew, rfl⟩
                case rest =>
                  obtain ⟨hbc, hnc, C, hCx, hC2⟩ := hcut
                  have hx2 : wc.cell? ⟨wr.heap.size, 2, none⟩ = some (.int .i64 (r : Int)) := (hCx.cell 2).trans hC2
                  have hlp : (putAnd mo (m + 1 + q) has).length = k := by rw [putAnd_len]; exact HML.out
                  have ht2 : wc.cell? ⟨g, m + 1 + r, none⟩ = some (.int .i64 ((putAnd mo (m + 1 + q) has).getD (m + 1 + r) 0)) := (hbc.cell _).trans (intsV_at _ _ (by omega))
                  have hz2' : wc.frozen? ⟨g, m + 1 + r, none⟩ = false := hbc.free _
                  have HBC := Lib.hid hbc
                  obtain ⟨old2, hold2⟩ : ∃ old2, old2 = (putAnd mo (m + 1 + q) has).getD (m + 1 + r) 0 := ⟨_, rfl⟩
                  rw [← hold2] at ht2
                  have HO2 := Lib.hid hold2
                  clear hbc hCx hC2 hlp hold2 ht hz n1 n2 n3 n4 n5
                  have n1r : IntKind.i64.wrap ((m : Int) + 1) = (m : Int) + 1 := IntWalk.i64_in _ (by omega)
                  have n2r : IntKind.i64.wrap ((m : Int) + 1 + (r : Int)) = (m : Int) + 1 + (r : Int) := IntWalk.i64_in _ (by omega)
                  have n3r : ((m : Int) + 1 + (r : Int)).toNat = m + 1 + r := by omega
                  have n4r : (0 : Int) ≤ (m : Int) + 1 + (r : Int) := by omega
                  have n5r : (m : Int) + 1 + (r : Int) < (k : Int) := by omega
                  go_wp2_with fail
                  refine wp_region_still_tail 17 (by kernel_rfl) (by kernel_rfl) ?_
                  simp only [List.take_succ_cons, List.take_zero, List.drop_succ_cons, List.drop_zero]
                  change wpStill _ _ (World.drew _) _ _ _
                  repeat still_step
                  refine wpStill_nil ?_
                  change wpList _ _ _ _ _ (World.drew _)
                  go_wp2
                  go_roundw
                  case rel =>
                    refine ⟨m + 1, by omega, by go_num, ?_, ((hnc.drew).setCell (p := ⟨g, m + 1 + r, none⟩) (Nat.le_refl _) _)⟩
                    rw [HM.out, HS.out, putAnd, ← intsV_set, ← HO2.out]
                    exact (HBC.out.drew).set _ _
                  case measure => simp [intOf]; omega
              · have hleft : (k : Int) - 1 - (m : Int) ≠ 0 := fmore hret
                have hj' : isJump code = false := by simpa using hj
                have HJ := Lib.hid hj'
                have c6 : (code == 6) = false := by rw [beq_eq_false_iff_ne]; exact fun e => hret (.inl e)
                have c22 : (code == 22) = false := by rw [beq_eq_false_iff_ne]; exact fun e => hret (.inr e)
                have c5 : (code == 5) = false := by rw [beq_eq_false_iff_ne]; exact h5
                have hml : m + 1 < k := by omega
                have ht := HAT.out (m + 1) hml
                have hz := HFR.out (m + 1)
                obtain ⟨old, hold⟩ : ∃ old, old = mo.getD (m + 1) 0 := ⟨_, rfl⟩
                rw [← hold] at ht
                have HO := Lib.hid hold
                clear hold
                by_cases hst : code = 2 ∨ code = 3
                · have hk16 : kk < 16 := fmem (by rcases hst with e | e; exact .inl e; exact .inr (.inl e))
                  obtain ⟨q, rfl⟩ := Int.eq_ofNat_of_zero_le k0
                  have HS : Hid (spread ⟨code, jt, jf, (q : Int)⟩ m mo = mo.set (m + 1) (bits .and .i64 old (bits .or .i64 has (2 ^ q)))) := by
                    unfold Hid spread
                    rw [if_neg hret, if_neg h5, if_neg hj, if_pos hst, HH.out, HO.out]
                    rfl
                  have hpw := pow16 q (by omega)
                  clear fja fjump fmem fmore hret h5 hj hj'
                  rcases hst with rfl | rfl
                  all_goals
                    go_wp2_with fail
                    refine (isJump_any _ _).mono ?_
                    rintro r' w2 ⟨rfl, rfl⟩
                    rw [HJ.out]
                    go_wp2
                    go_roundw
                    case rel => exact ⟨m + 1, by omega, by go_num, by rw [HM.out, HS.out, ← intsV_set]; exact (HB.out.set _ _).alloc _, (hnx.setCell (p := ⟨g, m + 1, none⟩) (Nat.le_refl _) _).alloc (by simp [World.setCell]; omega) _⟩
                    case measure => simp [intOf]; omega
                · have HS : Hid (spread ⟨code, jt, jf, kk⟩ m mo = mo.set (m + 1) (bits .and .i64 old has)) := by
                    unfold Hid spread
                    rw [if_neg hret, if_neg h5, if_neg hj, if_neg hst, HH.out, HO.out]
                    rfl
                  have c2 : (code == 2) = false := by rw [beq_eq_false_iff_ne]; exact fun e => hst (.inl e)
                  have c3 : (code == 3) = false := by rw [beq_eq_false_iff_ne]; exact fun e => hst (.inr e)
                  clear fja fjump fmem fmore hret h5 hj hj' hst
                  go_wp2_with fail
                  refine (isJump_any _ _).mono ?_
                  rintro r' w2 ⟨rfl, rfl⟩
                  rw [HJ.out]
                  go_wp2
                  go_roundw
                  case rel => exact ⟨m + 1, by omega, by go_num, by rw [HM.out, HS.out, ← intsV_set]; exact (HB.out.set _ _).alloc _, (hnx.setCell (p := ⟨g, m + 1, none⟩) (Nat.le_refl _) _).alloc (by simp [World.setCell]; omega) _⟩
                  case measure => simp [intOf]; omega
        · obtain rfl : m = k := by omega
          go_wp2
          go_ret2
          rw [HST.out]
          have eg := HG.out
          subst eg
          refine ⟨_, rfl, ?_, hnx⟩
          have hlm : (masks l (startMask m) m).length = m := by rw [masks_len, start_len]
          rw [hlm]
          exact own_of_box hbx (Nat.le_refl _) (by rw [List.length_map]; exact hlm) (by unfold maxLen; omega)

end Go.Proofs.Ytlghhnfpmekdnaa
