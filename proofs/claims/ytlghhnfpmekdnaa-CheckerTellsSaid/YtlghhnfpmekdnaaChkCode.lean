/- What the landed Check and Stored give. -/
import Derived.Test.YtlghhnfpmekdnaaChkRefused
import Derived.Test.YtlghhnfpmekdnaaChkFlow
import Derived.Test.YtlghhnfpmekdnaaChkFace
namespace Go.Proofs.Ytlghhnfpmekdnaa.LandedChk
open Go.RowKit

theorem sized_yes (n : Nat) (h1 : 1 ≤ n) (h2 : n ≤ 4096) : (decide (1 ≤ n) && decide (n ≤ 4096)) = true := by simp; omega
theorem sized_no (n : Nat) (h : n = 0 ∨ 4096 < n) : (decide (1 ≤ n) && decide (n ≤ 4096)) = false := by simp; omega

theorem lcheck_out (A : Option Addr) (n c : Nat) (l : List Ins) (w : World) (hl : Lies w w.heap.size 4 A n (cellsOf l)) (h : n = 0 ∨ 4096 < n) :
    Calls Try.prog 9 #[.slice A n c] w (IntBool (checkOf l) w) := by
  have hln : l.length = n := by have := hl.1; rw [cells_len] at this; omega
  have hs : checkOf l = (0, false) := by
    unfold checkOf
    rw [if_pos (by omega)]
  rw [hs]
  have HN := Lib.hid (sized_no n h)
  clear hs hln h
  go_enter Try.func9, Try.ntmps9
  go_wp2_with fail
  refine (sized_any A n c _).mono ?_
  rw [HN.out]
  rintro r w1 ⟨rfl, rfl⟩
  go_wp2
  go_ret2
  exact ⟨rfl, Below.refl _ _⟩

theorem lstored_out (A : Option Addr) (n c : Nat) (l : List Ins) (w : World) (hl : Lies w w.heap.size 4 A n (cellsOf l)) (h : n = 0 ∨ 4096 < n) :
    Calls Try.prog 11 #[.slice A n c] w (NewInts (storedOf l).1 (storedOf l).2 w) := by
  have hln : l.length = n := by have := hl.1; rw [cells_len] at this; omega
  have hs : storedOf l = ([], false) := by
    unfold storedOf
    rw [if_pos (by rw [hln]; rcases h with h | h; exact .inl h; exact .inr (.inl h))]
  rw [hs]
  have HN := Lib.hid (sized_no n h)
  clear hs hln h
  go_enter Try.func11, Try.ntmps11
  go_wp2_with fail
  refine (sized_any A n c _).mono ?_
  rw [HN.out]
  rintro r w1 ⟨rfl, rfl⟩
  go_wp2
  go_ret2
  exact ⟨.slice none 0 0, rfl, World.ownsRow_nil _ _ _ _, Below.refl _ _⟩

set_option maxRecDepth 100000 in
set_option maxHeartbeats 4000000 in
theorem lcheck_in (A : Option Addr) (n c : Nat) (l : List Ins) (w : World) (hl : Lies w w.heap.size 4 A n (cellsOf l)) (hok : ∀ y ∈ l, y.Ok) (h1 : 1 ≤ n) (h2 : n ≤ 4096) :
    Calls Try.prog 9 #[.slice A n c] w (IntBool (checkOf l) w) := by
  have hln : l.length = n := by have := hl.1; rw [cells_len] at this; omega
  have HLN := Lib.hid hln
  have HOK := Lib.hid hok
  have HSZ := Lib.hid (sized_yes n h1 h2)
  have HSTOP : Hid (∀ i, i < n → (∀ j, j < i → refusedAt l j = false ∧ unsetAt l j = false) → refusedAt l i = true ∨ unsetAt l i = true → checkOf l = ((i : Int), false)) := fun i hi hb h => check_stop l i (by omega) (by omega) hb h
  have HPASS : Hid ((∀ j, j < n → refusedAt l j = false ∧ unsetAt l j = false) → checkOf l = (-1, true)) := fun hb => check_pass l (by omega) (by omega) (fun j hj => hb j (by omega))
  have HFI : Hid (∀ (k : Nat) (x : Ins), l[k]? = some x → refusedAt l k = false → Fine x ((n : Int) - 1 - (k : Int))) := fun k x hx hr => by
    have := refused_fine l hok k x hx hr
    rw [hln] at this
    exact this
  have HUN : Hid (∀ (k : Nat) (x : Ins), l[k]? = some x → unsetAt l k = badLoad x ((masks l (startMask n) k).getD k 0)) := fun k x hx => by
    unfold unsetAt
    rw [hx, hln]
  clear hln hok
  obtain ⟨g, hg⟩ : ∃ g, g = w.heap.size := ⟨_, rfl⟩
  have HL : Hid (Lies w g 4 A n (cellsOf l)) := hg ▸ hl
  have HG := Lib.hid hg
  clear hl hg
  go_enter Try.func9, Try.ntmps9
  go_wp2_with fail
  refine (sized_any A n c _).mono ?_
  rw [HSZ.out]
  rintro r w1 ⟨rfl, rfl⟩
  go_wp2_with fail
  refine (begin_any n _ h1 h2).mono ?_
  rintro r w1 ⟨rfl, hbx1, hnx1⟩
  rw [← HG.out] at hbx1 hnx1 ⊢
  go_wp2_with fail
  go_loopw [15] (fun i wr => ∃ k : Nat, k ≤ n ∧ i = .int .i64 k ∧ Box wr g 3 (intsV (masks l (startMask n) k)) ∧ Below g w wr ∧ Hid (∀ j, j < k → refusedAt l j = false ∧ unsetAt l j = false)) (fun i _ => n - (intOf i).toNat)
  case atStart => exact ⟨0, by omega, rfl, hbx1, hnx1, fun j hj => absurd hj (by omega)⟩
  case round =>
    obtain ⟨k, hk, rfl, hbx, hnx, HB⟩ := hrel
    clear hbx1 hnx1
    have hgl := hbx.lt
    by_cases hlt : k < n
    · obtain ⟨x, hx⟩ : ∃ x, l[k]? = some x := ⟨_, List.getElem?_eq_getElem (by have := HLN.out; omega)⟩
      have hxo := HOK.out x (List.mem_of_getElem? hx)
      have HXO := Lib.hid hxo
      obtain ⟨a0, a1, a2, a3⟩ := cell_at l k x hx
      obtain ⟨bi, oi, rfl, hbi, hci⟩ := HL.out.2 (by omega)
      have hbw : bi < wr.heap.size := by omega
      have e0 := (hnx.cell (p := ⟨bi, oi + k * 4, none⟩) hbi).trans (hci _ _ a0)
      have e1 := (hnx.cell (p := ⟨bi, oi + (k * 4 + 1), none⟩) hbi).trans (hci _ _ a1)
      have e2 := (hnx.cell (p := ⟨bi, oi + (k * 4 + 2), none⟩) hbi).trans (hci _ _ a2)
      have e3 := (hnx.cell (p := ⟨bi, oi + (k * 4 + 3), none⟩) hbi).trans (hci _ _ a3)
      rw [← Nat.add_assoc] at e1 e2 e3
      have HM := Lib.hid (masks_step l (startMask n) k x hx)
      have HML : Hid ((masks l (startMask n) k).length = n) := (masks_len _ _ _).trans (start_len n)
      have HF : Hid (refusedAt l k = false → Fine x ((n : Int) - 1 - (k : Int))) := HFI.out k x hx
      have HU : Hid (unsetAt l k = badLoad x ((masks l (startMask n) k).getD k 0)) := HUN.out k x hx
      have HBX := Lib.hid hbx
      have HNX := Lib.hid hnx
      have hsz := hnx.size
      obtain ⟨_, _, _, _, _, _, k0, k1⟩ := hxo
      clear a0 a1 a2 a3 hci hx hbx hnx
      cases hr : refusedAt l k
      · have hf := HF.out hr
        have HFK := Lib.hid hf
        have HRK := Lib.hid hr
        clear hr hf
        go_wp2_with fail
        refine (lref_any _ n c k l _ ((HL.out.below (HNX.out.alloc (Nat.le_of_lt hgl) _)).wider (by simp; omega)) HOK.out hlt h2).mono ?_
        rw [HRK.out]
        rintro r w2 ⟨rfl, hb2⟩
        have hbi2 := (Box.new _ _ _).step hb2
        have hnx2 : Below g w w2 := (HNX.out.alloc (Nat.le_of_lt hgl) _).trans (hb2.mono (by simp; omega))
        have hbx2 := (HBX.out.alloc _).step hb2
        have q0 : w2.cell? ⟨wr.heap.size, 0, none⟩ = some (.int .i64 x.code) := hbi2.cell 0
        have q1 : w2.cell? ⟨wr.heap.size, 1, none⟩ = some (.int .i64 x.jt) := hbi2.cell 1
        have q2 : w2.cell? ⟨wr.heap.size, 2, none⟩ = some (.int .i64 x.jf) := hbi2.cell 2
        have q3 : w2.cell? ⟨wr.heap.size, 3, none⟩ = some (.int .u32 x.k) := hbi2.cell 3
        have hil := hbi2.lt
        have HBI2 := Lib.hid hbi2
        have HBX2 := Lib.hid hbx2
        have HNX2 := Lib.hid hnx2
        clear hbi2 hbx2 hnx2 hb2 e0 e1 e2 e3
        have HE : Hid (badLoad x ((masks l (startMask n) k).getD k 0) = unsetAt l k) := HU.out.symm
        cases hu : unsetAt l k
        · have HUK := Lib.hid hu
          clear hu
          go_wp2_with fail
          refine (unset_any g n k (masks l (startMask n) k) x _ HXO.out hlt HML.out HBX2.out (fun e => HFK.out.mem (by omega))).mono ?_
          rw [HE.out, HUK.out]
          rintro r w3 ⟨rfl, hb3⟩
          have hbi3 := HBI2.out.step hb3
          have hnx3 : Below g w w3 := HNX2.out.trans (hb3.mono (by omega))
          have hbx3 := HBX2.out.step hb3
          have p0 : w3.cell? ⟨wr.heap.size, 0, none⟩ = some (.int .i64 x.code) := hbi3.cell 0
          have p1 : w3.cell? ⟨wr.heap.size, 1, none⟩ = some (.int .i64 x.jt) := hbi3.cell 1
          have p2 : w3.cell? ⟨wr.heap.size, 2, none⟩ = some (.int .i64 x.jf) := hbi3.cell 2
          have p3 : w3.cell? ⟨wr.heap.size, 3, none⟩ = some (.int .u32 x.k) := hbi3.cell 3
          have hil3 := hbi3.lt
          clear hbi3 HBI2 hb3 q0 q1 q2 q3 HBX2 HNX2 hil
          go_wp2_with fail
          refine (pass_any g n k (masks l (startMask n) k) x _ HXO.out hlt h2 HML.out hbx3 HFK.out).mono ?_
          rintro r w4 ⟨rfl, hbx4, hb4⟩
          rw [← HM.out] at hbx4
          have hnx4 : Below g w w4 := hnx3.trans hb4
          clear hbx3 hnx3 hb4 p0 p1 p2 p3
          go_wp2
          go_roundw
          case rel => exact ⟨k + 1, by omega, by go_num, hbx4, hnx4, fun j hj => by
            by_cases e : j = k
            · rw [e]; exact ⟨HRK.out, HUK.out⟩
            · exact HB.out j (by omega)⟩
          case measure => simp [intOf]; omega
        · have HUK := Lib.hid hu
          have HC := Lib.hid (HSTOP.out k hlt HB.out (.inr hu))
          clear hu
          go_wp2_with fail
          refine (unset_any g n k (masks l (startMask n) k) x _ HXO.out hlt HML.out HBX2.out (fun e => HFK.out.mem (by omega))).mono ?_
          rw [HE.out, HUK.out]
          rintro r w3 ⟨rfl, hb3⟩
          have hnx3 : Below g w w3 := HNX2.out.trans (hb3.mono (by omega))
          clear HBI2 hb3 q0 q1 q2 q3 HBX2 HNX2 hil
          go_wp2
          go_ret2
          exact ⟨by rw [HC.out]; rfl, by rw [← HG.out]; exact hnx3⟩
      · have HRK := Lib.hid hr
        have HC := Lib.hid (HSTOP.out k hlt HB.out (.inl hr))
        clear hr
        go_wp2_with fail
        refine (lref_any _ n c k l _ ((HL.out.below (HNX.out.alloc (Nat.le_of_lt hgl) _)).wider (by simp; omega)) HOK.out hlt h2).mono ?_
        rw [HRK.out]
        rintro r w2 ⟨rfl, hb2⟩
        have hnx2 : Below g w w2 := (HNX.out.alloc (Nat.le_of_lt hgl) _).trans (hb2.mono (by simp; omega))
        clear hb2 e0 e1 e2 e3
        go_wp2
        go_ret2
        exact ⟨by rw [HC.out]; rfl, by rw [← HG.out]; exact hnx2⟩
    · obtain rfl : k = n := by omega
      have HC := Lib.hid (HPASS.out HB.out)
      clear hbx
      go_wp2
      go_ret2
      exact ⟨by rw [HC.out]; rfl, by rw [← HG.out]; exact hnx⟩

set_option maxRecDepth 100000 in
set_option maxHeartbeats 4000000 in
theorem lstored_in (A : Option Addr) (n c : Nat) (l : List Ins) (w : World) (hl : Lies w w.heap.size 4 A n (cellsOf l)) (hok : ∀ y ∈ l, y.Ok) (h1 : 1 ≤ n) (h2 : n ≤ 4096) :
    Calls Try.prog 11 #[.slice A n c] w (NewInts (storedOf l).1 (storedOf l).2 w) := by
  have hln : l.length = n := by have := hl.1; rw [cells_len] at this; omega
  have HLN := Lib.hid hln
  have HOK := Lib.hid hok
  have HSZ := Lib.hid (sized_yes n h1 h2)
  have HNO : Hid (∀ i, i < n → refusedAt l i = true → storedOf l = ([], false)) := fun i hi hr => by
    unfold storedOf
    rw [if_pos (.inr (.inr (not_fine l i (by omega) hr)))]
  have HYES : Hid ((∀ i, i < n → refusedAt l i = false) → storedOf l = (masks l (startMask n) n, true)) := fun hr => by
    unfold storedOf
    rw [hln, if_neg]
    rintro (h | h | h)
    · omega
    · omega
    · rw [all_fine l (fun i hi => hr i (by omega))] at h
      cases h
  have HFI : Hid (∀ (k : Nat) (x : Ins), l[k]? = some x → refusedAt l k = false → Fine x ((n : Int) - 1 - (k : Int))) := fun k x hx hr => by
    have := refused_fine l hok k x hx hr
    rw [hln] at this
    exact this
  clear hln hok
  obtain ⟨g, hg⟩ : ∃ g, g = w.heap.size := ⟨_, rfl⟩
  have HL : Hid (Lies w g 4 A n (cellsOf l)) := hg ▸ hl
  have HG := Lib.hid hg
  clear hl hg
  go_enter Try.func11, Try.ntmps11
  go_wp2_with fail
  refine (sized_any A n c _).mono ?_
  rw [HSZ.out]
  rintro r w1 ⟨rfl, rfl⟩
  go_wp2_with fail
  refine (begin_any n _ h1 h2).mono ?_
  rintro r w1 ⟨rfl, hbx1, hnx1⟩
  rw [← HG.out] at hbx1 hnx1 ⊢
  go_wp2_with fail
  go_loopw [15] (fun i wr => ∃ k : Nat, k ≤ n ∧ i = .int .i64 k ∧ Box wr g 3 (intsV (masks l (startMask n) k)) ∧ Below g w wr ∧ Hid (∀ j, j < k → refusedAt l j = false)) (fun i _ => n - (intOf i).toNat)
  case atStart => exact ⟨0, by omega, rfl, hbx1, hnx1, fun j hj => absurd hj (by omega)⟩
  case round =>
    obtain ⟨k, hk, rfl, hbx, hnx, HB⟩ := hrel
    clear hbx1 hnx1
    have hgl := hbx.lt
    by_cases hlt : k < n
    · obtain ⟨x, hx⟩ : ∃ x, l[k]? = some x := ⟨_, List.getElem?_eq_getElem (by have := HLN.out; omega)⟩
      have hxo := HOK.out x (List.mem_of_getElem? hx)
      have HXO := Lib.hid hxo
      obtain ⟨a0, a1, a2, a3⟩ := cell_at l k x hx
      obtain ⟨bi, oi, rfl, hbi, hci⟩ := HL.out.2 (by omega)
      have hbw : bi < wr.heap.size := by omega
      have e0 := (hnx.cell (p := ⟨bi, oi + k * 4, none⟩) hbi).trans (hci _ _ a0)
      have e1 := (hnx.cell (p := ⟨bi, oi + (k * 4 + 1), none⟩) hbi).trans (hci _ _ a1)
      have e2 := (hnx.cell (p := ⟨bi, oi + (k * 4 + 2), none⟩) hbi).trans (hci _ _ a2)
      have e3 := (hnx.cell (p := ⟨bi, oi + (k * 4 + 3), none⟩) hbi).trans (hci _ _ a3)
      rw [← Nat.add_assoc] at e1 e2 e3
      have HM := Lib.hid (masks_step l (startMask n) k x hx)
      have HML : Hid ((masks l (startMask n) k).length = n) := (masks_len _ _ _).trans (start_len n)
      have HF : Hid (refusedAt l k = false → Fine x ((n : Int) - 1 - (k : Int))) := HFI.out k x hx
      have HBX := Lib.hid hbx
      have HNX := Lib.hid hnx
      have hsz := hnx.size
      obtain ⟨_, _, _, _, _, _, k0, k1⟩ := hxo
      clear a0 a1 a2 a3 hci hx hbx hnx
      cases hr : refusedAt l k
      · have hf := HF.out hr
        have HFK := Lib.hid hf
        have HRK := Lib.hid hr
        clear hr hf
        go_wp2_with fail
        refine (lref_any _ n c k l _ ((HL.out.below (HNX.out.alloc (Nat.le_of_lt hgl) _)).wider (by simp; omega)) HOK.out hlt h2).mono ?_
        rw [HRK.out]
        rintro r w2 ⟨rfl, hb2⟩
        have hbi2 := (Box.new _ _ _).step hb2
        have hnx2 : Below g w w2 := (HNX.out.alloc (Nat.le_of_lt hgl) _).trans (hb2.mono (by simp; omega))
        have hbx2 := (HBX.out.alloc _).step hb2
        have q0 : w2.cell? ⟨wr.heap.size, 0, none⟩ = some (.int .i64 x.code) := hbi2.cell 0
        have q1 : w2.cell? ⟨wr.heap.size, 1, none⟩ = some (.int .i64 x.jt) := hbi2.cell 1
        have q2 : w2.cell? ⟨wr.heap.size, 2, none⟩ = some (.int .i64 x.jf) := hbi2.cell 2
        have q3 : w2.cell? ⟨wr.heap.size, 3, none⟩ = some (.int .u32 x.k) := hbi2.cell 3
        have hil := hbi2.lt
        clear hbi2 hb2 e0 e1 e2 e3
        go_wp2_with fail
        refine (pass_any g n k (masks l (startMask n) k) x _ HXO.out hlt h2 HML.out hbx2 HFK.out).mono ?_
        rintro r w4 ⟨rfl, hbx4, hb4⟩
        rw [← HM.out] at hbx4
        have hnx4 : Below g w w4 := hnx2.trans hb4
        clear hbx2 hnx2 hb4 q0 q1 q2 q3
        go_wp2
        go_roundw
        case rel => exact ⟨k + 1, by omega, by go_num, hbx4, hnx4, fun j hj => by
          by_cases e : j = k
          · rw [e]; exact HRK.out
          · exact HB.out j (by omega)⟩
        case measure => simp [intOf]; omega
      · have HRK := Lib.hid hr
        clear hr
        go_wp2_with fail
        refine (lref_any _ n c k l _ ((HL.out.below (HNX.out.alloc (Nat.le_of_lt hgl) _)).wider (by simp; omega)) HOK.out hlt h2).mono ?_
        rw [HRK.out]
        rintro r w2 ⟨rfl, hb2⟩
        have hnx2 : Below g w w2 := (HNX.out.alloc (Nat.le_of_lt hgl) _).trans (hb2.mono (by simp; omega))
        clear hb2 e0 e1 e2 e3
        go_wp2
        go_ret2
        rw [HNO.out k hlt HRK.out]
        exact ⟨.slice none 0 0, rfl, World.ownsRow_nil _ _ _ _, by rw [← HG.out]; exact hnx2⟩
    · obtain rfl : k = n := by omega
      have HST := Lib.hid (HYES.out HB.out)
      go_wp2
      go_ret2
      rw [HST.out]
      have eg := HG.out
      subst eg
      refine ⟨_, rfl, ?_, hnx⟩
      have hlm : (masks l (startMask k) k).length = k := by rw [masks_len, start_len]
      rw [hlm]
      exact own_of_box hbx (Nat.le_refl _) (by rw [List.length_map]; exact hlm) (by unfold maxLen; omega)

theorem says : ChkSays where
  check A n c l w hl _ hok _ := by
    by_cases h : n = 0 ∨ 4096 < n
    · exact lcheck_out A n c l w hl h
    · exact lcheck_in A n c l w hl hok (by omega) (by omega)
  stored A n c l w hl _ hok _ := by
    by_cases h : n = 0 ∨ 4096 < n
    · exact lstored_out A n c l w hl h
    · exact lstored_in A n c l w hl hok (by omega) (by omega)

end Go.Proofs.Ytlghhnfpmekdnaa.LandedChk

namespace Go.Proofs.Ytlghhnfpmekdnaa
/-- The landed code keeps its contract. -/
theorem chk_says : ChkSays := LandedChk.says
end Go.Proofs.Ytlghhnfpmekdnaa
