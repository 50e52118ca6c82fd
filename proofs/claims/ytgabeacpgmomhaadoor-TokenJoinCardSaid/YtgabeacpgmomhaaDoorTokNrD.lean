/- What the landed token's number gives. No condition. -/
import Derived.Test.YtgabeacpgmomhaaDoorTokNr
namespace Go.Proofs.YtgabeacpgmomhaaDoor
open Go.RowKit

set_option maxRecDepth 100000 in
set_option maxHeartbeats 4000000 in
theorem number_ten (s : ByteArray) (hh : hexAhead s.data.toList = false) (hs : s.size ≤ 1000000) (w : World) (hL : Laid w) :
    Calls Tryd.prog 23 #[.string s] w (PieceRes ((numL s.data.toList).map fun v => ((2 : Int), s.data.toList.take v.2, v.2)) w) := by
  have HP : Hid (∀ W : World, Calls Tryd.prog 38 #[.string s, .string ⟨#[48, 120]⟩] W fun e w' => e = .returned (.bool false) ∧ W = w') := fun W => by
    have := prefix_any s ⟨#[48, 120]⟩ W
    rwa [show (⟨#[48, 120]⟩ : ByteArray).data.toList = [48, 120] from rfl, ahead_is, hh] at this
  have hoff : 0 ≤ s.size := by
    omega
  obtain ⟨k, hk⟩ : ∃ k, k = runLen (isHex 10) (s.data.toList.drop 0) := ⟨_, rfl⟩
  have hkle := run_le (isHex 10) (s.data.toList.drop 0)
  rw [← hk, List.length_drop, ← Lib.size_eq] at hkle
  have HR : Hid (∀ W : World, Calls Tryd.prog 21 #[.string s, .string ⟨#[48, 49, 50, 51, 52, 53, 54, 55, 56, 57]⟩] W (Quietly (.int .i64 (k : Nat)) W)) := fun W => by
    have := run_dig s hs W
    rwa [show s.data.toList = s.data.toList.drop 0 from rfl, ← hk] at this
  have hmid : s.extract 0 k = strOf ((s.data.toList.drop 0).take k) := take_str s 0 k
  have hml : (s.extract 0 k).data.toList = (s.data.toList.drop 0).take k := by rw [hmid, strOf_data]
  have hmz : (s.extract 0 k).size = k := by simp; omega
  have HPA : Hid (∀ W : World, Below w.heap.size w W → Calls Tryd.prog 39 #[.string (s.extract 0 k), .int .i64 10, .int .i64 64] W (ParseRes (!(k == 0) && (valOf 10 0 ((s.data.toList.drop 0).take k)).isSome) W)) := fun W hW => by
    have := parse_ten (s.extract 0 k) (by omega) (fun b hb => by rw [hml, hk] at hb; exact run_all _ _ b hb) W (hL.below hW)
    rw [hmz, hml] at this
    exact this
  have HRW : Hid (∀ W : World, Calls Tryd.prog 21 #[.string (s.extract k s.size), .string ⟨#[97, 98, 99, 100, 101, 102, 103, 104, 105, 106, 107, 108, 109, 110, 111, 112, 113, 114, 115, 116, 117, 118, 119, 120, 121, 122, 65, 66, 67, 68, 69, 70, 71, 72, 73, 74, 75, 76, 77, 78, 79, 80, 81, 82, 83, 84, 85, 86, 87, 88, 89, 90, 95, 48, 49, 50, 51, 52, 53, 54, 55, 56, 57]⟩] W (Quietly (.int .i64 (runLen wordB (s.data.toList.drop k) : Nat)) W)) := fun W => by
    have := run_word (s.extract k s.size) (by simp; omega) W
    rwa [ext_drop] at this
  have hgr := goes_run (s.data.toList.drop k)
  have hnum := num_at s.data.toList 0 10 k (by rw [hh]; rfl) (by rw [hh]; rfl) hk
  rw [Nat.zero_add] at hnum
  obtain ⟨V, hV⟩ : ∃ V, V = (numL s.data.toList).map (fun v => ((2 : Int), s.data.toList.take v.2, v.2)) := ⟨_, rfl⟩
  rw [← hV] at hnum ⊢
  obtain ⟨j, hj⟩ : ∃ j, j = runLen wordB (s.data.toList.drop k) := ⟨_, rfl⟩
  rw [← hj] at HRW hgr
  rw [← hgr] at hnum
  obtain ⟨A, hA⟩ : ∃ A, A = (!(k == 0) && (valOf 10 0 ((s.data.toList.drop 0).take k)).isSome) := ⟨_, rfl⟩
  rw [← hA] at HPA hnum
  have HWH := Lib.hid fun W => whole_any 2 (s.extract 0 k) W
  have hxt : s.extract 0 k = strOf (s.data.toList.take k) := take_str s 0 k
  have hxz : (s.extract 0 k).size = min k s.size := by simp
  have hxm : min k s.size = k := by omega
  have HXT := Lib.hid hxt
  have HXZ := Lib.hid hxz
  have HXM := Lib.hid hxm
  have hleI : (k : Int) ≤ (s.size : Int) := by omega
  have htn : (k : Int).toNat = k := by omega
  have HNUM := Lib.hid hnum
  clear hnum hV hj hgr hA hk hmid hml hmz hxt hxz hxm hL hh
  obtain ⟨hbx0, hn0⟩ := piece_start w
  have HBX := Lib.hid hbx0
  have HN0 := Lib.hid hn0
  clear hbx0 hn0
  go_enter Tryd.func23, Tryd.ntmps23
  go_wp2_with fail
  generalize hw0 : w.alloc (.cells #[.int .i64 0, .string ⟨#[]⟩, .int .i64 0] 45) = w0 at *
  clear hw0
  refine (HP.out _).mono ?_
  rintro r w1 ⟨rfl, rfl⟩
  go_wp2_with fail
  refine (HR.out _).mono ?_
  rintro r w1 ⟨rfl, hb1⟩
  have HBX1 := Lib.hid (HBX.out.step hb1)
  have HN1 := Lib.hid (below_step HN0.out (Nat.le_refl _) hb1)
  clear hb1
  go_wp2_with fail
  refine (HPA.out _ HN1.out).mono ?_
  rintro r w2 ⟨⟨x, y, rfl, hy⟩, hb2⟩
  have HBX2 := Lib.hid (HBX1.out.step hb2)
  have HN2 := Lib.hid (below_step HN1.out (Nat.le_refl _) hb2)
  clear hb2
  rcases hy with ⟨hA, rfl⟩ | ⟨hA, tt, pp, rfl⟩
  · rw [hA] at HNUM
    clear hA HPA
    go_wp2_with fail
    refine (HRW.out _).mono ?_
    rintro r w3 ⟨rfl, hb3⟩
    have HBX3 := Lib.hid (HBX2.out.step hb3)
    have HN3 := Lib.hid (below_step HN2.out (Nat.le_refl _) hb3)
    obtain ⟨c0, c1, c2, f0, f1, f2, g0⟩ := box_cells HBX3.out
    clear hb3
    by_cases hj : (0 : Int) < (j : Nat)
    · have HV : Hid (V = none) := by
        unfold Hid
        rw [HNUM.out, decide_eq_true hj]
        rfl
      go_wp2_with fail
      exact bodyPost_ret (results_box_tmp rfl _ _ w.heap.size 45 _ rfl (box_trio HBX3.out) _ Tryd.underlying45 rfl pieceSize) rfl ⟨by rw [HV.out]; rfl, set3_below (Nat.le_refl _) HN3.out _ _ _⟩
    · have HV : Hid (V = some (2, s.data.toList.take k, k)) := by
        unfold Hid
        rw [HNUM.out, decide_eq_false hj]
        rfl
      go_wp2_with fail
      refine (HWH.out _).mono ?_
      rintro r w4 ⟨rfl, hb4⟩
      have HBX4 := Lib.hid (HBX3.out.step hb4)
      have HN4 := Lib.hid (below_step HN3.out (Nat.le_refl _) hb4)
      clear c0 c1 c2 f0 f1 f2 g0
      obtain ⟨c0, c1, c2, f0, f1, f2, g0⟩ := box_cells HBX4.out
      clear hb4
      unfold pcCells
      go_wp2_with fail
      exact bodyPost_ret (results_box_tmp rfl _ _ w.heap.size 45 _ rfl (box_trio HBX4.out) _ Tryd.underlying45 rfl pieceSize) rfl ⟨by rw [HV.out]; dsimp only [pcCells]; rw [← HXT.out]; simp only [HXM.out]; rfl, set3_below (Nat.le_refl _) HN4.out _ _ _⟩
  · rw [hA] at HNUM
    have HV : Hid (V = none) := HNUM.out
    clear hA HPA
    obtain ⟨c0, c1, c2, f0, f1, f2, g0⟩ := box_cells HBX2.out
    go_wp2_with fail
    exact bodyPost_ret (results_box_tmp rfl _ _ w.heap.size 45 _ rfl (box_trio HBX2.out) _ Tryd.underlying45 rfl pieceSize) rfl ⟨by rw [HV.out]; rfl, set3_below (Nat.le_refl _) HN2.out _ _ _⟩

theorem number_any (s : ByteArray) (hs : s.size ≤ 1000000) (w : World) (hL : Laid w) :
    Calls Tryd.prog 23 #[.string s] w (PieceRes ((numL s.data.toList).map fun v => ((2 : Int), s.data.toList.take v.2, v.2)) w) := by
  cases hh : hexAhead s.data.toList
  · exact number_ten s hh hs w hL
  · exact number_hex s hh hs w hL

end Go.Proofs.YtgabeacpgmomhaaDoor
