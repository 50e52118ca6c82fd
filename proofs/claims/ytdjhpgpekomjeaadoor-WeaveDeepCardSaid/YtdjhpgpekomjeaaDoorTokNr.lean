/- What the landed token's number gives at '0x'. No condition. -/
import Derived.Test.YtdjhpgpekomjeaaDoorTokHash
import Derived.Test.YtdjhpgpekomjeaaDoorTokHex
namespace Go.Proofs.YtdjhpgpekomjeaaDoor
open Go.RowKit

theorem ahead_is (r : List UInt8) : ([48, 120] : List UInt8).isPrefixOf r = hexAhead r := by
  unfold hexAhead
  match r with
  | [] => rfl
  | [x] => simp [List.isPrefixOf]
  | x :: y :: t => simp [List.isPrefixOf, Bool.beq_eq_decide_eq, eq_comm]

theorem num_at (r : List UInt8) (off base k : Nat) (ho : (if hexAhead r then 2 else 0) = off) (hb : (if hexAhead r then 16 else 10) = base) (hk : k = runLen (isHex base) (r.drop off)) :
    (numL r).map (fun v => ((2 : Int), r.take v.2, v.2)) = if ((!(k == 0) && (valOf base 0 ((r.drop off).take k)).isSome) && !(goesOn (r.drop (off + k)))) = true then some (2, r.take (off + k), off + k) else none := by
  unfold numL
  dsimp only
  rw [ho, hb, digits_is, ← hk]
  cases hv : valOf base 0 ((r.drop off).take k) with
  | none => simp
  | some u =>
    simp only [Option.map_some, Option.isSome_some, Bool.and_true]
    cases hg : goesOn (r.drop (off + k))
    · by_cases h0 : k = 0
      · simp [h0]
      · simp [h0]
    · simp

theorem goes_run (l : List UInt8) : decide ((0 : Int) < (runLen wordB l : Nat)) = goesOn l := by
  cases h : goesOn l
  · rw [(run_word0 l).2 h]; rfl
  · have : ¬ runLen wordB l = 0 := fun e => by rw [(run_word0 l).1 e] at h; cases h
    exact decide_eq_true (by omega)

theorem run_dig (s : ByteArray) (hs : s.size ≤ 1000000) (w : World) : Calls Tryd.prog 32 #[.string s, .string ⟨#[48, 49, 50, 51, 52, 53, 54, 55, 56, 57]⟩] w (Quietly (.int .i64 (runLen (isHex 10) s.data.toList : Nat)) w) :=
  run_any s ⟨#[48, 49, 50, 51, 52, 53, 54, 55, 56, 57]⟩ (isHex 10) set_ten (by decide) (by decide) hs w
theorem run_hex (s : ByteArray) (hs : s.size ≤ 1000000) (w : World) : Calls Tryd.prog 32 #[.string s, .string ⟨#[48, 49, 50, 51, 52, 53, 54, 55, 56, 57, 97, 98, 99, 100, 101, 102, 65, 66, 67, 68, 69, 70]⟩] w (Quietly (.int .i64 (runLen (isHex 16) s.data.toList : Nat)) w) :=
  run_any s ⟨#[48, 49, 50, 51, 52, 53, 54, 55, 56, 57, 97, 98, 99, 100, 101, 102, 65, 66, 67, 68, 69, 70]⟩ (isHex 16) set_hex (by decide) (by decide) hs w

set_option maxRecDepth 100000 in
set_option maxHeartbeats 4000000 in
theorem number_hex (s : ByteArray) (hh : hexAhead s.data.toList = true) (hs : s.size ≤ 1000000) (w : World) (hL : Laid w) :
    Calls Tryd.prog 34 #[.string s] w (PieceRes ((numL s.data.toList).map fun v => ((2 : Int), s.data.toList.take v.2, v.2)) w) := by
  have HP : Hid (∀ W : World, Calls Tryd.prog 47 #[.string s, .string ⟨#[48, 120]⟩] W fun e w' => e = .returned (.bool true) ∧ W = w') := fun W => by
    have := prefix_any s ⟨#[48, 120]⟩ W
    rwa [show (⟨#[48, 120]⟩ : ByteArray).data.toList = [48, 120] from rfl, ahead_is, hh] at this
  have hoff : 2 ≤ s.size := by
    have h1 := ahead_is s.data.toList
    rw [hh] at h1
    have h2 := (List.isPrefixOf_iff_prefix.1 h1).length_le
    rw [← Lib.size_eq] at h2
    exact h2
  obtain ⟨k, hk⟩ : ∃ k, k = runLen (isHex 16) (s.data.toList.drop 2) := ⟨_, rfl⟩
  have hkle := run_le (isHex 16) (s.data.toList.drop 2)
  rw [← hk, List.length_drop, ← Lib.size_eq] at hkle
  have HR : Hid (∀ W : World, Calls Tryd.prog 32 #[.string (s.extract 2 s.size), .string ⟨#[48, 49, 50, 51, 52, 53, 54, 55, 56, 57, 97, 98, 99, 100, 101, 102, 65, 66, 67, 68, 69, 70]⟩] W (Quietly (.int .i64 (k : Nat)) W)) := fun W => by
    have := run_hex (s.extract 2 s.size) (by simp; omega) W
    rwa [ext_drop, ← hk] at this
  have hmid : s.extract 2 (2 + k) = strOf ((s.data.toList.drop 2).take k) := by
    rw [take_str]
    congr 2
    omega
  have hml : (s.extract 2 (2 + k)).data.toList = (s.data.toList.drop 2).take k := by rw [hmid, strOf_data]
  have hmz : (s.extract 2 (2 + k)).size = k := by simp; omega
  have HPA : Hid (∀ W : World, Below w.heap.size w W → Calls Tryd.prog 48 #[.string (s.extract 2 (2 + k)), .int .i64 16, .int .i64 64] W (ParseRes (!(k == 0) && (valOf 16 0 ((s.data.toList.drop 2).take k)).isSome) W)) := fun W hW => by
    have := parse_hex (s.extract 2 (2 + k)) (by omega) (fun b hb => by rw [hml, hk] at hb; exact run_all _ _ b hb) W (hL.below hW)
    rw [hmz, hml] at this
    exact this
  have HRW : Hid (∀ W : World, Calls Tryd.prog 32 #[.string (s.extract (2 + k) s.size), .string ⟨#[97, 98, 99, 100, 101, 102, 103, 104, 105, 106, 107, 108, 109, 110, 111, 112, 113, 114, 115, 116, 117, 118, 119, 120, 121, 122, 65, 66, 67, 68, 69, 70, 71, 72, 73, 74, 75, 76, 77, 78, 79, 80, 81, 82, 83, 84, 85, 86, 87, 88, 89, 90, 95, 48, 49, 50, 51, 52, 53, 54, 55, 56, 57]⟩] W (Quietly (.int .i64 (runLen wordB (s.data.toList.drop (2 + k)) : Nat)) W)) := fun W => by
    have := run_word (s.extract (2 + k) s.size) (by simp; omega) W
    rwa [ext_drop] at this
  have hgr := goes_run (s.data.toList.drop (2 + k))
  have hnum := num_at s.data.toList 2 16 k (by rw [hh]; rfl) (by rw [hh]; rfl) hk
  obtain ⟨V, hV⟩ : ∃ V, V = (numL s.data.toList).map (fun v => ((2 : Int), s.data.toList.take v.2, v.2)) := ⟨_, rfl⟩
  rw [← hV] at hnum ⊢
  obtain ⟨j, hj⟩ : ∃ j, j = runLen wordB (s.data.toList.drop (2 + k)) := ⟨_, rfl⟩
  rw [← hj] at HRW hgr
  rw [← hgr] at hnum
  obtain ⟨A, hA⟩ : ∃ A, A = (!(k == 0) && (valOf 16 0 ((s.data.toList.drop 2).take k)).isSome) := ⟨_, rfl⟩
  rw [← hA] at HPA hnum
  have HWH := Lib.hid fun W => whole_any 2 (s.extract 0 (2 + k)) W
  have hxt : s.extract 0 (2 + k) = strOf (s.data.toList.take (2 + k)) := take_str s 0 (2 + k)
  have hxz : (s.extract 0 (2 + k)).size = min (2 + k) s.size := by simp
  have hxm : min (2 + k) s.size = 2 + k := by omega
  have HXT := Lib.hid hxt
  have HXZ := Lib.hid hxz
  have HXM := Lib.hid hxm
  have hleI : (2 : Int) + (k : Int) ≤ (s.size : Int) := by omega
  have htn : ((2 : Int) + (k : Int)).toNat = 2 + k := by omega
  have hofI : (2 : Int) ≤ (s.size : Int) := by omega
  have HNUM := Lib.hid hnum
  clear hnum hV hj hgr hA hk hmid hml hmz hxt hxz hxm hL hh
  obtain ⟨hbx0, hn0⟩ := piece_start w
  have HBX := Lib.hid hbx0
  have HN0 := Lib.hid hn0
  clear hbx0 hn0
  go_enter Tryd.func34, Tryd.ntmps34
  go_wp2_with fail
  generalize hw0 : w.alloc (.cells #[.int .i64 0, .string ⟨#[]⟩, .int .i64 0] 67) = w0 at *
  clear hw0
  refine (HP.out _).mono ?_
  rintro r w1 ⟨rfl, rfl⟩
  go_wp2_with fail
  refine (HR.out _).mono ?_
  rintro r w1 ⟨rfl, hb1⟩
  have HBX1 := Lib.hid (HBX.out.step hb1)
  have HN1 := Lib.hid (below_step HN0.out (Nat.le_refl _) hb1)
  clear hb1
  go_wp2_with fail
  refine (HPA.out _ HN1.out).mono ?_
  rintro r w2 ⟨⟨x, y, rfl, hy⟩, hb2⟩
  have HBX2 := Lib.hid (HBX1.out.step hb2)
  have HN2 := Lib.hid (below_step HN1.out (Nat.le_refl _) hb2)
  clear hb2
  rcases hy with ⟨hA, rfl⟩ | ⟨hA, tt, pp, rfl⟩
  · rw [hA] at HNUM
    clear hA HPA
    go_wp2_with fail
    refine (HRW.out _).mono ?_
    rintro r w3 ⟨rfl, hb3⟩
    have HBX3 := Lib.hid (HBX2.out.step hb3)
    have HN3 := Lib.hid (below_step HN2.out (Nat.le_refl _) hb3)
    obtain ⟨c0, c1, c2, f0, f1, f2, g0⟩ := box_cells HBX3.out
    clear hb3
    by_cases hj : (0 : Int) < (j : Nat)
    · have HV : Hid (V = none) := by
        unfold Hid
        rw [HNUM.out, decide_eq_true hj]
        rfl
      go_wp2_with fail
      exact bodyPost_ret (results_box_tmp rfl _ _ w.heap.size 67 _ rfl (box_trio HBX3.out) _ Tryd.underlying67 rfl pieceSize) rfl ⟨by rw [HV.out]; rfl, set3_below (Nat.le_refl _) HN3.out _ _ _⟩
    · have HV : Hid (V = some (2, s.data.toList.take (2 + k), 2 + k)) := by
        unfold Hid
        rw [HNUM.out, decide_eq_false hj]
        rfl
      go_wp2_with fail
      refine (HWH.out _).mono ?_
      rintro r w4 ⟨rfl, hb4⟩
      have HBX4 := Lib.hid (HBX3.out.step hb4)
      have HN4 := Lib.hid (below_step HN3.out (Nat.le_refl _) hb4)
      clear c0 c1 c2 f0 f1 f2 g0
      obtain ⟨c0, c1, c2, f0, f1, f2, g0⟩ := box_cells HBX4.out
      clear hb4
      unfold pcCells
      go_wp2_with fail
      exact bodyPost_ret (results_box_tmp rfl _ _ w.heap.size 67 _ rfl (box_trio HBX4.out) _ Tryd.underlying67 rfl pieceSize) rfl ⟨by rw [HV.out]; dsimp only [pcCells]; rw [← HXT.out]; simp only [HXM.out]; rfl, set3_below (Nat.le_refl _) HN4.out _ _ _⟩
  · rw [hA] at HNUM
    have HV : Hid (V = none) := HNUM.out
    clear hA HPA
    obtain ⟨c0, c1, c2, f0, f1, f2, g0⟩ := box_cells HBX2.out
    go_wp2_with fail
    exact bodyPost_ret (results_box_tmp rfl _ _ w.heap.size 67 _ rfl (box_trio HBX2.out) _ Tryd.underlying67 rfl pieceSize) rfl ⟨by rw [HV.out]; rfl, set3_below (Nat.le_refl _) HN2.out _ _ _⟩

end Go.Proofs.YtdjhpgpekomjeaaDoor
