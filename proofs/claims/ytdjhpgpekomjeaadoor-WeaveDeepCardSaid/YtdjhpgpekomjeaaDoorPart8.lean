/- Texts of mine put together (a claim has at most so many files): TokNrD, TokRem. -/
import Derived.Test.YtdjhpgpekomjeaaDoorTokNr
import Derived.Test.YtdjhpgpekomjeaaDoorPart7
/- What the landed token's number gives. No condition. -/
namespace Go.Proofs.YtdjhpgpekomjeaaDoor
open Go.RowKit

set_option maxRecDepth 100000 in
set_option maxHeartbeats 4000000 in
theorem number_ten (s : ByteArray) (hh : hexAhead s.data.toList = false) (hs : s.size ≤ 1000000) (w : World) (hL : Laid w) :
    Calls Tryd.prog 34 #[.string s] w (PieceRes ((numL s.data.toList).map fun v => ((2 : Int), s.data.toList.take v.2, v.2)) w) := by
  have HP : Hid (∀ W : World, Calls Tryd.prog 47 #[.string s, .string ⟨#[48, 120]⟩] W fun e w' => e = .returned (.bool false) ∧ W = w') := fun W => by
    have := prefix_any s ⟨#[48, 120]⟩ W
    rwa [show (⟨#[48, 120]⟩ : ByteArray).data.toList = [48, 120] from rfl, ahead_is, hh] at this
  have hoff : 0 ≤ s.size := by
    omega
  obtain ⟨k, hk⟩ : ∃ k, k = runLen (isHex 10) (s.data.toList.drop 0) := ⟨_, rfl⟩
  have hkle := run_le (isHex 10) (s.data.toList.drop 0)
  rw [← hk, List.length_drop, ← Lib.size_eq] at hkle
  have HR : Hid (∀ W : World, Calls Tryd.prog 32 #[.string s, .string ⟨#[48, 49, 50, 51, 52, 53, 54, 55, 56, 57]⟩] W (Quietly (.int .i64 (k : Nat)) W)) := fun W => by
    have := run_dig s hs W
    rwa [show s.data.toList = s.data.toList.drop 0 from rfl, ← hk] at this
  have hmid : s.extract 0 k = strOf ((s.data.toList.drop 0).take k) := take_str s 0 k
  have hml : (s.extract 0 k).data.toList = (s.data.toList.drop 0).take k := by rw [hmid, strOf_data]
  have hmz : (s.extract 0 k).size = k := by simp; omega
  have HPA : Hid (∀ W : World, Below w.heap.size w W → Calls Tryd.prog 48 #[.string (s.extract 0 k), .int .i64 10, .int .i64 64] W (ParseRes (!(k == 0) && (valOf 10 0 ((s.data.toList.drop 0).take k)).isSome) W)) := fun W hW => by
    have := parse_ten (s.extract 0 k) (by omega) (fun b hb => by rw [hml, hk] at hb; exact run_all _ _ b hb) W (hL.below hW)
    rw [hmz, hml] at this
    exact this
  have HRW : Hid (∀ W : World, Calls Tryd.prog 32 #[.string (s.extract k s.size), .string ⟨#[97, 98, 99, 100, 101, 102, 103, 104, 105, 106, 107, 108, 109, 110, 111, 112, 113, 114, 115, 116, 117, 118, 119, 120, 121, 122, 65, 66, 67, 68, 69, 70, 71, 72, 73, 74, 75, 76, 77, 78, 79, 80, 81, 82, 83, 84, 85, 86, 87, 88, 89, 90, 95, 48, 49, 50, 51, 52, 53, 54, 55, 56, 57]⟩] W (Quietly (.int .i64 (runLen wordB (s.data.toList.drop k) : Nat)) W)) := fun W => by
    have := run_word (s.extract k s.size) (by simp; omega) W
    rwa [ext_drop] at this
  have hgr := goes_run (s.data.toList.drop k)
  have hnum := num_at s.data.toList 0 10 k (by rw [hh]; rfl) (by rw [hh]; rfl) hk
  rw [Nat.zero_add] at hnum
  obtain ⟨V, hV⟩ : ∃ V, V = (numL s.data.toList).map (fun v => ((2 : Int), s.data.toList.take v.2, v.2)) := ⟨_, rfl⟩
  rw [← hV] at hnum ⊢
  obtain ⟨j, hj⟩ : ∃ j, j = runLen wordB (s.data.toList.drop k) := ⟨_, rfl⟩
  rw [← hj] at HRW hgr
  rw [← hgr] at hnum
  obtain ⟨A, hA⟩ : ∃ A, A = (!(k == 0) && (valOf 10 0 ((s.data.toList.drop 0).take k)).isSome) := ⟨_, rfl⟩
  rw [← hA] at HPA hnum
  have HWH := Lib.hid fun W => whole_any 2 (s.extract 0 k) W
  have hxt : s.extract 0 k = strOf (s.data.toList.take k) := take_str s 0 k
  have hxz : (s.extract 0 k).size = min k s.size := by simp
  have hxm : min k s.size = k := by omega
  have HXT := Lib.hid hxt
  have HXZ := Lib.hid hxz
  have HXM := Lib.hid hxm
  have hleI : (k : Int) ≤ (s.size : Int) := by omega
  have htn : (k : Int).toNat = k := by omega
  have HNUM := Lib.hid hnum
  clear hnum hV hj hgr hA hk hmid hml hmz hxt hxz hxm hL hh
  obtain ⟨hbx0, hn0⟩ := piece_start w
  have HBX := Lib.hid hbx0
  have HN0 := Lib.hid hn0
  clear hbx0 hn0
  go_enter Tryd.func34, Tryd.ntmps34
  go_wp2_with fail
  generalize hw0 : w.alloc (.cells #[.int .i64 0, .string ⟨#[]⟩, .int .i64 0] 67) = w0 at *
  clear hw0
  refine (HP.out _).mono ?_
  rintro r w1 ⟨rfl, rfl⟩
  go_wp2_with fail
  refine (HR.out _).mono ?_
  rintro r w1 ⟨rfl, hb1⟩
  have HBX1 := Lib.hid (HBX.out.step hb1)
  have HN1 := Lib.hid (below_step HN0.out (Nat.le_refl _) hb1)
  clear hb1
  go_wp2_with fail
  refine (HPA.out _ HN1.out).mono ?_
  rintro r w2 ⟨⟨x, y, rfl, hy⟩, hb2⟩
  have HBX2 := Lib.hid (HBX1.out.step hb2)
  have HN2 := Lib.hid (below_step HN1.out (Nat.le_refl _) hb2)
  clear hb2
  rcases hy with ⟨hA, rfl⟩ | ⟨hA, tt, pp, rfl⟩
  · rw [hA] at HNUM
    clear hA HPA
    go_wp2_with fail
    refine (HRW.out _).mono ?_
    rintro r w3 ⟨rfl, hb3⟩
    have HBX3 := Lib.hid (HBX2.out.step hb3)
    have HN3 := Lib.hid (below_step HN2.out (Nat.le_refl _) hb3)
    obtain ⟨c0, c1, c2, f0, f1, f2, g0⟩ := box_cells HBX3.out
    clear hb3
    by_cases hj : (0 : Int) < (j : Nat)
    · have HV : Hid (V = none) := by
        unfold Hid
        rw [HNUM.out, decide_eq_true hj]
        rfl
      go_wp2_with fail
      exact bodyPost_ret (results_box_tmp rfl _ _ w.heap.size 67 _ rfl (box_trio HBX3.out) _ Tryd.underlying67 rfl pieceSize) rfl ⟨by rw [HV.out]; rfl, set3_below (Nat.le_refl _) HN3.out _ _ _⟩
    · have HV : Hid (V = some (2, s.data.toList.take k, k)) := by
        unfold Hid
        rw [HNUM.out, decide_eq_false hj]
        rfl
      go_wp2_with fail
      refine (HWH.out _).mono ?_
      rintro r w4 ⟨rfl, hb4⟩
      have HBX4 := Lib.hid (HBX3.out.step hb4)
      have HN4 := Lib.hid (below_step HN3.out (Nat.le_refl _) hb4)
      clear c0 c1 c2 f0 f1 f2 g0
      obtain ⟨c0, c1, c2, f0, f1, f2, g0⟩ := box_cells HBX4.out
      clear hb4
      unfold pcCells
      go_wp2_with fail
      exact bodyPost_ret (results_box_tmp rfl _ _ w.heap.size 67 _ rfl (box_trio HBX4.out) _ Tryd.underlying67 rfl pieceSize) rfl ⟨by rw [HV.out]; dsimp only [pcCells]; rw [← HXT.out]; simp only [HXM.out]; rfl, set3_below (Nat.le_refl _) HN4.out _ _ _⟩
  · rw [hA] at HNUM
    have HV : Hid (V = none) := HNUM.out
    clear hA HPA
    obtain ⟨c0, c1, c2, f0, f1, f2, g0⟩ := box_cells HBX2.out
    go_wp2_with fail
    exact bodyPost_ret (results_box_tmp rfl _ _ w.heap.size 67 _ rfl (box_trio HBX2.out) _ Tryd.underlying67 rfl pieceSize) rfl ⟨by rw [HV.out]; rfl, set3_below (Nat.le_refl _) HN2.out _ _ _⟩

theorem number_any (s : ByteArray) (hs : s.size ≤ 1000000) (w : World) (hL : Laid w) :
    Calls Tryd.prog 34 #[.string s] w (PieceRes ((numL s.data.toList).map fun v => ((2 : Int), s.data.toList.take v.2, v.2)) w) := by
  cases hh : hexAhead s.data.toList
  · exact number_ten s hh hs w hL
  · exact number_hex s hh hs w hL

end Go.Proofs.YtdjhpgpekomjeaaDoor

/- What the landed token's comment gives. No condition. -/
namespace Go.Proofs.YtdjhpgpekomjeaaDoor
open Go.RowKit

/-- What a '/' begins. -/
def remarkL (r : List UInt8) : Option (Int × List UInt8 × Nat) :=
  if beginsL [47, 47] r then some (0, [], runLen (fun x => !(x == 10)) r)
  else if beginsL [47, 42] r then ((endOf (r.drop 2)).map (· + 2)).map fun n => (0, [], n)
  else none

theorem begins_is (a b : UInt8) (r : List UInt8) : ([a, b] : List UInt8).isPrefixOf r = beginsL [a, b] r := by
  unfold beginsL
  match r with
  | [] => rfl
  | [x] => simp [List.isPrefixOf]
  | x :: y :: t => simp [List.isPrefixOf, Bool.beq_eq_decide_eq, eq_comm]

set_option maxRecDepth 100000 in
set_option maxHeartbeats 4000000 in
theorem remark_any (s : ByteArray) (hs : s.size ≤ 1000000) (w : World) (hL : Laid w) :
    Calls Tryd.prog 35 #[.string s] w (PieceRes (remarkL s.data.toList) w) := by
  have HP : Hid (∀ W : World, Calls Tryd.prog 47 #[.string s, .string ⟨#[47, 47]⟩] W fun e w' => e = .returned (.bool (beginsL [47, 47] s.data.toList)) ∧ W = w') := fun W => by
    have := prefix_any s ⟨#[47, 47]⟩ W
    rwa [show (⟨#[47, 47]⟩ : ByteArray).data.toList = [47, 47] from rfl, begins_is] at this
  have HC : Hid (∀ W : World, Calls Tryd.prog 50 #[.string s, .string ⟨#[47, 42]⟩] W fun e w' => e = .returned (if beginsL [47, 42] s.data.toList = true then .tuple #[.string (s.extract 2 s.size), .bool true] else .tuple #[.string s, .bool false]) ∧ W = w') := fun W => by
    have := cutPrefix_any s W
    rwa [begins_is] at this
  obtain ⟨V, hV⟩ : ∃ V, V = remarkL s.data.toList := ⟨_, rfl⟩
  rw [← hV]
  unfold remarkL at hV
  obtain ⟨hbx0, hn0⟩ := piece_start w
  have HBX := Lib.hid hbx0
  have HN0 := Lib.hid hn0
  clear hbx0 hn0
  cases h1 : beginsL [47, 47] s.data.toList
  · rw [h1] at HP hV
    rw [if_neg (by decide)] at hV
    cases h2 : beginsL [47, 42] s.data.toList
    · rw [h2, if_neg (by decide)] at HC
      rw [h2, if_neg (by decide)] at hV
      subst hV
      have HIX : Hid (∀ W : World, Below w.heap.size w W → Calls Tryd.prog 30 #[.string s, .string ⟨#[42, 47]⟩] W fun e w' => (∃ n : Int, e = .returned (.int .i64 n)) ∧ W = w') := fun W hW => (index_any s ⟨#[42, 47]⟩ W (hL.below hW) hs).mono fun _ _ ⟨h3, h4⟩ => ⟨⟨_, h3⟩, h4⟩
      clear h1 h2 hL
      go_enter Tryd.func35, Tryd.ntmps35
      go_wp2_with fail
      generalize hw0 : w.alloc (.cells #[.int .i64 0, .string ⟨#[]⟩, .int .i64 0] 67) = w0 at *
      clear hw0
      obtain ⟨c0, c1, c2, f0, f1, f2, g0⟩ := box_cells HBX.out
      refine (HP.out _).mono ?_
      rintro r w1 ⟨rfl, rfl⟩
      go_wp2_with fail
      refine (HC.out _).mono ?_
      rintro r w1 ⟨rfl, rfl⟩
      go_wp2_with fail
      refine (HIX.out _ HN0.out).mono ?_
      rintro r w1 ⟨⟨n, rfl⟩, rfl⟩
      go_wp2_with fail
      exact bodyPost_ret (results_box_tmp rfl _ _ w.heap.size 67 _ rfl (box_trio HBX.out) _ Tryd.underlying67 rfl pieceSize) rfl ⟨rfl, set3_below (Nat.le_refl _) HN0.out _ _ _⟩
    · rw [h2, if_pos rfl] at HC
      rw [h2, if_pos rfl, end_is] at hV
      have hge := Lib.index_ge (s.data.toList.drop 2) [42, 47]
      have h2s : 2 ≤ s.size := by
        have := begins_len h2
        rw [← Lib.size_eq] at this
        exact this
      have HIX : Hid (∀ W : World, Below w.heap.size w W → Calls Tryd.prog 30 #[.string (s.extract 2 s.size), .string ⟨#[42, 47]⟩] W fun e w' => e = .returned (.int .i64 (Lib.index (s.data.toList.drop 2) [42, 47])) ∧ W = w') := fun W hW => by
        have := index_any (s.extract 2 s.size) ⟨#[42, 47]⟩ W (hL.below hW) (by simp; omega)
        rwa [ext_drop] at this
      have hfar := end_is (s.data.toList.drop 2)
      clear h1 h2 hL
      by_cases hm : Lib.index (s.data.toList.drop 2) [42, 47] = -1
      · rw [hm] at HIX
        rw [if_pos hm] at hV
        have hV2 : V = none := hV
        subst hV2
        clear hV hm hge hfar
        go_enter Tryd.func35, Tryd.ntmps35
        go_wp2_with fail
        generalize hw0 : w.alloc (.cells #[.int .i64 0, .string ⟨#[]⟩, .int .i64 0] 67) = w0 at *
        clear hw0
        obtain ⟨c0, c1, c2, f0, f1, f2, g0⟩ := box_cells HBX.out
        refine (HP.out _).mono ?_
        rintro r w1 ⟨rfl, rfl⟩
        go_wp2_with fail
        refine (HC.out _).mono ?_
        rintro r w1 ⟨rfl, rfl⟩
        go_wp2_with fail
        refine (HIX.out _ HN0.out).mono ?_
        rintro r w1 ⟨rfl, rfl⟩
        go_wp2_with fail
        exact bodyPost_ret (results_box_tmp rfl _ _ w.heap.size 67 _ rfl (box_trio HBX.out) _ Tryd.underlying67 rfl pieceSize) rfl ⟨rfl, set3_below (Nat.le_refl _) HN0.out _ _ _⟩
      · obtain ⟨n, hn⟩ : ∃ n : Nat, Lib.index (s.data.toList.drop 2) [42, 47] = (n : Int) := ⟨(Lib.index (s.data.toList.drop 2) [42, 47]).toNat, by omega⟩
        rw [hn] at HIX
        rw [if_neg hm, hn, Int.toNat_natCast] at hV
        rw [if_neg hm, hn, Int.toNat_natCast] at hfar
        have hle := end_len _ _ hfar
        rw [List.length_drop, ← Lib.size_eq] at hle
        have hV2 : V = some (0, [], n + 2 + 2) := hV
        have HV := Lib.hid hV2
        have hnI : (n : Int) ≤ 1000000 := by omega
        clear hV hV2 hm hge hfar hn hle
        go_enter Tryd.func35, Tryd.ntmps35
        go_wp2_with fail
        generalize hw0 : w.alloc (.cells #[.int .i64 0, .string ⟨#[]⟩, .int .i64 0] 67) = w0 at *
        clear hw0
        obtain ⟨c0, c1, c2, f0, f1, f2, g0⟩ := box_cells HBX.out
        refine (HP.out _).mono ?_
        rintro r w1 ⟨rfl, rfl⟩
        go_wp2_with fail
        refine (HC.out _).mono ?_
        rintro r w1 ⟨rfl, rfl⟩
        go_wp2_with fail
        refine (HIX.out _ HN0.out).mono ?_
        rintro r w1 ⟨rfl, rfl⟩
        go_wp2_with fail
        have hsum : (2 : Int) + (n : Int) + 2 = ((n + 2 + 2 : Nat) : Int) := by omega
        exact bodyPost_ret (results_box_tmp rfl _ _ w.heap.size 67 _ rfl (box_trio HBX.out) _ Tryd.underlying67 rfl pieceSize) rfl ⟨by rw [HV.out]; dsimp only [pcCells]; rw [← hsum]; rfl, set3_below (Nat.le_refl _) HN0.out _ _ _⟩
  · rw [h1] at HP hV
    rw [if_pos rfl] at hV
    have HLN : Hid (∀ W : World, Below w.heap.size w W → Calls Tryd.prog 49 #[.string s, .string ⟨#[10]⟩] W fun e w' => (∃ (a b : ByteArray) (c : Bool), e = .returned (.tuple #[.string a, .string b, .bool c]) ∧ a.size = runLen (fun x => !(x == 10)) s.data.toList) ∧ Below W.heap.size W w') := fun W hW => line_any s W (hL.below hW) hs
    have HV := Lib.hid hV
    clear h1 hL hV
    go_enter Tryd.func35, Tryd.ntmps35
    go_wp2_with fail
    generalize hw0 : w.alloc (.cells #[.int .i64 0, .string ⟨#[]⟩, .int .i64 0] 67) = w0 at *
    clear hw0
    refine (HP.out _).mono ?_
    rintro r w1 ⟨rfl, rfl⟩
    go_wp2_with fail
    refine (HLN.out _ HN0.out).mono ?_
    rintro r w1 ⟨⟨a, b, c, rfl, ha⟩, hb1⟩
    have HA := Lib.hid ha
    have HBX1 := Lib.hid (HBX.out.step hb1)
    have HN1 := Lib.hid (below_step HN0.out (Nat.le_refl _) hb1)
    obtain ⟨c0, c1, c2, f0, f1, f2, g0⟩ := box_cells HBX1.out
    clear hb1 ha
    go_wp2_with fail
    exact bodyPost_ret (results_box_tmp rfl _ _ w.heap.size 67 _ rfl (box_trio HBX1.out) _ Tryd.underlying67 rfl pieceSize) rfl ⟨by rw [HV.out, ← HA.out]; rfl, set3_below (Nat.le_refl _) HN1.out _ _ _⟩

end Go.Proofs.YtdjhpgpekomjeaaDoor
