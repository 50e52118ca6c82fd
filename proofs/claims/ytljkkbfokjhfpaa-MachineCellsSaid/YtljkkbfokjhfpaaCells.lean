/- The walk of the statement MachineCells: it returns true, and writes nothing that was there. -/
import Derived.Test.YtljkkbfokjhfpaaCellsPlain
import Derived.Test.YtljkkbfokjhfpaaStore
namespace Go.Proofs.Ytljkkbfokjhfpaa
open Go.RowKit

theorem tail_ok (l m : List Ins) (hl : ∀ y ∈ l, y.Ok) (hm : ∀ y ∈ m, y.Ok) : ∀ y ∈ l ++ m, y.Ok := by
  intro y hy
  rcases List.mem_append.1 hy with h | h
  · exact hl y h
  · exact hm y h

theorem tail1_ok (look : Nat) (h : look ≤ 15) : ∀ y ∈ tail1 look, y.Ok := by
  intro y hy
  simp only [tail1, List.mem_cons, List.not_mem_nil, or_false] at hy
  rcases hy with rfl | rfl
  · exact ins_ok (by omega) (by omega) (by omega) (by omega)
  · exact ins_ok (by omega) (by omega) (by omega) (by omega)

theorem tail2_ok (look : Nat) (h : look ≤ 15) : ∀ y ∈ tail2 look, y.Ok := by
  intro y hy
  simp only [tail2, List.mem_cons, List.not_mem_nil, or_false] at hy
  rcases hy with rfl | rfl | rfl
  · exact ins_ok (by omega) (by omega) (by omega) (by omega)
  · exact ins_ok (by omega) (by omega) (by omega) (by omega)
  · exact ins_ok (by omega) (by omega) (by omega) (by omega)

theorem Try.infoInsC : (Try.prog.info? 34).map (fun i => (i.zero, i.size, i.bytes)) = some (some (.agg #[.int .i64 0, .int .i64 0, .int .i64 0, .int .u32 0]), 4, 32) := by kernel_rfl

/-- Where the built row, what is wanted, and the count stand at the head of the round. -/
def CellsRel (ats vs : List Int) (look n : Nat) (w : World) (v u i : Value) (wr : World) : Prop :=
  ∃ k : Nat, k ≤ n ∧ i = .int .i64 k ∧ wr.ownsRow w.heap.size 34 4 v (2 * k) (cellsOf (cellL ((ats.zip vs).take k))) ∧ u = .int .u32 (wantOf look ((ats.zip vs).take k)) ∧ Below w.heap.size w wr

set_option maxRecDepth 100000 in
set_option maxHeartbeats 2000000 in
theorem mcells_in (R : MacSays) (A B : Option Addr) (n c m c2 look : Nat) (ats vs : List Int) (w : World) (hl : Lies w w.heap.size 1 A n (ats.map (Value.int .i64))) (hv : Lies w w.heap.size 1 B m (vs.map (Value.int .u32))) (hn : n ≤ 60) (hnm : n ≤ m) (hm : m ≤ 140737488355328) (hlook : look ≤ 15)
    (hvs : ∀ y ∈ vs, 0 ≤ y ∧ y ≤ 4294967295) :
    Calls Try.prog 6 #[.slice A n c, .slice B m c2, .int .i64 look] w fun r w' => r = .returned (.bool true) ∧ Below w.heap.size w w' := by
  obtain ⟨i0, hi, hz0, hz1, hz2⟩ := info_parts Try.infoInsC
  have hla : ats.length = n := by have := hl.1; rw [List.length_map] at this; omega
  have hlv : vs.length = m := by have := hv.1; rw [List.length_map] at this; omega
  have hzl : (ats.zip vs).length = n := by rw [List.length_zip]; omega
  have HR1 : Hid (runOf (cellL (ats.zip vs) ++ tail1 look) dat0 = (wantOf look (ats.zip vs), 2 * n + 2, true)) := by
    have := cells_run1 (ats.zip vs) look dat0 hlook (by omega)
    rw [hzl] at this
    exact this
  have HR2 : Hid (runOf (cellL (ats.zip vs) ++ tail2 look) dat0 = (wantOf look (ats.zip vs), 2 * n + 3, true)) := by
    have := cells_run2 (ats.zip vs) look dat0 hlook (by omega)
    rw [hzl] at this
    exact this
  have hpo : ∀ t ∈ ats.zip vs, 0 ≤ t.2 ∧ t.2 ≤ 4294967295 := fun t ht => hvs t.2 (List.of_mem_zip (a := t.1) (b := t.2) ht).2
  have HLA := Lib.hid hla
  have HLV := Lib.hid hlv
  have HZL := Lib.hid hzl
  have HPO := Lib.hid hpo
  clear hla hlv hzl hpo
  have g0 : decide ((60 : Int) < (n : Int)) = false := decide_eq_false (by omega)
  have g1 : decide ((m : Int) < (n : Int)) = false := decide_eq_false (by omega)
  have g1' : decide (m < n) = false := decide_eq_false (by omega)
  have g2 : decide ((look : Int) < 0) = false := decide_eq_false (by omega)
  have g3 : decide ((15 : Int) < (look : Int)) = false := decide_eq_false (by omega)
  go_enter Try.func6, Try.ntmps6
  go_wp2_with fail
  refine (malive_any R _).mono ?_
  rintro r w1 ⟨rfl, hb1⟩
  have hsz1 := hb1.size
  go_wp2_with fail
  go_loopw [8, 9, 10] (fun v u i wr => CellsRel ats vs look n w v u i wr) (fun _ _ i _ => n - (intOf i).toNat)
  case atStart => exact ⟨0, by omega, rfl, World.ownsRow_nil _ _ _ _, rfl, hb1⟩
  case round =>
    obtain ⟨k, hk, rfl, hown, rfl, hnx⟩ := hrel
    have hsw := hnx.size
    by_cases hlt : k < n
    · obtain ⟨ba, oa, rfl, hba, hca⟩ := hl.2 (by omega)
      obtain ⟨bv, ov, rfl, hbv, hcv⟩ := hv.2 (by omega)
      obtain ⟨a, hat⟩ : ∃ a, ats[k]? = some a := ⟨_, List.getElem?_eq_getElem (by have := HLA.out; omega)⟩
      obtain ⟨v, hvt⟩ : ∃ v, vs[k]? = some v := ⟨_, List.getElem?_eq_getElem (by have := HLV.out; omega)⟩
      have hv01 := hvs v (List.mem_of_getElem? hvt)
      obtain ⟨hv0, hv1⟩ := hv01
      have hca' := (hnx.cell (p := ⟨ba, oa + k, none⟩) hba).trans (hca k (.int .i64 a) (by simp [hat]))
      have HCV := Lib.hid (hcv k (.int .u32 v) (by simp [hvt]))
      have hcv' := (hnx.cell (p := ⟨bv, ov + k, none⟩) hbv).trans HCV.out
      have hstep : (ats.zip vs).take (k + 1) = (ats.zip vs).take k ++ [(a, v)] := take_one (by simp [List.getElem?_zip_eq_some, hat, hvt])
      have HS := Lib.hid hstep
      have h15 := and15 a
      have hq0 : 0 ≤ a % 16 := by omega
      have hq1 : a % 16 ≤ 15 := by omega
      obtain ⟨q, hq⟩ : ∃ q, q = a % 16 := ⟨_, rfl⟩
      rw [← hq] at h15 hq0 hq1
      have HQ := Lib.hid hq.symm
      clear hq hstep hat hvt hca hcv hl hv hvs
      cases hb4 : bit4 a
      · have hci : Hid (cellsOf (cellL ((ats.zip vs).take (k + 1))) = cellsOf (cellL ((ats.zip vs).take k)) ++ [.int .i64 0, .int .i64 0, .int .i64 0, .int .u32 v, .int .i64 2, .int .i64 0, .int .i64 0, .int .u32 q]) := by
          show _ = _
          have ec : cellI (a, v) = [⟨0, 0, 0, v⟩, ⟨2, 0, 0, q⟩] := by
            unfold cellI
            rw [if_neg (by rw [hb4]; decide)]
            show [(⟨0, 0, 0, v⟩ : Ins), ⟨2, 0, 0, a % 16⟩] = _
            rw [HQ.out]
          rw [HS.out, cellL_snoc, ec]
          simp [cellsOf, Ins.cells]
        have hb4' : (bits .and .i64 a 16 != 0) = false := hb4
        clear hb4
        go_wp2_with (at_builtin; go_loud (refine wpList_append_lit _ rfl (.tmp 70) (.tmp 79) _ rfl w.heap.size 34 i0 _ 4 32 Try.underlying22 hi hz0 hz1 hz2 rfl (by omega) _ _ _ rfl hown _ _ 2 2 rfl rfl ?c1 ?c2 ?c3 ?c4 ?_))
        case c1 => simp [Value.oneCell']
        case c2 => unfold maxLen; omega
        case c3 => omega
        case c4 => omega
        intro v' w' hown3 hg3
        have hnx3 : Below w.heap.size w w' := below_grown (hnx.alloc (by omega) _) (hown.alloc _) (Nat.le_refl _) (by simp; omega) hg3
        have hown4 : w'.ownsRow w.heap.size 34 4 v' (2 * (k + 1)) (cellsOf (cellL ((ats.zip vs).take (k + 1)))) := by
          rw [hci.out]
          exact hown3
        have hcv3 := (hnx3.cell (p := ⟨bv, ov + k, none⟩) hbv).trans HCV.out
        clear hg3 hown hown3 hnx
        have hsz := hnx3.size
        cases hql : (q == (look : Int))
        · go_wp2
          go_roundw
          case rel => exact ⟨k + 1, by omega, by go_num, hown4, by rw [HS.out, wantOf_snoc, HQ.out, if_neg (by simpa using hql)], hnx3⟩
          case measure => simp [intOf]; omega
        · go_wp2
          go_roundw
          case rel => exact ⟨k + 1, by omega, by go_num, hown4, by rw [HS.out, wantOf_snoc, HQ.out, if_pos (by simpa using hql)], hnx3⟩
          case measure => simp [intOf]; omega
      · have hci : Hid (cellsOf (cellL ((ats.zip vs).take (k + 1))) = cellsOf (cellL ((ats.zip vs).take k)) ++ [.int .i64 1, .int .i64 0, .int .i64 0, .int .u32 v, .int .i64 3, .int .i64 0, .int .i64 0, .int .u32 q]) := by
          show _ = _
          have ec : cellI (a, v) = [⟨1, 0, 0, v⟩, ⟨3, 0, 0, q⟩] := by
            unfold cellI
            rw [if_pos hb4]
            show [(⟨1, 0, 0, v⟩ : Ins), ⟨3, 0, 0, a % 16⟩] = _
            rw [HQ.out]
          rw [HS.out, cellL_snoc, ec]
          simp [cellsOf, Ins.cells]
        have hb4' : (bits .and .i64 a 16 != 0) = true := hb4
        clear hb4
        go_wp2_with (at_builtin; go_loud (refine wpList_append_lit _ rfl (.tmp 59) (.tmp 68) _ rfl w.heap.size 34 i0 _ 4 32 Try.underlying22 hi hz0 hz1 hz2 rfl (by omega) _ _ _ rfl hown _ _ 2 2 rfl rfl ?c1 ?c2 ?c3 ?c4 ?_))
        case c1 => simp [Value.oneCell']
        case c2 => unfold maxLen; omega
        case c3 => omega
        case c4 => omega
        intro v' w' hown3 hg3
        have hnx3 : Below w.heap.size w w' := below_grown (hnx.alloc (by omega) _) (hown.alloc _) (Nat.le_refl _) (by simp; omega) hg3
        have hown4 : w'.ownsRow w.heap.size 34 4 v' (2 * (k + 1)) (cellsOf (cellL ((ats.zip vs).take (k + 1)))) := by
          rw [hci.out]
          exact hown3
        have hcv3 := (hnx3.cell (p := ⟨bv, ov + k, none⟩) hbv).trans HCV.out
        clear hg3 hown hown3 hnx
        have hsz := hnx3.size
        cases hql : (q == (look : Int))
        · go_wp2
          go_roundw
          case rel => exact ⟨k + 1, by omega, by go_num, hown4, by rw [HS.out, wantOf_snoc, HQ.out, if_neg (by simpa using hql)], hnx3⟩
          case measure => simp [intOf]; omega
        · go_wp2
          go_roundw
          case rel => exact ⟨k + 1, by omega, by go_num, hown4, by rw [HS.out, wantOf_snoc, HQ.out, if_pos (by simpa using hql)], hnx3⟩
          case measure => simp [intOf]; omega
    · obtain rfl : k = n := by omega
      rw [List.take_of_length_le (by have := HZL.out; omega)] at hown ⊢
      clear g0 g1 g1' hl hv hvs
      obtain ⟨A1, c1, rfl, hc1, hl1⟩ := own_form hown
      obtain ⟨W, hW⟩ : ∃ W, W = wantOf look (ats.zip vs) := ⟨_, rfl⟩
      rw [← hW] at HR1 HR2 ⊢
      clear hW hown
      have hlx : (look : Int) % 4294967296 = look := by omega
      go_wp2_with (at_builtin; go_loud (refine wpList_append_lies _ rfl (.const (.slice none 0 0)) (.tmp 89) _ rfl wr.heap.size 34 i0 _ 4 32 Try.underlying22 hi hz0 hz1 hz2 rfl (by omega) (.slice none 0 0) 0 [] rfl (World.ownsRow_nil _ _ _ _) _ A1 (2 * k) c1 _ rfl hl1 (cells_one _) (by unfold maxLen; omega) (by omega) (by omega) ?_))
      intro v5 w5 hown5 hg5
      have hn5 : Below w.heap.size w w5 := below_grown hnx (World.ownsRow_nil wr wr.heap.size 34 4) (by omega) (by omega) hg5
      have hl5 : Lies w5 wr.heap.size 4 A1 (2 * k) (cellsOf (cellL (ats.zip vs))) := hl1.keep fun p hp => World.cell?_of_block (hg5.block p.block hp (by simp [Value.ownBlock]))
      have hz5 := hn5.size
      have hz5' := hg5.size
      clear hg5 hnx hl1
      go_wp2_with (at_builtin; go_loud (refine wpList_append_lit _ rfl (.tmp 90) (.tmp 95) _ rfl wr.heap.size 34 i0 _ 4 32 Try.underlying22 hi hz0 hz1 hz2 rfl (by omega) _ _ _ rfl hown5 _ _ 2 2 rfl rfl ?e1 ?e2 ?e3 ?e4 ?_))
      case e1 => simp [Value.oneCell']
      case e2 => unfold maxLen; omega
      case e3 => omega
      case e4 => omega
      intro v6 w6 hown6 hg6
      have hn6 : Below w.heap.size w w6 := below_grown (hn5.alloc (by omega) _) (hown5.alloc _) (by omega) (by simp; omega) hg6
      have hl6 : Lies w6 wr.heap.size 4 A1 (2 * k) (cellsOf (cellL (ats.zip vs))) := lies_grown (hl5.alloc hz5' _) (hown5.alloc _) (Nat.le_refl _) (by simp; omega) hg6
      obtain ⟨A2, c2', rfl, hc2, hl2⟩ := own_form hown6
      have hz6 := hn6.size
      have hz6' : wr.heap.size ≤ w6.heap.size := Nat.le_trans hz5' (by have := hg6.size; simp at this; omega)
      clear hg6 hn5 hl5 hz5 hown5 hown6
      go_wp2_with fail
      refine (R.run A2 (2 * k + 2) c2' (cellL (ats.zip vs) ++ tail1 look) dat0 _ (by rw [show cellsOf (cellL (ats.zip vs) ++ tail1 look) = cellsOf (cellL (ats.zip vs)) ++ cellsOf (tail1 look) from by simp [cellsOf]]; exact hl2) (tail_ok _ _ (cellL_ok _ HPO.out) (tail1_ok look hlook)) dat0_ok (by omega)).mono ?_
      rw [HR1.out]
      rintro r w7 ⟨rfl, hb7⟩
      have hnx := below_step hn6 (Nat.le_refl _) hb7
      have hl1 := (hl6.below (hb7.mono hz6')).wider (Nat.le_trans hz6' hb7.size)
      have hsw := hnx.size
      clear hb7 hn6 hl6 hl2 hz6 hz6' hz5'
      go_wp2_with (at_builtin; go_loud (refine wpList_append_lies _ rfl (.const (.slice none 0 0)) (.tmp 103) _ rfl w7.heap.size 34 i0 _ 4 32 Try.underlying22 hi hz0 hz1 hz2 rfl (by omega) (.slice none 0 0) 0 [] rfl (World.ownsRow_nil _ _ _ _) _ A1 (2 * k) c1 _ rfl hl1 (cells_one _) (by unfold maxLen; omega) (by omega) (by omega) ?_))
      intro v5 w15 hown5 hg5
      have hn5 : Below w.heap.size w w15 := below_grown hnx (World.ownsRow_nil w7 w7.heap.size 34 4) (by omega) (by omega) hg5
      have hl5 : Lies w15 w7.heap.size 4 A1 (2 * k) (cellsOf (cellL (ats.zip vs))) := hl1.keep fun p hp => World.cell?_of_block (hg5.block p.block hp (by simp [Value.ownBlock]))
      have hz5 := hn5.size
      have hz5' := hg5.size
      clear hg5 hnx hl1
      go_wp2_with (at_builtin; go_loud (refine wpList_append_lit _ rfl (.tmp 104) (.tmp 110) _ rfl w7.heap.size 34 i0 _ 4 32 Try.underlying22 hi hz0 hz1 hz2 rfl (by omega) _ _ _ rfl hown5 _ _ 3 3 rfl rfl ?f1 ?f2 ?f3 ?f4 ?_))
      case f1 => simp [Value.oneCell']
      case f2 => unfold maxLen; omega
      case f3 => omega
      case f4 => omega
      intro v6 w16 hown6 hg6
      have hn6 : Below w.heap.size w w16 := below_grown (hn5.alloc (by omega) _) (hown5.alloc _) (by omega) (by simp; omega) hg6
      obtain ⟨A2, c2', rfl, hc2, hl2⟩ := own_form hown6
      have hz6 := hn6.size
      clear hg6 hn5 hl5 hz5 hown5 hown6
      go_wp2_with fail
      refine (R.run A2 (2 * k + 3) c2' (cellL (ats.zip vs) ++ tail2 look) dat0 _ (by rw [show cellsOf (cellL (ats.zip vs) ++ tail2 look) = cellsOf (cellL (ats.zip vs)) ++ cellsOf (tail2 look) from by simp [cellsOf]]; exact hl2) (tail_ok _ _ (cellL_ok _ HPO.out) (tail2_ok look hlook)) dat0_ok (by omega)).mono ?_
      rw [HR2.out]
      rintro r w8 ⟨rfl, hb7⟩
      have hnx2 := below_step hn6 (Nat.le_refl _) hb7
      clear hb7 hn6 hl2 hz6
      go_wp2
      go_ret
      exact ⟨rfl, hnx2⟩

set_option maxRecDepth 100000 in
set_option maxHeartbeats 2000000 in
theorem mcells_out (R : MacSays) (A B : Option Addr) (n c m c2 : Nat) (look : Int) (w : World) (hn : n ≤ 140737488355328) (h : 60 < n ∨ m < n ∨ look < 0 ∨ 15 < look) :
    Calls Try.prog 6 #[.slice A n c, .slice B m c2, .int .i64 look] w fun r w' => r = .returned (.bool true) ∧ Below w.heap.size w w' := by
  by_cases h0 : 60 < n
  · have b0 : decide ((60 : Int) < (n : Int)) = true := decide_eq_true (by omega)
    clear h
    go_enter Try.func6, Try.ntmps6
    go_wp2_with fail
    refine (malive_any R _).mono ?_
    rintro r w1 ⟨rfl, hb1⟩
    go_wp2
    go_ret
    exact ⟨rfl, hb1⟩
  by_cases h1 : m < n
  · have b0 : decide ((60 : Int) < (n : Int)) = false := decide_eq_false (by omega)
    have b1 : decide ((m : Int) < (n : Int)) = true := decide_eq_true (by omega)
    have b1' : decide (m < n) = true := decide_eq_true (by omega)
    clear h
    go_enter Try.func6, Try.ntmps6
    go_wp2_with fail
    refine (malive_any R _).mono ?_
    rintro r w1 ⟨rfl, hb1⟩
    go_wp2
    go_ret
    exact ⟨rfl, hb1⟩
  by_cases h2 : look < 0
  · have b0 : decide ((60 : Int) < (n : Int)) = false := decide_eq_false (by omega)
    have b1 : decide ((m : Int) < (n : Int)) = false := decide_eq_false (by omega)
    have b1' : decide (m < n) = false := decide_eq_false (by omega)
    have b2 : decide (look < 0) = true := decide_eq_true (by omega)
    clear h
    go_enter Try.func6, Try.ntmps6
    go_wp2_with fail
    refine (malive_any R _).mono ?_
    rintro r w1 ⟨rfl, hb1⟩
    go_wp2
    go_ret
    exact ⟨rfl, hb1⟩
  have b0 : decide ((60 : Int) < (n : Int)) = false := decide_eq_false (by omega)
  have b1 : decide ((m : Int) < (n : Int)) = false := decide_eq_false (by omega)
  have b1' : decide (m < n) = false := decide_eq_false (by omega)
  have b2 : decide (look < 0) = false := decide_eq_false (by omega)
  have b3 : decide (15 < look) = true := decide_eq_true (by omega)
  clear h
  go_enter Try.func6, Try.ntmps6
  go_wp2_with fail
  refine (malive_any R _).mono ?_
  rintro r w1 ⟨rfl, hb1⟩
  go_wp2
  go_ret
  exact ⟨rfl, hb1⟩

theorem mcells_any (R : MacSays) (A B : Option Addr) (n c m c2 : Nat) (look : Int) (ats vs : List Int) (w : World) (hl : Lies w w.heap.size 1 A n (ats.map (Value.int .i64))) (hv : Lies w w.heap.size 1 B m (vs.map (Value.int .u32))) (hn : n ≤ 140737488355328) (hm : m ≤ 140737488355328)
    (hvs : ∀ y ∈ vs, 0 ≤ y ∧ y ≤ 4294967295) :
    Calls Try.prog 6 #[.slice A n c, .slice B m c2, .int .i64 look] w fun r w' => r = .returned (.bool true) ∧ Below w.heap.size w w' := by
  by_cases h : 60 < n ∨ m < n ∨ look < 0 ∨ 15 < look
  · exact mcells_out R A B n c m c2 look w hn h
  · obtain ⟨q, rfl⟩ := Int.eq_ofNat_of_zero_le (show 0 ≤ look by omega)
    exact mcells_in R A B n c m c2 q ats vs w hl hv (by omega) (by omega) hm (by omega) hvs

end Go.Proofs.Ytljkkbfokjhfpaa
