/- What the landed Find gives. -/
import Derived.Test.YtbibliakakjkiaaDoorCallRow
namespace Go.Proofs.YtbibliakakjkiaaDoor
open Go.RowKit

theorem calls_none {s : List UInt8} (h1 : s ≠ armB) (h2 : s ≠ x86B) (h3 : s ≠ amdB) : callsOf s = [] := by
  unfold callsOf callsIn
  rw [List.filter_eq_nil_iff.2 (fun r _ => by rw [sel_none h1 h2 h3 r]; decide)]
  rfl

theorem find_arm : ∀ r ∈ callTab, findOf armB r.name = rowCall armB r := by decide +kernel
theorem find_x86 : ∀ r ∈ callTab, findOf x86B r.name = rowCall x86B r := by decide +kernel
theorem find_amd : ∀ r ∈ callTab, findOf amdB r.name = rowCall amdB r := by decide +kernel

theorem find_row (s : List UInt8) (r : RowV) (hr : r ∈ callTab) : findOf s r.name = rowCall s r := by
  by_cases h1 : s = armB
  · rw [h1]; exact find_arm r hr
  · by_cases h2 : s = x86B
    · rw [h2]; exact find_x86 r hr
    · by_cases h3 : s = amdB
      · rw [h3]; exact find_amd r hr
      · unfold findOf rowCall
        rw [calls_none h1 h2 h3, sel_none h1 h2 h3, if_pos rfl]
        rfl

theorem find_noRow (s n : List UInt8) (h : ∀ r ∈ callTab, r.name ≠ n) : findOf s n = (noCall, false) := by
  have e : ((callsOf s).find? fun c => decide (c.name = n)) = none := by
    rw [List.find?_eq_none]
    intro c hc
    unfold callsOf callsIn at hc
    obtain ⟨r, hr, rfl⟩ := List.mem_map.1 hc
    simpa using h r (List.mem_filter.1 hr).1
  unfold findOf
  rw [e]

theorem tab_words : ∀ r ∈ callTab, ∀ x ∈ r.params, x ≠ [] := by decide +kernel
theorem row_words (s : List UInt8) (r : RowV) (hr : r ∈ callTab) : ∀ x ∈ (rowCall s r).1.params, x ≠ [] := by
  unfold rowCall
  split
  · intro x hx
    cases hx
  · exact tab_words r hr

theorem landVals_at : ∀ (l : List RowV) (k : Nat) (r : RowV), l[k]? = some r →
    (l.flatMap landVals)[k * 5]? = some (.string (strOf r.name)) ∧ (l.flatMap landVals)[k * 5 + 1]? = some (.string (strOf (joinSp r.params))) ∧ (l.flatMap landVals)[k * 5 + 2]? = some (.int .i64 r.amd) ∧
    (l.flatMap landVals)[k * 5 + 3]? = some (.int .i64 r.x86) ∧ (l.flatMap landVals)[k * 5 + 4]? = some (.int .i64 r.arm)
  | [], k, p, h => by simp at h
  | q :: ps, 0, p, h => by
    obtain rfl : q = p := by simpa using h
    exact ⟨rfl, rfl, rfl, rfl, rfl⟩
  | q :: ps, k + 1, p, h => by
    obtain ⟨h0, h1, h2, h3, h4⟩ := landVals_at ps k p (by simpa using h)
    have e : ∀ j, ((q :: ps).flatMap landVals)[(k + 1) * 5 + j]? = (ps.flatMap landVals)[k * 5 + j]? := fun j => by
      rw [List.flatMap_cons, List.getElem?_append_right (by simp [landVals]; omega)]
      congr 1
      simp [landVals]
      omega
    exact ⟨(e 0).trans h0, (e 1).trans h1, (e 2).trans h2, (e 3).trans h3, (e 4).trans h4⟩

/-- A row's five cells, in any world behind. -/
theorem land_row {w w' : World} {A : Option Addr} (hl : Lies w w.heap.size 5 A 17 (callTab.flatMap landVals)) (hb : Below w.heap.size w w') : ∃ b o, A = some ⟨b, o, none⟩ ∧ b < w.heap.size ∧ ∀ k r, callTab[k]? = some r →
    w'.cell? ⟨b, o + k * 5, none⟩ = some (.string (strOf r.name)) ∧ w'.cell? ⟨b, o + k * 5 + 1, none⟩ = some (.string (strOf (joinSp r.params))) ∧ w'.cell? ⟨b, o + k * 5 + 2, none⟩ = some (.int .i64 r.amd) ∧
    w'.cell? ⟨b, o + k * 5 + 3, none⟩ = some (.int .i64 r.x86) ∧ w'.cell? ⟨b, o + k * 5 + 4, none⟩ = some (.int .i64 r.arm) := by
  obtain ⟨b, o, e, hlt, hc⟩ := hl.2 (by omega)
  refine ⟨b, o, e, hlt, fun k r hr => ?_⟩
  obtain ⟨a0, a1, a2, a3, a4⟩ := landVals_at callTab k r hr
  have e1 := (hb.cell (p := ⟨b, o + (k * 5 + 1), none⟩) hlt).trans (hc _ _ a1)
  have e2 := (hb.cell (p := ⟨b, o + (k * 5 + 2), none⟩) hlt).trans (hc _ _ a2)
  have e3 := (hb.cell (p := ⟨b, o + (k * 5 + 3), none⟩) hlt).trans (hc _ _ a3)
  have e4 := (hb.cell (p := ⟨b, o + (k * 5 + 4), none⟩) hlt).trans (hc _ _ a4)
  rw [← Nat.add_assoc] at e1 e2 e3 e4
  exact ⟨(hb.cell (p := ⟨b, o + k * 5, none⟩) hlt).trans (hc _ _ a0), e1, e2, e3, e4⟩

set_option maxRecDepth 100000 in
set_option maxHeartbeats 2000000 in
theorem land_find (s n : ByteArray) (w : World) (hL : Laid w) : Calls Tryd.prog 9 #[.string s, .string n] w (OneCall (findOf s.data.toList n.data.toList) w) := by
  have HC : Hid (∀ r W, r ∈ callTab → Below w.heap.size w W → Calls Tryd.prog 18 #[.agg #[.string (strOf r.name), .string (strOf (joinSp r.params)), .int .i64 r.amd, .int .i64 r.x86, .int .i64 r.arm], .string s] W (OneCall (rowCall s.data.toList r) W)) := fun r W hr hW => land_call r hr s W (hL.below hW)
  have HN : Hid (n.toList = n.data.toList) := ByteArray.toList_eq n
  have HFR : Hid (∀ r ∈ callTab, findOf s.data.toList r.name = rowCall s.data.toList r) := find_row _
  have HFN : Hid ((∀ r ∈ callTab, r.name ≠ n.data.toList) → findOf s.data.toList n.data.toList = (noCall, false)) := find_noRow _ _
  obtain ⟨N, hN⟩ : ∃ N, N = n.data.toList := ⟨_, rfl⟩
  obtain ⟨S, hS⟩ : ∃ S, S = s.data.toList := ⟨_, rfl⟩
  rw [← hS] at HC HFR HFN ⊢
  rw [← hN] at HN HFN ⊢
  clear hS hN hL
  go_enter Tryd.func9, Tryd.ntmps9
  go_wp2_with fail
  refine (land_rows _).mono ?_
  rintro e w1 ⟨A, rfl, hl1, hb1⟩
  have hbx : Box w1 w.heap.size 30 #[.string ⟨#[]⟩, .int .u32 0, .slice none 0 0] := (Box.new w 30 _).step hb1
  have hnx : Below w.heap.size w w1 := below_step ((Below.refl _ _).alloc (Nat.le_refl _) _) (Nat.le_refl _) hb1
  have HBX := Lib.hid hbx
  have HNX := Lib.hid hnx
  have HL1 := Lib.hid hl1
  have hgl := hbx.lt
  clear hbx hnx hb1 hl1
  go_wp2_with fail
  go_loopw [7, 10] (fun _ i wr => ∃ k : Nat, k ≤ 17 ∧ i = .int .i64 k ∧ Hid (∀ j r, j < k → callTab[j]? = some r → r.name ≠ N) ∧ Below w1.heap.size w1 wr) (fun _ i _ => 17 - (intOf i).toNat)
  case atStart => exact ⟨0, by omega, rfl, fun j q hj => absurd hj (by omega), Below.refl _ _⟩
  case round =>
    obtain ⟨k, hk, rfl, HB, hnr⟩ := hrel
    by_cases hlt : k < 17
    · obtain ⟨r, hr, _⟩ := tab_row k hlt
      obtain ⟨b, o, rfl, hb, hc⟩ := land_row HL1.out hnr
      obtain ⟨e0, e1, e2, e3, e4⟩ := hc k r hr
      have hbw : b < wr.heap.size := Nat.lt_of_lt_of_le hb hnr.size
      have HR := Lib.hid hr
      clear hc hr
      have HQ : Hid ((strOf r.name).toList = r.name) := strOf_toList _
      cases hq : ((strOf r.name).toList == n.toList)
      · have hne : r.name ≠ N := by
          rw [HQ.out, HN.out] at hq
          simpa using hq
        have HNE := Lib.hid hne
        clear hne
        go_wp2_with fail
        go_roundw
        case rel => exact ⟨k + 1, by omega, by go_num, fun j q hj hjq => by
          by_cases e : j = k
          · subst e
            obtain rfl : r = q := Option.some.inj (HR.out.symm.trans hjq)
            exact HNE.out
          · exact HB.out j q (by omega) hjq, below_alloc hnr (Nat.le_refl _) _⟩
        case measure => simp [intOf]; omega
      · have he : r.name = N := by
          rw [HQ.out, HN.out] at hq
          simpa using hq
        have hrm : r ∈ callTab := List.mem_of_getElem? HR.out
        have HFK : Hid (findOf S N = rowCall S r) := by
          unfold Hid
          rw [← he]
          exact HFR.out r hrm
        have hn3 := below_alloc (HNX.out.trans (hnr.mono HNX.out.size)) (Nat.le_refl _) (.cells #[.string (strOf r.name), .string (strOf (joinSp r.params)), .int .i64 r.amd, .int .i64 r.x86, .int .i64 r.arm] 44)
        have hb3 := (HBX.out.step hnr).alloc (.cells #[.string (strOf r.name), .string (strOf (joinSp r.params)), .int .i64 r.amd, .int .i64 r.x86, .int .i64 r.arm] 44)
        have HN3 := Lib.hid hn3
        have HB3 := Lib.hid hb3
        have HRM := Lib.hid hrm
        clear he hn3 hb3 hrm
        go_wp2_with fail
        generalize wr.alloc (.cells #[.string (strOf r.name), .string (strOf (joinSp r.params)), .int .i64 r.amd, .int .i64 r.x86, .int .i64 r.arm] 44) = w3 at *
        refine (HC.out r _ HRM.out HN3.out).mono ?_
        rintro e w4 ⟨P, c, rfl, hp4, hb4⟩
        have hx4 := HB3.out.step hb4
        have hn4 := below_step HN3.out (Nat.le_refl _) hb4
        have HW : Hid (∀ x ∈ ((rowCall S r).1, P, c).1.params, x ≠ []) := row_words S r HRM.out
        have HX4 := Lib.hid hx4
        have HN4 := Lib.hid hn4
        have HP4 := Lib.hid hp4
        generalize rowCall S r = t at *
        obtain ⟨t, tb⟩ := t
        have r0 := hx4.cell 0
        have r1 := hx4.cell 1
        have r2 := hx4.cell 2
        simp only [List.getElem?_toArray, List.getElem?_cons_zero, List.getElem?_cons_succ] at r0 r1 r2
        have f0 := hx4.free 0
        have f1 := hx4.free 1
        have f2 := hx4.free 2
        have gg4 := hx4.lt
        clear hp4 hb4 hx4 hn4
        go_wp2_with fail
        have hbx := box_trio (a := .string (strOf t.name)) (b := .int .u32 t.nr) (c := .slice P t.params.length c) HX4.out
        refine bodyPost_ret (results_box_tmp rfl _ _ w.heap.size 30 _ ?q1 hbx _ Tryd.underlying30 ?q2 ?q3) ?q4 ?q5
        case q2 => rfl
        case q3 => exact callSize
        case q1 => rfl
        case q4 => rfl
        case q5 =>
          rw [HFK.out]
          refine ⟨P, c, rfl, ?_, ?_⟩
          · exact (params_only HP4.out (only_trans (only_trans (only_set _ _ _ _) (only_set _ _ _ _)) (only_set _ _ _ _)) (Nat.le_refl _) (fun b' o' e h0 => params_off HX4.out HP4.out HW.out e h0)).wider (by simp [World.setCell])
          · iterate 3 (with_reducible refine below_set (Nat.le_refl _) ?_)
            exact HN4.out
    · obtain rfl : k = 17 := by omega
      have HFK : Hid (findOf S N = (noCall, false)) := HFN.out fun r hr => by
        obtain ⟨j, hj⟩ := List.getElem?_of_mem hr
        exact HB.out j r (List.getElem?_eq_some_iff.1 hj).1 hj
      have hx4 := HBX.out.step hnr
      have HX4 := Lib.hid hx4
      have HN4 : Hid (Below w.heap.size w wr) := HNX.out.trans (hnr.mono HNX.out.size)
      have r0 := hx4.cell 0
      have r1 := hx4.cell 1
      have r2 := hx4.cell 2
      simp only [List.getElem?_toArray, List.getElem?_cons_zero, List.getElem?_cons_succ] at r0 r1 r2
      have f0 := hx4.free 0
      have f1 := hx4.free 1
      have f2 := hx4.free 2
      have gg4 := hx4.lt
      clear hx4
      go_wp2_with fail
      have hbx := box_trio (a := .string ⟨#[]⟩) (b := .int .u32 0) (c := .slice none 0 0) HX4.out
      refine bodyPost_ret (results_box_tmp rfl _ _ w.heap.size 30 _ ?q1 hbx _ Tryd.underlying30 ?q2 ?q3) ?q4 ?q5
      case q2 => rfl
      case q3 => exact callSize
      case q1 => rfl
      case q4 => rfl
      case q5 =>
        rw [HFK.out]
        refine ⟨none, 0, rfl, ⟨Lies.empty _ _ _ _, Nat.le_refl _⟩, ?_⟩
        iterate 3 (with_reducible refine below_set (Nat.le_refl _) ?_)
        exact HN4.out

end Go.Proofs.YtbibliakakjkiaaDoor
