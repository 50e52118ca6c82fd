/- What the document's own ReadListing gives. -/
import Derived.Test.YtdcpdieejknliaaDoorLineFour
namespace Go.Proofs.YtdcpdieejknliaaDoor
open Go.RowKit

/-- The lines from the i-th on, behind what is read. -/
def readFrom (i : Nat) (acc : List Ins) : List (List UInt8) → List Ins × Int × Int
  | [] => (acc, -1, 0)
  | [x] => if x = [] then (acc, -1, 0) else ([], (i : Int), 3)
  | x :: y :: r => match lineRead x with
    | none => ([], (i : Int), 3)
    | some u => readFrom (i + 1) (acc ++ [u]) (y :: r)
def readOf (s : List UInt8) : List Ins × Int × Int := readFrom 0 [] (partsOf 10 s)

/-- What a reading hands back. -/
def ReadIs (t : List Ins × Int × Int) (w : World) : Ending → World → Prop :=
  fun r w' => ∃ v, r = .returned (.tuple #[v, .int .i64 t.2.1, .int .i64 t.2.2]) ∧ w'.ownsRow w.heap.size 38 4 v t.1.length (cellsOf t.1) ∧ Below w.heap.size w w'

theorem split_parts (c : UInt8) : ∀ (s cur q : List UInt8), q ∈ splitAcc c cur s → q.length ≤ cur.length + s.length
  | [], cur, q, h => by
    simp [splitAcc] at h
    rw [h]
    simp
  | x :: r, cur, q, h => by
    rw [splitAcc] at h
    split at h
    · rcases List.mem_cons.1 h with h | h
      · rw [h]; simp
      · have := split_parts c r [] q h
        simp at this ⊢
        omega
    · have := split_parts c r (cur ++ [x]) q h
      simp at this ⊢
      omega
theorem parts_le (c : UInt8) (s q : List UInt8) (h : q ∈ partsOf c s) : q.length ≤ s.length := by
  have := split_parts c s [] q h
  simpa using this
theorem parts_ne (c : UInt8) (s : List UInt8) : partsOf c s ≠ [] := by
  have : ∀ (s cur : List UInt8), splitAcc c cur s ≠ [] := by
    intro s
    induction s with
    | nil => intro cur; simp [splitAcc]
    | cons x r ih =>
      intro cur
      rw [splitAcc]
      split
      · simp
      · exact ih _
  exact this s []

theorem read_last {i : Nat} {acc : List Ins} {P : List (List UInt8)} {q : List UInt8} {k : Nat} (h : P[k]? = some q) (hk : k + 1 = P.length) : readFrom i acc (P.drop k) = if q = [] then (acc, -1, 0) else ([], (i : Int), 3) := by
  obtain ⟨hl, e⟩ := List.getElem?_eq_some_iff.1 h
  rw [List.drop_eq_getElem_cons hl, e, List.drop_eq_nil_of_le (by omega)]
  rfl
theorem read_more {i : Nat} {acc : List Ins} {P : List (List UInt8)} {q : List UInt8} {k : Nat} (h : P[k]? = some q) (hk : k + 1 < P.length) : readFrom i acc (P.drop k) = match lineRead q with
    | none => ([], (i : Int), 3)
    | some u => readFrom (i + 1) (acc ++ [u]) (P.drop (k + 1)) := by
  obtain ⟨hl, e⟩ := List.getElem?_eq_some_iff.1 h
  rw [List.drop_eq_getElem_cons hl, e, List.drop_eq_getElem_cons hk]
  rfl

theorem infoInsL : (Tryd.prog.info? 38).map (fun i => (i.zero, i.size, i.bytes)) = some (some (.agg #[.int .i64 0, .int .i64 0, .int .i64 0, .int .u32 0]), 4, 32) := by kernel_rfl

/-- Where the loop stands. -/
def Readings (P : List (List UInt8)) (R : List Ins × Int × Int) (w1 : World) (v i : Value) (wr : World) : Prop :=
  ∃ (k : Nat) (acc : List Ins), k < P.length ∧ i = .int .i64 k ∧ wr.ownsRow w1.heap.size 38 4 v acc.length (cellsOf acc) ∧ acc.length = k ∧ Below w1.heap.size w1 wr ∧ readFrom k acc (P.drop k) = R

set_option maxRecDepth 100000 in
set_option maxHeartbeats 4000000 in
theorem readRef_any (s : ByteArray) (w : World) (hs : s.size ≤ 1099511627776) :
    Calls Tryd.prog 8 #[.string s] w (ReadIs (readOf s.data.toList) w) := by
  obtain ⟨i0, hi, hz0, hz1, hz2⟩ := info_parts infoInsL
  obtain ⟨R, hR⟩ : ∃ R, R = readOf s.data.toList := ⟨_, rfl⟩
  obtain ⟨P, hP⟩ : ∃ P, P = partsOf 10 s.data.toList := ⟨_, rfl⟩
  have HR : Hid (readFrom 0 [] P = R) := by rw [hR, hP]; rfl
  have HLE : Hid (∀ q ∈ P, q.length ≤ 1099511627776) := fun q hq => by
    rw [hP] at hq
    have := parts_le _ _ _ hq
    have h2 : s.data.toList.length = s.size := by simp
    omega
  have hm : P.length ≤ 1099511627777 := by
    have := split_len 10 s.data.toList []
    rw [hP, partsOf]
    have h2 : s.data.toList.length = s.size := by simp
    omega
  have hm0 : 0 < P.length := List.length_pos_iff.2 (by rw [hP]; exact parts_ne _ _)
  have HC : Hid (∀ W : World, Calls Tryd.prog 15 #[.string s, .int .u8 10] W (NewRow 9 1 P.length (strsV P) W)) := fun W => by
    have := parts_any s 10 W hs
    rw [← hP] at this
    exact this
  rw [← hR]
  clear hR hP
  go_enter Tryd.func8, Tryd.ntmps8
  go_wp2_with fail
  refine (HC.out _).mono ?_
  rintro r w1 ⟨v1, rfl, hown, hb1⟩
  obtain ⟨A1, k1, rfl, hk1, hl1⟩ := own_form hown
  have HL1 := Lib.hid hl1
  have HB1 := Lib.hid hb1
  clear hown hl1 hb1
  generalize hM : P.length = M at hm hm0 hk1 ⊢
  have HM := Lib.hid hM
  clear hM
  go_wp2_with fail
  go_loopw [5, 7] (fun v i wr => Readings P R w1 v i wr) (fun _ i _ => M - (intOf i).toNat)
  case atStart => exact ⟨0, [], by have := HM.out; omega, rfl, World.ownsRow_nil _ _ _ _, rfl, Below.refl _ _, HR.out⟩
  case round =>
    obtain ⟨k, acc, hk, rfl, hownl, hacc, hnx, hrun⟩ := hrel
    rw [HM.out] at hk
    obtain ⟨q, hq⟩ : ∃ q, P[k]? = some q := ⟨_, List.getElem?_eq_getElem (by rw [HM.out]; exact hk)⟩
    obtain ⟨b, o, rfl, hb, hc⟩ := (HL1.out.below hnx).2 (by rw [HM.out]; omega)
    have y1 := hc k (.string (strOf q)) (by simp only [strsV, List.getElem?_map, hq]; rfl)
    have HQ := Lib.hid hq
    have HRUN := Lib.hid hrun
    have HNX := Lib.hid hnx
    have HOWN := Lib.hid hownl
    have HACC := Lib.hid hacc
    have HLQ := HLE.out q (List.mem_of_getElem? hq)
    have hy1 := hnx.size
    clear hc hq hrun hnx hacc
    by_cases hlast : k + 1 = M
    · have e1 : ((k : Int) == (M : Int) - 1) = true := by rw [beq_iff_eq]; omega
      by_cases hne : q = []
      · have hRR : R = (acc, -1, 0) := by
          rw [← HRUN.out, read_last HQ.out (by rw [HM.out]; exact hlast), if_pos hne]
        have HRR := Lib.hid hRR
        have f1 : (strOf q).toList = [] := by rw [strOf_toList, hne]
        have f2 : ((strOf q).toList == []) = true := by rw [strOf_toList, hne]; rfl
        have f3 : (strOf q).toList.isEmpty = true := by rw [strOf_toList, hne]; rfl
        clear hRR hne
        go_wp2
        go_ret3
        exact ⟨_, by rw [HRR.out]; rfl, by rw [HRR.out]; exact own_base HOWN.out HB1.out.size, HB1.out.trans (HNX.out.mono HB1.out.size)⟩
      · have hRR : R = ([], (k : Int), 3) := by
          rw [← HRUN.out, read_last HQ.out (by rw [HM.out]; exact hlast), if_neg hne]
        have HRR := Lib.hid hRR
        obtain ⟨f3, f2⟩ := strOf_empty _ hne
        clear hRR hne
        go_wp2
        go_ret3
        exact ⟨_, by rw [HRR.out]; rfl, by rw [HRR.out]; exact World.ownsRow_nil _ _ _ _, HB1.out.trans (HNX.out.mono HB1.out.size)⟩
    · have hlt : k + 1 < M := by omega
      have e1 : ((k : Int) == (M : Int) - 1) = false := by rw [beq_eq_false_iff_ne]; omega
      have hRR : R = match lineRead q with
          | none => ([], (k : Int), 3)
          | some u => readFrom (k + 1) (acc ++ [u]) (P.drop (k + 1)) := by
        rw [← HRUN.out, read_more HQ.out (by rw [HM.out]; exact hlt)]
      have HRR := Lib.hid hRR
      have HLINE : Hid (∀ W : World, Calls Tryd.prog 16 #[.string (strOf q)] W (LineIs (lineRead q) W)) := fun W => by
        have := line_any (strOf q) W (by rw [strOf_size]; exact HLQ)
        rw [strOf_data] at this
        exact this
      clear hRR hownl
      go_wp2_with fail
      refine (HLINE.out _).mono ?_
      rintro r w2 ⟨⟨x, rfl, hx⟩, hb2⟩
      cases hres : lineRead q with
      | none =>
        have hR2 : R = ([], (k : Int), 3) := by rw [HRR.out, hres]
        have HR2 := Lib.hid hR2
        have HN2 := Lib.hid (hb2.mono (Nat.le_trans HB1.out.size hy1))
        simp only [Ins.val, Option.isSome_none]
        clear hx hb2 hres hR2
        go_wp2
        go_ret3
        exact ⟨_, by rw [HR2.out]; rfl, by rw [HR2.out]; exact World.ownsRow_nil _ _ _ _, below_alloc ((HB1.out.trans (HNX.out.mono HB1.out.size)).trans HN2.out) (Nat.le_refl _) _⟩
      | some u =>
        obtain rfl : x = u := hx u hres
        have hR2 : readFrom (k + 1) (acc ++ [x]) (P.drop (k + 1)) = R := by rw [HRR.out, hres]
        have HR2 := Lib.hid hR2
        have hown2 := own_below HOWN.out hb2
        have hnx2 := below_step HNX.out (Nat.le_refl _) hb2
        have hz2' := hnx2.size
        have hal : acc.length = k := HACC.out
        simp only [Ins.val, Option.isSome_some]
        clear hx hb2 hres hR2
        go_wp2_with (at_builtin; go_loud (refine wpList_append_lies _ rfl (.tmp 41) (.tmp 43) _ rfl w1.heap.size 38 i0 _ 4 32 Tryd.underlying22 hi hz0 hz1 hz2 rfl (by omega) _ _ _ rfl ((hown2.alloc _).alloc _) _ (some ⟨w2.heap.size + 1, 0, none⟩) 1 1 [.int .i64 x.code, .int .i64 x.jt, .int .i64 x.jf, .int .u32 x.k] rfl (lies_new _ 1 4 (by simp) rfl rfl) ?c1 ?c2 ?c3 ?c4 ?_))
        case c1 => simp [Value.oneCell']
        case c2 => unfold maxLen; omega
        case c3 => omega
        case c4 => simp; omega
        intro v' w' hown3 hg3
        have hnx3 : Below w1.heap.size w1 w' := below_grown ((hnx2.alloc hz2' _).alloc (by simp; omega) _) ((hown2.alloc _).alloc _) (Nat.le_refl _) (by simp; omega) hg3
        have hown4 : w'.ownsRow w1.heap.size 38 4 v' (acc ++ [x]).length (cellsOf (acc ++ [x])) := by
          rw [show (acc ++ [x]).length = k + 1 from by rw [List.length_append, hal]; rfl, show cellsOf (acc ++ [x]) = cellsOf acc ++ [.int .i64 x.code, .int .i64 x.jt, .int .i64 x.jf, .int .u32 x.k] from by simp [cellsOf, Ins.cells]]
          exact hown3
        have HO := Lib.hid hown4
        clear hown3 hg3 hown2 hnx2 hown4
        go_wp2
        go_roundw
        case rel => exact ⟨k + 1, acc ++ [x], by rw [HM.out]; exact hlt, by go_num, HO.out, by rw [List.length_append, hal]; rfl, hnx3, HR2.out⟩
        case measure => simp [intOf]; omega

end Go.Proofs.YtdcpdieejknliaaDoor
