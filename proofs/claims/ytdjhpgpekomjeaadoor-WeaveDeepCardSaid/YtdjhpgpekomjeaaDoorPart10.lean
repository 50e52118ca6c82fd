/- Texts of mine put together (a claim has at most so many files): TokSgnP, TokSgn. -/
import Derived.Test.YtdjhpgpekomjeaaDoorTokSet
import Derived.Test.YtdjhpgpekomjeaaDoorPart7
import Derived.Deep.MidRow
/- Plain facts on the landed token's table of signs. -/
namespace Go.Proofs.YtdjhpgpekomjeaaDoor
open Go.RowKit

/-- The landed table of signs. -/
def signTab : List (List UInt8) := [[38, 38], [124, 124], [61, 61], [33, 61], [60, 61], [62, 61], [123], [125], [40], [41], [44], [33], [38], [124], [60], [62]]
/-- The first of some that a text begins with. -/
def signIn (r : List UInt8) : List (List UInt8) → Option (List UInt8)
  | [] => none
  | t :: ts => if t.isPrefixOf r then some t else signIn r ts

theorem prefix_two' (a b : UInt8) (r : List UInt8) : ([a, b] : List UInt8).isPrefixOf r = (r.take 2 == [a, b]) := by
  match r with
  | [] => rfl
  | [x] => simp [List.isPrefixOf]
  | x :: y :: t => simp [List.isPrefixOf, Bool.beq_eq_decide_eq, eq_comm]
theorem prefix_one' (a c : UInt8) (r : List UInt8) : ([a] : List UInt8).isPrefixOf (c :: r) = (c == a) := by
  simp [List.isPrefixOf, Bool.beq_eq_decide_eq, eq_comm]

theorem sign_is (c : UInt8) (t : List UInt8) : signIn (c :: t) signTab = if signL (c :: t) = 0 then none else some ((c :: t).take (signL (c :: t))) := by
  unfold signL
  cases h2 : twoSigns.contains ((c :: t).take 2)
  · have hn : ∀ q ∈ twoSigns, ((c :: t).take 2 == q) = false := fun q hq => by
      cases hb : ((c :: t).take 2 == q)
      · rfl
      · have := List.contains_iff_mem.2 (eq_of_beq hb ▸ hq)
        rw [h2] at this
        cases this
    have e : signIn (c :: t) signTab = signIn (c :: t) [[123], [125], [40], [41], [44], [33], [38], [124], [60], [62]] := by
      simp only [signTab, signIn, prefix_two', hn _ (show [38, 38] ∈ twoSigns by decide), hn _ (show [124, 124] ∈ twoSigns by decide), hn _ (show [61, 61] ∈ twoSigns by decide), hn _ (show [33, 61] ∈ twoSigns by decide), hn _ (show [60, 61] ∈ twoSigns by decide), hn _ (show [62, 61] ∈ twoSigns by decide), Bool.false_eq_true, if_false]
    rw [e]
    simp only [signIn, prefix_one', Bool.false_eq_true, if_false]
    cases h1 : oneSigns.contains c
    · have hc : ∀ q ∈ oneSigns, (c == q) = false := fun q hq => by
        cases hb : (c == q)
        · rfl
        · have := List.contains_iff_mem.2 (eq_of_beq hb ▸ hq)
          rw [h1] at this
          cases this
      simp only [hc _ (show (123 : UInt8) ∈ oneSigns by decide), hc _ (show (125 : UInt8) ∈ oneSigns by decide), hc _ (show (40 : UInt8) ∈ oneSigns by decide), hc _ (show (41 : UInt8) ∈ oneSigns by decide), hc _ (show (44 : UInt8) ∈ oneSigns by decide), hc _ (show (33 : UInt8) ∈ oneSigns by decide), hc _ (show (38 : UInt8) ∈ oneSigns by decide), hc _ (show (124 : UInt8) ∈ oneSigns by decide), hc _ (show (60 : UInt8) ∈ oneSigns by decide), hc _ (show (62 : UInt8) ∈ oneSigns by decide), Bool.false_eq_true, if_false, if_true]
    · have hm : c ∈ oneSigns := List.contains_iff_mem.1 h1
      simp only [oneSigns, List.mem_cons, List.not_mem_nil, or_false] at hm
      rcases hm with rfl | rfl | rfl | rfl | rfl | rfl | rfl | rfl | rfl | rfl <;> rfl
  · have hm : (c :: t).take 2 ∈ twoSigns := List.contains_iff_mem.1 h2
    simp only [twoSigns, List.mem_cons, List.not_mem_nil, or_false] at hm
    simp only [if_true, signTab, signIn, prefix_two']
    rcases hm with h | h | h | h | h | h <;> rw [h] <;> rfl

end Go.Proofs.YtdjhpgpekomjeaaDoor

/- What the landed token's sign gives. No condition. -/
namespace Go.Proofs.YtdjhpgpekomjeaaDoor
open Go.RowKit

theorem tab_cells (k : Nat) (t : List UInt8) (h : signTab[k]? = some t) (w : World) :
    (Go.Instr.index 91 (.agg (strsV signTab).toArray) (.int .i64 k)).run Tryd.prog w = .ok (.string (strOf t)) w := by
  have hk : k < 16 := (List.getElem?_eq_some_iff.1 h).1
  have e : (strsV signTab).toArray[k]? = some (.string (strOf t)) := by
    rw [List.getElem?_toArray]
    unfold strsV
    rw [List.getElem?_map, h]
    rfl
  simp only [Go.Instr.index, asIntOf, Sem.run_bind, Sem.run_pure, Result.andThen_ok, run_underlying Tryd.underlying91, part]
  rw [if_pos ⟨by omega, by omega⟩]
  simp only [Sem.run_bind, Result.andThen_ok, Tryd.sizeOf9, Tryd.isAgg9, Int.toNat_natCast, Nat.mul_one, e]
  rfl

/-- Where the loop stands: none of the first k. -/
def SignAt (r : List UInt8) (w : World) (i : Value) (wr : World) : Prop :=
  ∃ k : Nat, k ≤ 16 ∧ i = .int .i64 k ∧ Hid (signIn r (signTab.drop k) = signIn r signTab) ∧ Below w.heap.size w wr

set_option maxRecDepth 100000 in
set_option maxHeartbeats 4000000 in
theorem sgn_any (s : ByteArray) (w : World) :
    Calls Tryd.prog 38 #[.string s] w (PieceRes ((signIn s.data.toList signTab).map fun t => (3, t, t.length)) w) := by
  obtain ⟨hbx0, hn0⟩ := piece_start w
  have HBX := Lib.hid hbx0
  have HN0 := Lib.hid hn0
  clear hbx0 hn0
  go_enter Tryd.func38, Tryd.ntmps38
  go_wp2_with fail
  have HX := Lib.hid tab_cells
  rw [show (strsV signTab).toArray = #[.string ⟨#[38, 38]⟩, .string ⟨#[124, 124]⟩, .string ⟨#[61, 61]⟩, .string ⟨#[33, 61]⟩, .string ⟨#[60, 61]⟩, .string ⟨#[62, 61]⟩, .string ⟨#[123]⟩, .string ⟨#[125]⟩, .string ⟨#[40]⟩, .string ⟨#[41]⟩, .string ⟨#[44]⟩, .string ⟨#[33]⟩, .string ⟨#[38]⟩, .string ⟨#[124]⟩, .string ⟨#[60]⟩, .string ⟨#[62]⟩] from rfl] at HX
  have HP := Lib.hid fun (t : List UInt8) W => prefix_any s (strOf t) W
  have HW := Lib.hid fun (t : List UInt8) W => whole_any 3 (strOf t) W
  generalize hw0 : w.alloc (.cells #[.int .i64 0, .string ⟨#[]⟩, .int .i64 0] 67) = w0 at *
  generalize (#[.string ⟨#[38, 38]⟩, .string ⟨#[124, 124]⟩, .string ⟨#[61, 61]⟩, .string ⟨#[33, 61]⟩, .string ⟨#[60, 61]⟩, .string ⟨#[62, 61]⟩, .string ⟨#[123]⟩, .string ⟨#[125]⟩, .string ⟨#[40]⟩, .string ⟨#[41]⟩, .string ⟨#[44]⟩, .string ⟨#[33]⟩, .string ⟨#[38]⟩, .string ⟨#[124]⟩, .string ⟨#[60]⟩, .string ⟨#[62]⟩] : Array Value) = T at HX ⊢
  have HBX1 := Lib.hid (HBX.out.alloc (.cells T 91))
  have HN1 := Lib.hid (below_alloc HN0.out (Nat.le_refl _) (.cells T 91))
  generalize hw1 : w0.alloc (.cells T 91) = w1 at *
  clear hw0 hw1 HBX HN0
  go_loopw [9] (fun i wr => SignAt s.data.toList w1 i wr) (fun i _ => 16 - (intOf i).toNat)
  case atStart => exact ⟨0, by omega, by go_num, rfl, Below.refl _ _⟩
  case round =>
    obtain ⟨k, hk, rfl, hrest, hnx⟩ := hrel
    have HBR := Lib.hid (HBX1.out.step hnx)
    have HNR := Lib.hid (below_step HN1.out (Nat.le_refl _) hnx)
    have HNX := Lib.hid hnx
    clear hnx
    by_cases hlt : k < 16
    · have hltI : (k : Int) < 16 := by omega
      obtain ⟨t, ht⟩ : ∃ t, signTab[k]? = some t := ⟨_, List.getElem?_eq_getElem hlt⟩
      have hix := HX.out k t ht wr
      have hd : signTab.drop k = t :: signTab.drop (k + 1) := by
        obtain ⟨h1, h2⟩ := List.getElem?_eq_some_iff.1 ht
        rw [List.drop_eq_getElem_cons h1, h2]
      rw [hd, signIn] at hrest
      have HPT := Lib.hid (HP.out t wr)
      rw [strOf_data] at HPT
      cases hp : t.isPrefixOf s.data.toList
      · rw [hp] at HPT hrest
        have HR : Hid (signIn s.data.toList (signTab.drop (k + 1)) = signIn s.data.toList signTab) := hrest
        clear hrest hd ht hp
        go_wp2_with fail
        refine (HPT.out).mono ?_
        rintro r wx ⟨rfl, rfl⟩
        go_wp2_with fail
        go_roundw
        case rel => exact ⟨k + 1, by omega, by go_num, HR, HNX.out⟩
        case measure => simp [intOf]; omega
      · rw [hp] at HPT hrest
        have HV : Hid (signIn s.data.toList signTab = some t) := Lib.hid hrest.out.symm
        clear hrest hd ht hp
        have HWT := Lib.hid (HW.out t)
        go_wp2_with fail
        refine (HPT.out).mono ?_
        rintro r wx ⟨rfl, rfl⟩
        go_wp2_with fail
        refine (HWT.out _).mono ?_
        rintro r wx ⟨rfl, hb⟩
        have HBR2 := Lib.hid (HBR.out.step hb)
        have HN2 := Lib.hid (below_step HNR.out (Nat.le_refl _) hb)
        obtain ⟨c0, c1, c2, f0, f1, f2, g0⟩ := box_cells HBR2.out
        clear hb
        unfold pcCells
        go_wp2_with fail
        exact bodyPost_ret (results_box_tmp rfl _ _ w.heap.size 67 _ rfl (box_trio HBR2.out) _ Tryd.underlying67 rfl pieceSize) rfl ⟨by rw [HV.out, strOf_size]; rfl, set3_below (Nat.le_refl _) HN2.out _ _ _⟩
    · obtain rfl : k = 16 := by omega
      have HV : Hid (signIn s.data.toList signTab = none) := Lib.hid hrest.out.symm
      clear hrest
      obtain ⟨c0, c1, c2, f0, f1, f2, g0⟩ := box_cells HBR.out
      go_wp2_with fail
      exact bodyPost_ret (results_box_tmp rfl _ _ w.heap.size 67 _ rfl (box_trio HBR.out) _ Tryd.underlying67 rfl pieceSize) rfl ⟨by rw [HV.out]; rfl, set3_below (Nat.le_refl _) HNR.out _ _ _⟩

end Go.Proofs.YtdjhpgpekomjeaaDoor
