/- strings.SplitSeq at a '/': the iterator that it hands back gives a text's parts in their order. -/
import Derived.Test.YtdjhpgpekomjeaaDoorSeqBox
import Derived.Test.YtdjhpgpekomjeaaDoorFileLib
import Derived.Shelf.Abstract
import Derived.WalkKit
import Derived.OwnWalkIn
import Derived.TacticsInMore
import Derived.LoopNIn
import Derived.LoopIn
namespace Go.Proofs.YtdjhpgpekomjeaaDoor
open Go.RowKit

attribute [local go_sem] Oper.semAt_some

/-- A round keeps the iterator's three boxes. -/
def KeepsBoxes (B : Nat) (W W' : World) : Prop := ∀ (k : Nat) (o : Obj), B ≤ k → k < B + 3 → W.heap[k]? = some o → W'.heap[k]? = some o

theorem KeepsBoxes.refl (B : Nat) (W : World) : KeepsBoxes B W W := fun _ _ _ _ h => h
theorem KeepsBoxes.trans {B : Nat} {X Y Z : World} (h : KeepsBoxes B X Y) (k : KeepsBoxes B Y Z) : KeepsBoxes B X Z := fun i o h1 h2 ho => k i o h1 h2 (h i o h1 h2 ho)
theorem KeepsBoxes.boxed {B k : Nat} {W W' : World} {t : TypeId} {v : Value} (h : KeepsBoxes B W W') (hb : Boxed W k t v) (h1 : B ≤ k) (h2 : k < B + 3) : Boxed W' k t v := h k _ h1 h2 hb

/-- How long the text in a box is. -/
def boxLen (b : Nat) (W : World) : Nat := match W.cell? ⟨b, 0, none⟩ with
  | some (.string s) => s.size
  | _ => 0
theorem boxLen_eq {W : World} {b : Nat} {t : TypeId} {s : ByteArray} (h : Boxed W b t (.string s)) : boxLen b W = s.size := by
  unfold boxLen
  rw [h.cell]

/-- Where the iterator stands between two rounds. -/
def PartsAt (B : Nat) (s : ByteArray) (J : List (List UInt8) → World → Prop) (wr : World) : Prop :=
  ∃ (pre : List (List UInt8)) (rest : ByteArray), partsOf 47 s.data.toList = pre ++ partsOf 47 rest.data.toList ∧ rest.size ≤ s.size ∧
    Boxed wr B 9 (.string rest) ∧ Boxed wr (B + 1) 9 (.string ⟨#[47]⟩) ∧ Boxed wr (B + 2) 3 (.int .i64 0) ∧ J pre wr

set_option maxRecDepth 100000 in
set_option maxHeartbeats 4000000 in
theorem parts_in (n : Nat) (hn : 1 ≤ n) (B l : Nat) (s : ByteArray) (hs : s.size ≤ 4398046511104) (J Jx : List (List UInt8) → World → Prop) (W : World)
    (hJ : ∀ pre W1 v v', J pre W1 → Boxed W1 B 9 v → J pre (W1.setCell ⟨B, 0, none⟩ v'))
    (hY : ∀ pre x W1, J pre W1 → (∃ r, partsOf 47 s.data.toList = pre ++ x :: r) → YieldAt Fence.wide (n - 1) Tryd.prog l #[.string (strOf x)] W1 fun e W' =>
      (e = .returned (.bool true) ∧ J (pre ++ [x]) W' ∧ KeepsBoxes B W1 W') ∨ (e = .returned (.bool false) ∧ Jx (pre ++ [x]) W'))
    (h0 : Boxed W B 9 (.string s)) (h1 : Boxed W (B + 1) 9 (.string ⟨#[47]⟩)) (h2 : Boxed W (B + 2) 3 (.int .i64 0)) (hJ0 : J [] W) :
    CallsIn Fence.wide n Tryd.prog 28 #[.func (.yield l) #[] #[], .pointer (some ⟨B + 1, 0, none⟩), .pointer (some ⟨B, 0, none⟩), .pointer (some ⟨B + 2, 0, none⟩)] W fun e W' =>
      (∃ v, e = .returned v) ∧ (J (partsOf 47 s.data.toList) W' ∨ ∃ pre, pre <+: partsOf 47 s.data.toList ∧ Jx pre W') := by
  have HJ := Lib.hid hJ
  have HY := Lib.hid hY
  have HS : Hid (PartsAt B s J W) := ⟨[], s, rfl, Nat.le_refl _, h0, h1, h2, hJ0⟩
  have c1 := h1.cell
  clear hJ hY h0 h2 hJ0
  refine callsIn_of_wp Tryd.func28 rfl trivial ?_ rfl
  simp only [Tryd.ntmps28, List.size_toArray, List.length_cons, List.length_nil, Nat.reduceAdd, Nat.reduceSub, Array.replicate_succ, Array.replicate_zero, List.push_toArray, List.append_toArray, List.nil_append, List.cons_append]
  gi_wp2
  clear c1 h1
  gi_loopw [] (fun wr => PartsAt B s J wr) (fun wr => boxLen B wr)
  case atStart => exact HS.out
  case round =>
    obtain ⟨pre, rest, hsp, hle, b0, b1, b2, hj⟩ := hrel
    clear HS
    have c0 := b0.cell
    have c1 := b1.cell
    have c2 := b2.cell
    have f0 := b0.frozen
    rcases slash_cases rest.data.toList with ⟨hi, hno⟩ | ⟨a, b, hab, hno, hi⟩
    · rw [parts_one 47 _ hno] at hsp
      have HI : Hid (∀ V : World, Calls Tryd.prog 30 #[.string rest, .string ⟨#[47]⟩] V fun e w' => e = .returned (.int .i64 (-1)) ∧ V = w') := fun V => by
        have := sindex_any rest V
        rw [hi] at this
        exact this
      obtain ⟨fn, tmps, assign, body, hy, hR⟩ := HY.out pre rest.data.toList wr hj ⟨[], hsp⟩
      rw [strOf_of] at hy
      have HSP := Lib.hid hsp
      have HR := Lib.hid hR
      clear hsp hno hi hR hj b0 b1 b2 hle
      gi_wp2_with (refine ⟨trivial, ?_⟩; gi_at_call 30; refine (callsIn_wide.2 (HI.out _)).mono ?_; rintro e w' ⟨rfl, rfl⟩)
      refine HR.out.mono ?_
      rintro e W3 (⟨rfl, hJ3, hk3⟩ | ⟨rfl, hJx3⟩)
      · gi_wp2
        go_end0
        exact ⟨⟨_, rfl⟩, .inl (by rw [HSP.out]; exact hJ3)⟩
      · gi_wp2
        go_end0
        exact ⟨⟨_, rfl⟩, .inr ⟨_, ⟨[], by rw [HSP.out, List.append_nil]⟩, hJx3⟩⟩
    · rw [hab, parts_append, parts_one 47 _ hno] at hsp
      have hra : rest.size = a.length + 1 + b.length := by
        have e : rest.data.toList.length = (a ++ 47 :: b).length := by rw [hab]
        simp only [Array.length_toList, List.length_append, List.length_cons] at e
        have e2 : rest.data.size = rest.size := rfl
        omega
      have HI : Hid (∀ V : World, Calls Tryd.prog 30 #[.string rest, .string ⟨#[47]⟩] V fun e w' => e = .returned (.int .i64 (a.length : Int)) ∧ V = w') := fun V => by
        have := sindex_any rest V
        rw [hi] at this
        exact this
      have ea : rest.extract 0 a.length = strOf a := by
        rw [Go.Lib.extract_eq, hab]
        unfold strOf
        simp
      have eb : rest.extract (a.length + 1) (a.length + 1 + b.length) = strOf b := by
        rw [Go.Lib.extract_eq, hab, show a.length + 1 + b.length - (a.length + 1) = b.length from by omega]
        unfold strOf
        rw [show a.length + 1 = (a ++ [47]).length from by simp, show a ++ 47 :: b = (a ++ [47]) ++ b from by simp, List.drop_left, List.take_length]
      have HSP : Hid (partsOf 47 s.data.toList = (pre ++ [a]) ++ partsOf 47 b) := by
        unfold Hid
        rw [hsp, List.append_assoc]
      obtain ⟨fn, tmps, assign, body, hy, hR⟩ := HY.out pre a wr hj ⟨partsOf 47 b, by rw [HSP.out, List.append_assoc]; rfl⟩
      rw [← ea] at hy
      have HR := Lib.hid hR
      have HB0 := Lib.hid b0
      have HB1 := Lib.hid b1
      have HB2 := Lib.hid b2
      have HEB := Lib.hid eb
      have hbl : (strOf b).size ≤ s.size := by rw [strOf_size]; omega
      have hlt : (strOf b).size < rest.size := by rw [strOf_size]; omega
      have HW : Hid (boxLen B wr = rest.size) := boxLen_eq b0
      have ha0 : (0 : Int) ≤ (a.length : Int) := by omega
      have n1 : IntKind.i64.wrap ((a.length : Int) + 0) = (a.length : Int) := by rw [Int.add_zero]; exact IntWalk.i64_in _ (by omega)
      have n2 : IntKind.i64.wrap ((a.length : Int) + 1) = ((a.length + 1 : Nat) : Int) := by rw [IntWalk.i64_in _ (by omega)]; omega
      have n3 : (a.length : Int) ≤ (rest.size : Int) := by omega
      have n4 : ((a.length + 1 : Nat) : Int) ≤ (rest.size : Int) := by omega
      clear hsp hno hi hR hj b0 b1 b2 ea eb hab
      gi_wp2_with (refine ⟨trivial, ?_⟩; gi_at_call 30; refine (callsIn_wide.2 (HI.out _)).mono ?_; rintro e w' ⟨rfl, rfl⟩)
      refine HR.out.mono ?_
      rintro e W3 (⟨rfl, hJ3, hk3⟩ | ⟨rfl, hJx3⟩)
      · have d0 := hk3.boxed HB0.out (Nat.le_refl _) (by omega)
        have d1 := hk3.boxed HB1.out (by omega) (by omega)
        have d2 := hk3.boxed HB2.out (by omega) (by omega)
        have c0 := d0.cell
        have c1 := d1.cell
        have f0 := d0.frozen
        have HD0 := Lib.hid d0
        have HD1 := Lib.hid d1
        have HD2 := Lib.hid d2
        have HJ3 := Lib.hid hJ3
        clear d0 d1 d2 hk3 hJ3
        gi_wp2
        go_roundw
        case rel =>
          refine ⟨pre ++ [a], strOf b, by rw [strOf_data]; exact HSP.out, hbl, ?_, ?_, ?_, ?_⟩
          · rw [← HEB.out]
            exact HD0.out.set _
          · exact HD1.out.kept (grownBy_setCell' W3 B _) (by simp)
          · exact HD2.out.kept (grownBy_setCell' W3 B _) (by simp)
          · exact HJ.out _ _ _ _ HJ3.out HD0.out
        case measure =>
          have e := boxLen_eq (HD0.out.set (.string (strOf b)))
          rw [HEB.out, e, HW.out]
          exact hlt
      · gi_wp2
        refine bodyPost_ret (results_none rfl _ _ _) rfl ?_
        exact ⟨⟨_, rfl⟩, .inr ⟨pre ++ [a], ⟨partsOf 47 b, HSP.out.symm⟩, hJx3⟩⟩

/-- The iterator's contract. -/
theorem split_gives (n : Nat) (hn : 1 ≤ n) (B : Nat) (s : ByteArray) (hs : s.size ≤ 4398046511104) (w : World)
    (h0 : Boxed w B 9 (.string s)) (h1 : Boxed w (B + 1) 9 (.string ⟨#[47]⟩)) (h2 : Boxed w (B + 2) 3 (.int .i64 0)) :
    SeqOwn Fence.wide n Tryd.prog 28 #[.pointer (some ⟨B + 1, 0, none⟩), .pointer (some ⟨B, 0, none⟩), .pointer (some ⟨B + 2, 0, none⟩)]
      (fun x : List UInt8 => #[.string (strOf x)]) B 9 (KeepsBoxes B) (partsOf 47 s.data.toList) w :=
  fun l J Jx W hW hJ hY hJ0 => parts_in n hn B l s hs J Jx W hJ hY ((hW.block B h0.lt).trans h0) ((hW.block (B + 1) h1.lt).trans h1) ((hW.block (B + 2) h2.lt).trans h2) hJ0

/-- What the three boxes make of a world. -/
def boxes3 (w : World) (s : ByteArray) : World := ((w.alloc (.cells #[.string s] 9)).alloc (.cells #[.string ⟨#[47]⟩] 9)).alloc (.cells #[.int .i64 0] 3)

theorem splitSeq_low (s : ByteArray) (w : World) : Calls Tryd.prog 20 #[.string s, .string ⟨#[47]⟩, .int .i64 0] w fun e w' =>
    e = .returned (.func (.func 28) #[] #[.pointer (some ⟨w.heap.size + 1, 0, none⟩), .pointer (some ⟨w.heap.size, 0, none⟩), .pointer (some ⟨w.heap.size + 1 + 1, 0, none⟩)]) ∧ w' = boxes3 w s := by
  go_enter Tryd.func20, Tryd.ntmps20
  go_wp2
  go_ret
  exact ⟨rfl, rfl⟩

theorem splitSeq_any (s : ByteArray) (w : World) : Calls Tryd.prog 14 #[.string s, .string ⟨#[47]⟩] w fun e w' =>
    e = .returned (.func (.func 28) #[] #[.pointer (some ⟨w.heap.size + 1, 0, none⟩), .pointer (some ⟨w.heap.size, 0, none⟩), .pointer (some ⟨w.heap.size + 1 + 1, 0, none⟩)]) ∧ w' = boxes3 w s := by
  go_enter Tryd.func14, Tryd.ntmps14
  go_wp2_with fail
  refine (splitSeq_low s _).mono ?_
  rintro r w1 ⟨rfl, rfl⟩
  go_wp2
  go_ret
  exact ⟨rfl, rfl⟩

end Go.Proofs.YtdjhpgpekomjeaaDoor
