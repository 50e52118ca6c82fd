/- Texts of mine put together (a claim has at most so many files): FileLib, FileIter. -/
import Derived.Test.YtdjhpgpekomjeaaGreatDoorPart9
import Derived.Lib.Bytealg
import Derived.Laws.Externs
import Derived.Shelf.Abstract
import Derived.WalkKit
import Derived.OwnWalkIn
import Derived.TacticsInMore
import Derived.LoopNIn
import Derived.LoopIn
/- What the library's functions give that package files calls: strings.Index, strings.LastIndexByte, bytes.LastIndexByte and strings.HasPrefix at a '/'. -/
namespace Go.Proofs.YtdjhpgpekomjeaaGreatDoor
open Go.RowKit

theorem slash_cases : ∀ l : List UInt8, (Lib.indexByte l 47 = -1 ∧ (47 : UInt8) ∉ l) ∨ ∃ a b, l = a ++ 47 :: b ∧ (47 : UInt8) ∉ a ∧ Lib.indexByte l 47 = (a.length : Int)
  | [] => .inl ⟨rfl, by simp⟩
  | b :: l => by
    unfold Lib.indexByte
    by_cases hb : b = 47
    · refine .inr ⟨[], l, by rw [hb]; rfl, by simp, ?_⟩
      rw [if_pos (by simpa using hb)]
      rfl
    · rw [if_neg (by simpa using hb)]
      rcases slash_cases l with ⟨e, h⟩ | ⟨x, y, e, h, hi⟩
      · refine .inl ⟨by rw [e]; rfl, ?_⟩
        intro hm
        rcases List.mem_cons.1 hm with h' | h'
        · exact hb h'.symm
        · exact h h'
      · refine .inr ⟨b :: x, y, by rw [e]; rfl, ?_, ?_⟩
        · intro hm
          rcases List.mem_cons.1 hm with h' | h'
          · exact hb h'.symm
          · exact h h'
        · rw [hi, if_neg (by simp)]
          simp

theorem sidx_ext (s : ByteArray) (c : Int) (W : World) : (callFunc 98 #[.string s, .int .u8 c]).run Tryz.prog W = .ok (.value (.int .i64 (Lib.indexByte s.data.toList c.toNat.toUInt8))) W := by
  rw [run_callFunc_extern (e := Extern.BytealgIndexByte.indexByte) Tryz.func98 (by kernel_rfl) (by kernel_rfl) (by kernel_rfl) (by kernel_rfl), Lib.run_indexByteString]
  rfl

theorem sidxb_any (s : ByteArray) (w : World) : Calls Tryz.prog 81 #[.string s, .int .u8 47] w fun e w' => e = .returned (.int .i64 (Lib.indexByte s.data.toList 47)) ∧ w = w' := by
  have hd := sidx_ext s 47
  have e : ((47 : Int).toNat.toUInt8) = 47 := rfl
  rw [e] at hd
  clear e
  go_enter Tryz.func81, Tryz.ntmps81
  go_wp2
  go_ret
  exact ⟨rfl, rfl⟩

theorem sidxl_any (s : ByteArray) (w : World) : Calls Tryz.prog 69 #[.string s, .string ⟨#[47]⟩] w fun e w' => e = .returned (.int .i64 (Lib.indexByte s.data.toList 47)) ∧ w = w' := by
  cases hq : ([47] == s.toList) with
  | true =>
    have hv : Lib.indexByte s.data.toList 47 = 0 := by
      have e : s.toList = [47] := (beq_iff_eq.1 hq).symm
      rw [← Lib.toList_data, e]
      rfl
    rw [hv]
    clear hv
    go_enter Tryz.func69, Tryz.ntmps69
    go_wp2
    go_ret
    exact ⟨rfl, rfl⟩
  | false =>
    go_enter Tryz.func69, Tryz.ntmps69
    go_wp2_with fail
    refine (sidxb_any s _).mono ?_
    rintro r w1 ⟨rfl, rfl⟩
    go_wp2
    go_ret
    exact ⟨rfl, rfl⟩

theorem sindex_any (s : ByteArray) (w : World) : Calls Tryz.prog 54 #[.string s, .string ⟨#[47]⟩] w fun e w' => e = .returned (.int .i64 (Lib.indexByte s.data.toList 47)) ∧ w = w' := by
  go_enter Tryz.func54, Tryz.ntmps54
  go_wp2_with fail
  refine (sidxl_any s _).mono ?_
  rintro r w1 ⟨rfl, rfl⟩
  go_wp2
  go_ret
  exact ⟨rfl, rfl⟩

/-- The place of the last '/', or -1. -/
def LastSl (l : List UInt8) (r : Int) : Prop := (r = -1 ∧ (47 : UInt8) ∉ l) ∨ ∃ a b, l = a ++ 47 :: b ∧ (47 : UInt8) ∉ b ∧ r = (a.length : Int)

def SlFrom (l : List UInt8) (w : World) (i : Value) (wr : World) : Prop :=
  (∃ k : Nat, k ≤ l.length ∧ i = .int .i64 ((k : Int) - 1) ∧ (47 : UInt8) ∉ l.drop k) ∧ w = wr

theorem last_here {l : List UInt8} {j : Nat} (hj : j < l.length) (h : l[j] = 47) (hno : (47 : UInt8) ∉ l.drop (j + 1)) : LastSl l (j : Int) := by
  refine .inr ⟨l.take j, l.drop (j + 1), ?_, hno, ?_⟩
  · rw [← h, ← List.drop_eq_getElem_cons hj, List.take_append_drop]
  · rw [List.length_take, Nat.min_eq_left (by omega)]
theorem last_down {l : List UInt8} {j : Nat} (hj : j < l.length) (h : ¬ l[j] = 47) (hno : (47 : UInt8) ∉ l.drop (j + 1)) : (47 : UInt8) ∉ l.drop j := by
  rw [List.drop_eq_getElem_cons hj]
  intro hm
  rcases List.mem_cons.1 hm with h' | h'
  · exact h h'.symm
  · exact hno h'
theorem byte_is {b : UInt8} (h : b = 47) : ((b.toNat : Int) == 47) = true := by rw [h]; rfl
theorem byte_not {b : UInt8} (h : ¬ b = 47) : ((b.toNat : Int) == 47) = false := by
  rw [beq_eq_false_iff_ne]
  intro e
  exact h (UInt8.toNat_inj.1 (by show b.toNat = 47; omega))

set_option maxRecDepth 100000 in
set_option maxHeartbeats 2000000 in
theorem slastb_any (s : ByteArray) (w : World) (hs : s.size ≤ 8796093022208) :
    Calls Tryz.prog 76 #[.string s, .int .u8 47] w fun e w' => ∃ r : Int, e = .returned (.int .i64 r) ∧ LastSl s.data.toList r ∧ w = w' := by
  go_enter Tryz.func76, Tryz.ntmps76
  go_wp2
  go_loopw [5] (fun i wr => SlFrom s.data.toList w i wr) (fun i _ => (intOf i + 1).toNat)
  case atStart => exact ⟨⟨s.size, Nat.le_of_eq (by simp only [Array.length_toList]; rfl), by go_num, by rw [List.drop_of_length_le (by simp)]; simp⟩, rfl⟩
  case round =>
    obtain ⟨⟨k, hk, rfl, hno⟩, rfl⟩ := hrel
    have hk : k ≤ s.size := by simpa using hk
    have HN := Lib.hid hno
    clear hno
    by_cases hk0 : k = 0
    · subst hk0
      go_wp2
      go_ret
      exact ⟨_, rfl, .inl ⟨rfl, HN.out⟩, rfl⟩
    · obtain ⟨j, rfl⟩ : ∃ j, k = j + 1 := ⟨k - 1, by omega⟩
      have hj : j < s.size := by omega
      have hjl : j < s.data.toList.length := by simpa using hj
      have hx := str_at s j hj
      have ej : ((j + 1 : Nat) : Int) - 1 = (j : Int) := by omega
      rw [ej]
      by_cases hq : s[j]'hj = 47
      · have HR : Hid (LastSl s.data.toList (j : Int)) := last_here hjl hq HN.out
        have hq' := byte_is hq
        clear hq hx
        go_wp2
        go_ret
        exact ⟨_, rfl, HR.out, rfl⟩
      · have HD : Hid ((47 : UInt8) ∉ s.data.toList.drop j) := last_down hjl hq HN.out
        have hq' := byte_not hq
        clear hq hx
        go_wp2
        go_roundw
        case rel => exact ⟨⟨j, by simp; omega, by go_num, HD.out⟩, rfl⟩
        case measure => simp [intOf]

theorem slast_any (s : ByteArray) (w : World) (hs : s.size ≤ 8796093022208) : Calls Tryz.prog 80 #[.string s, .int .u8 47] w fun e w' => ∃ r : Int, e = .returned (.int .i64 r) ∧ LastSl s.data.toList r ∧ w = w' := by
  go_enter Tryz.func80, Tryz.ntmps80
  go_wp2_with fail
  refine (slastb_any s _ hs).mono ?_
  rintro r w1 ⟨k, rfl, hk, rfl⟩
  go_wp2
  go_ret
  exact ⟨_, rfl, hk, rfl⟩

set_option maxRecDepth 100000 in
set_option maxHeartbeats 2000000 in
theorem blastb_any (A : Option Addr) (n c : Nat) (l : List UInt8) (w : World) (hl : Lies w w.heap.size 1 A n (bytesV l)) (hn : n ≤ 8796093022208) :
    Calls Tryz.prog 45 #[.slice A n c, .int .u8 47] w fun e w' => ∃ r : Int, e = .returned (.int .i64 r) ∧ LastSl l r ∧ w = w' := by
  have hln : l.length = n := by have := hl.1; rw [bytesV_length] at this; omega
  have HL := Lib.hid hl
  clear hl
  go_enter Tryz.func45, Tryz.ntmps45
  go_wp2
  go_loopw [5] (fun i wr => SlFrom l w i wr) (fun i _ => (intOf i + 1).toNat)
  case atStart => exact ⟨⟨n, by omega, by go_num, by rw [List.drop_of_length_le (by omega)]; simp⟩, rfl⟩
  case round =>
    obtain ⟨⟨k, hk, rfl, hno⟩, rfl⟩ := hrel
    rw [hln] at hk
    have HN := Lib.hid hno
    clear hno
    by_cases hk0 : k = 0
    · subst hk0
      go_wp2
      go_ret
      exact ⟨_, rfl, .inl ⟨rfl, HN.out⟩, rfl⟩
    · obtain ⟨j, rfl⟩ : ∃ j, k = j + 1 := ⟨k - 1, by omega⟩
      have hj : j < n := by omega
      have hjl : j < l.length := by omega
      obtain ⟨b, o, rfl, hb, hc⟩ := HL.out.2 (by omega)
      have e0 : w.cell? ⟨b, o + j, none⟩ = some (.int .u8 (l[j].toNat : Int)) := hc j _ (by simp only [bytesV, List.getElem?_map, List.getElem?_eq_getElem hjl]; rfl)
      have ej : ((j + 1 : Nat) : Int) - 1 = (j : Int) := by omega
      rw [ej]
      clear hc
      by_cases hq : l[j] = 47
      · have HR : Hid (LastSl l (j : Int)) := last_here hjl hq HN.out
        have hq' := byte_is hq
        clear hq
        go_wp2
        go_ret
        exact ⟨_, rfl, HR.out, rfl⟩
      · have HD : Hid ((47 : UInt8) ∉ l.drop j) := last_down hjl hq HN.out
        have hq' := byte_not hq
        clear hq
        go_wp2
        go_roundw
        case rel => exact ⟨⟨j, by omega, by go_num, HD.out⟩, rfl⟩
        case measure => simp [intOf]

theorem blast_any (A : Option Addr) (n c : Nat) (l : List UInt8) (w : World) (hl : Lies w w.heap.size 1 A n (bytesV l)) (hn : n ≤ 8796093022208) :
    Calls Tryz.prog 36 #[.slice A n c, .int .u8 47] w fun e w' => ∃ r : Int, e = .returned (.int .i64 r) ∧ LastSl l r ∧ w = w' := by
  go_enter Tryz.func36, Tryz.ntmps36
  go_wp2_with fail
  refine (blastb_any A n c l _ hl hn).mono ?_
  rintro r w1 ⟨k, rfl, hk, rfl⟩
  go_wp2
  go_ret
  exact ⟨_, rfl, hk, rfl⟩

end Go.Proofs.YtdjhpgpekomjeaaGreatDoor

/- strings.SplitSeq at a '/': the iterator that it hands back gives a text's parts in their order. -/
namespace Go.Proofs.YtdjhpgpekomjeaaGreatDoor
open Go.RowKit

attribute [local go_sem] Oper.semAt_some

/-- A round keeps the iterator's three boxes. -/
def KeepsBoxes (B : Nat) (W W' : World) : Prop := ∀ (k : Nat) (o : Obj), B ≤ k → k < B + 3 → W.heap[k]? = some o → W'.heap[k]? = some o

theorem KeepsBoxes.refl (B : Nat) (W : World) : KeepsBoxes B W W := fun _ _ _ _ h => h
theorem KeepsBoxes.trans {B : Nat} {X Y Z : World} (h : KeepsBoxes B X Y) (k : KeepsBoxes B Y Z) : KeepsBoxes B X Z := fun i o h1 h2 ho => k i o h1 h2 (h i o h1 h2 ho)
theorem KeepsBoxes.boxed {B k : Nat} {W W' : World} {t : TypeId} {v : Value} (h : KeepsBoxes B W W') (hb : Boxed W k t v) (h1 : B ≤ k) (h2 : k < B + 3) : Boxed W' k t v := h k _ h1 h2 hb

/-- How long the text in a box is. -/
def boxLen (b : Nat) (W : World) : Nat := match W.cell? ⟨b, 0, none⟩ with
  | some (.string s) => s.size
  | _ => 0
theorem boxLen_eq {W : World} {b : Nat} {t : TypeId} {s : ByteArray} (h : Boxed W b t (.string s)) : boxLen b W = s.size := by
  unfold boxLen
  rw [h.cell]

/-- Where the iterator stands between two rounds. -/
def PartsAt (B : Nat) (s : ByteArray) (J : List (List UInt8) → World → Prop) (wr : World) : Prop :=
  ∃ (pre : List (List UInt8)) (rest : ByteArray), partsOf 47 s.data.toList = pre ++ partsOf 47 rest.data.toList ∧ rest.size ≤ s.size ∧
    Boxed wr B 9 (.string rest) ∧ Boxed wr (B + 1) 9 (.string ⟨#[47]⟩) ∧ Boxed wr (B + 2) 3 (.int .i64 0) ∧ J pre wr

set_option maxRecDepth 100000 in
set_option maxHeartbeats 4000000 in
theorem parts_in (n : Nat) (hn : 1 ≤ n) (B l : Nat) (s : ByteArray) (hs : s.size ≤ 4398046511104) (J Jx : List (List UInt8) → World → Prop) (W : World)
    (hJ : ∀ pre W1 v v', J pre W1 → Boxed W1 B 9 v → J pre (W1.setCell ⟨B, 0, none⟩ v'))
    (hY : ∀ pre x W1, J pre W1 → (∃ r, partsOf 47 s.data.toList = pre ++ x :: r) → YieldAt Fence.wide (n - 1) Tryz.prog l #[.string (strOf x)] W1 fun e W' =>
      (e = .returned (.bool true) ∧ J (pre ++ [x]) W' ∧ KeepsBoxes B W1 W') ∨ (e = .returned (.bool false) ∧ Jx (pre ++ [x]) W'))
    (h0 : Boxed W B 9 (.string s)) (h1 : Boxed W (B + 1) 9 (.string ⟨#[47]⟩)) (h2 : Boxed W (B + 2) 3 (.int .i64 0)) (hJ0 : J [] W) :
    CallsIn Fence.wide n Tryz.prog 52 #[.func (.yield l) #[] #[], .pointer (some ⟨B + 1, 0, none⟩), .pointer (some ⟨B, 0, none⟩), .pointer (some ⟨B + 2, 0, none⟩)] W fun e W' =>
      (∃ v, e = .returned v) ∧ (J (partsOf 47 s.data.toList) W' ∨ ∃ pre, pre <+: partsOf 47 s.data.toList ∧ Jx pre W') := by
  have HJ := Lib.hid hJ
  have HY := Lib.hid hY
  have HS : Hid (PartsAt B s J W) := ⟨[], s, rfl, Nat.le_refl _, h0, h1, h2, hJ0⟩
  have c1 := h1.cell
  clear hJ hY h0 h2 hJ0
  refine callsIn_of_wp Tryz.func52 rfl trivial ?_ rfl
  simp only [Tryz.ntmps52, List.size_toArray, List.length_cons, List.length_nil, Nat.reduceAdd, Nat.reduceSub, Array.replicate_succ, Array.replicate_zero, List.push_toArray, List.append_toArray, List.nil_append, List.cons_append]
  gi_wp2
  clear c1 h1
  gi_loopw [] (fun wr => PartsAt B s J wr) (fun wr => boxLen B wr)
  case atStart => exact HS.out
  case round =>
    obtain ⟨pre, rest, hsp, hle, b0, b1, b2, hj⟩ := hrel
    clear HS
    have c0 := b0.cell
    have c1 := b1.cell
    have c2 := b2.cell
    have f0 := b0.frozen
    rcases slash_cases rest.data.toList with ⟨hi, hno⟩ | ⟨a, b, hab, hno, hi⟩
    · rw [parts_one 47 _ hno] at hsp
      have HI : Hid (∀ V : World, Calls Tryz.prog 54 #[.string rest, .string ⟨#[47]⟩] V fun e w' => e = .returned (.int .i64 (-1)) ∧ V = w') := fun V => by
        have := sindex_any rest V
        rw [hi] at this
        exact this
      obtain ⟨fn, tmps, assign, body, hy, hR⟩ := HY.out pre rest.data.toList wr hj ⟨[], hsp⟩
      rw [strOf_of] at hy
      have HSP := Lib.hid hsp
      have HR := Lib.hid hR
      clear hsp hno hi hR hj b0 b1 b2 hle
      gi_wp2_with (refine ⟨trivial, ?_⟩; gi_at_call 54; refine (callsIn_wide.2 (HI.out _)).mono ?_; rintro e w' ⟨rfl, rfl⟩)
      refine HR.out.mono ?_
      rintro e W3 (⟨rfl, hJ3, hk3⟩ | ⟨rfl, hJx3⟩)
      · gi_wp2
        go_end0
        exact ⟨⟨_, rfl⟩, .inl (by rw [HSP.out]; exact hJ3)⟩
      · gi_wp2
        go_end0
        exact ⟨⟨_, rfl⟩, .inr ⟨_, ⟨[], by rw [HSP.out, List.append_nil]⟩, hJx3⟩⟩
    · rw [hab, parts_append, parts_one 47 _ hno] at hsp
      have hra : rest.size = a.length + 1 + b.length := by
        have e : rest.data.toList.length = (a ++ 47 :: b).length := by rw [hab]
        simp only [Array.length_toList, List.length_append, List.length_cons] at e
        have e2 : rest.data.size = rest.size := rfl
        omega
      have HI : Hid (∀ V : World, Calls Tryz.prog 54 #[.string rest, .string ⟨#[47]⟩] V fun e w' => e = .returned (.int .i64 (a.length : Int)) ∧ V = w') := fun V => by
        have := sindex_any rest V
        rw [hi] at this
        exact this
      have ea : rest.extract 0 a.length = strOf a := by
        rw [Go.Lib.extract_eq, hab]
        unfold strOf
        simp
      have eb : rest.extract (a.length + 1) (a.length + 1 + b.length) = strOf b := by
        rw [Go.Lib.extract_eq, hab, show a.length + 1 + b.length - (a.length + 1) = b.length from by omega]
        unfold strOf
        rw [show a.length + 1 = (a ++ [47]).length from by simp, show a ++ 47 :: b = (a ++ [47]) ++ b from by simp, List.drop_left, List.take_length]
      have HSP : Hid (partsOf 47 s.data.toList = (pre ++ [a]) ++ partsOf 47 b) := by
        unfold Hid
        rw [hsp, List.append_assoc]
      obtain ⟨fn, tmps, assign, body, hy, hR⟩ := HY.out pre a wr hj ⟨partsOf 47 b, by rw [HSP.out, List.append_assoc]; rfl⟩
      rw [← ea] at hy
      have HR := Lib.hid hR
      have HB0 := Lib.hid b0
      have HB1 := Lib.hid b1
      have HB2 := Lib.hid b2
      have HEB := Lib.hid eb
      have hbl : (strOf b).size ≤ s.size := by rw [strOf_size]; omega
      have hlt : (strOf b).size < rest.size := by rw [strOf_size]; omega
      have HW : Hid (boxLen B wr = rest.size) := boxLen_eq b0
      have ha0 : (0 : Int) ≤ (a.length : Int) := by omega
      have n1 : IntKind.i64.wrap ((a.length : Int) + 0) = (a.length : Int) := by rw [Int.add_zero]; exact IntWalk.i64_in _ (by omega)
      have n2 : IntKind.i64.wrap ((a.length : Int) + 1) = ((a.length + 1 : Nat) : Int) := by rw [IntWalk.i64_in _ (by omega)]; omega
      have n3 : (a.length : Int) ≤ (rest.size : Int) := by omega
      have n4 : ((a.length + 1 : Nat) : Int) ≤ (rest.size : Int) := by omega
      clear hsp hno hi hR hj b0 b1 b2 ea eb hab
      gi_wp2_with (refine ⟨trivial, ?_⟩; gi_at_call 54; refine (callsIn_wide.2 (HI.out _)).mono ?_; rintro e w' ⟨rfl, rfl⟩)
      refine HR.out.mono ?_
      rintro e W3 (⟨rfl, hJ3, hk3⟩ | ⟨rfl, hJx3⟩)
      · have d0 := hk3.boxed HB0.out (Nat.le_refl _) (by omega)
        have d1 := hk3.boxed HB1.out (by omega) (by omega)
        have d2 := hk3.boxed HB2.out (by omega) (by omega)
        have c0 := d0.cell
        have c1 := d1.cell
        have f0 := d0.frozen
        have HD0 := Lib.hid d0
        have HD1 := Lib.hid d1
        have HD2 := Lib.hid d2
        have HJ3 := Lib.hid hJ3
        clear d0 d1 d2 hk3 hJ3
        gi_wp2
        go_roundw
        case rel =>
          refine ⟨pre ++ [a], strOf b, by rw [strOf_data]; exact HSP.out, hbl, ?_, ?_, ?_, ?_⟩
          · rw [← HEB.out]
            exact HD0.out.set _
          · exact HD1.out.kept (grownBy_setCell' W3 B _) (by simp)
          · exact HD2.out.kept (grownBy_setCell' W3 B _) (by simp)
          · exact HJ.out _ _ _ _ HJ3.out HD0.out
        case measure =>
          have e := boxLen_eq (HD0.out.set (.string (strOf b)))
          rw [HEB.out, e, HW.out]
          exact hlt
      · gi_wp2
        refine bodyPost_ret (results_none rfl _ _ _) rfl ?_
        exact ⟨⟨_, rfl⟩, .inr ⟨pre ++ [a], ⟨partsOf 47 b, HSP.out.symm⟩, hJx3⟩⟩

/-- The iterator's contract. -/
theorem split_gives (n : Nat) (hn : 1 ≤ n) (B : Nat) (s : ByteArray) (hs : s.size ≤ 4398046511104) (w : World)
    (h0 : Boxed w B 9 (.string s)) (h1 : Boxed w (B + 1) 9 (.string ⟨#[47]⟩)) (h2 : Boxed w (B + 2) 3 (.int .i64 0)) :
    SeqOwn Fence.wide n Tryz.prog 52 #[.pointer (some ⟨B + 1, 0, none⟩), .pointer (some ⟨B, 0, none⟩), .pointer (some ⟨B + 2, 0, none⟩)]
      (fun x : List UInt8 => #[.string (strOf x)]) B 9 (KeepsBoxes B) (partsOf 47 s.data.toList) w :=
  fun l J Jx W hW hJ hY hJ0 => parts_in n hn B l s hs J Jx W hJ hY ((hW.block B h0.lt).trans h0) ((hW.block (B + 1) h1.lt).trans h1) ((hW.block (B + 2) h2.lt).trans h2) hJ0

/-- What the three boxes make of a world. -/
def boxes3 (w : World) (s : ByteArray) : World := ((w.alloc (.cells #[.string s] 9)).alloc (.cells #[.string ⟨#[47]⟩] 9)).alloc (.cells #[.int .i64 0] 3)

theorem splitSeq_low (s : ByteArray) (w : World) : Calls Tryz.prog 44 #[.string s, .string ⟨#[47]⟩, .int .i64 0] w fun e w' =>
    e = .returned (.func (.func 52) #[] #[.pointer (some ⟨w.heap.size + 1, 0, none⟩), .pointer (some ⟨w.heap.size, 0, none⟩), .pointer (some ⟨w.heap.size + 1 + 1, 0, none⟩)]) ∧ w' = boxes3 w s := by
  go_enter Tryz.func44, Tryz.ntmps44
  go_wp2
  go_ret
  exact ⟨rfl, rfl⟩

theorem splitSeq_any (s : ByteArray) (w : World) : Calls Tryz.prog 35 #[.string s, .string ⟨#[47]⟩] w fun e w' =>
    e = .returned (.func (.func 52) #[] #[.pointer (some ⟨w.heap.size + 1, 0, none⟩), .pointer (some ⟨w.heap.size, 0, none⟩), .pointer (some ⟨w.heap.size + 1 + 1, 0, none⟩)]) ∧ w' = boxes3 w s := by
  go_enter Tryz.func35, Tryz.ntmps35
  go_wp2_with fail
  refine (splitSeq_low s _).mono ?_
  rintro r w1 ⟨rfl, rfl⟩
  go_wp2
  go_ret
  exact ⟨rfl, rfl⟩

end Go.Proofs.YtdjhpgpekomjeaaGreatDoor
