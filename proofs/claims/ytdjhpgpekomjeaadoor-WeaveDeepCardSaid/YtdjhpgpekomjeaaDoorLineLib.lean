/- What the library's functions give at a line's end: strings.LastIndex, strings.Count and strings.Index; plain facts on lines. -/
import Derived.Test.YtdjhpgpekomjeaaDoorPart3
import Derived.Lib.Bytealg
import Derived.Laws.Externs
namespace Go.Proofs.YtdjhpgpekomjeaaDoor
open Go.RowKit

theorem pos_none : ∀ (l : List UInt8) (p : Nat × Nat), (10 : UInt8) ∉ l → posFrom p l = (p.1, p.2 + l.length)
  | [], p, _ => rfl
  | b :: l, p, h => by
    have h1 : b ≠ 10 := fun e => h (by rw [e]; exact List.mem_cons_self ..)
    have h2 : (10 : UInt8) ∉ l := fun e => h (List.mem_cons_of_mem _ e)
    have e : posFrom p (b :: l) = posFrom (stepPos p b) l := rfl
    rw [e, stepPos, if_neg h1, pos_none l _ h2, List.length_cons]
    simp only
    rw [show p.2 + 1 + l.length = p.2 + (l.length + 1) from by omega]
theorem pos_two (p : Nat × Nat) (l m : List UInt8) : posFrom p (l ++ m) = posFrom (posFrom p l) m := by simp [posFrom, List.foldl_append]
theorem pos_nl (p : Nat × Nat) (a b : List UInt8) (h : (10 : UInt8) ∉ b) : posFrom p (a ++ 10 :: b) = ((posFrom p a).1 + 1, 1 + b.length) := by
  rw [pos_two]
  have e : posFrom (posFrom p a) (10 :: b) = posFrom (stepPos (posFrom p a) 10) b := rfl
  rw [e, stepPos, if_pos rfl, pos_none b _ h]
theorem pos_line : ∀ (l : List UInt8) (p : Nat × Nat), (posFrom p l).1 = p.1 + l.count 10
  | [], p => rfl
  | b :: l, p => by
    have e : posFrom p (b :: l) = posFrom (stepPos p b) l := rfl
    rw [e, pos_line l, List.count_cons, stepPos]
    by_cases hb : b = 10
    · simp only [hb, if_true, beq_self_eq_true]; omega
    · simp only [hb, if_false, beq_iff_eq]; omega

theorem index_cases : ∀ (l : List UInt8) (c : UInt8), (Lib.indexByte l c = -1 ∧ c ∉ l) ∨ ∃ a b, l = a ++ c :: b ∧ c ∉ a ∧ Lib.indexByte l c = (a.length : Int)
  | [], c => .inl ⟨rfl, by simp⟩
  | b :: l, c => by
    unfold Lib.indexByte
    by_cases hb : b = c
    · refine .inr ⟨[], l, by rw [hb]; rfl, by simp, ?_⟩
      rw [if_pos (by simpa using hb)]
      rfl
    · rw [if_neg (by simpa using hb)]
      rcases index_cases l c with ⟨e, h⟩ | ⟨x, y, e, h, hi⟩
      · refine .inl ⟨by rw [e]; rfl, ?_⟩
        intro hm
        rcases List.mem_cons.1 hm with h' | h'
        · exact hb h'.symm
        · exact h h'
      · refine .inr ⟨b :: x, y, by rw [e]; rfl, ?_, ?_⟩
        · intro hm
          rcases List.mem_cons.1 hm with h' | h'
          · exact hb h'.symm
          · exact h h'
        · rw [hi, if_neg (by simp)]
          simp

theorem idx_ext (s : ByteArray) (c : Int) (W : World) : (callFunc 74 #[.string s, .int .u8 c]).run Tryd.prog W = .ok (.value (.int .i64 (Lib.indexByte s.data.toList c.toNat.toUInt8))) W := by
  rw [run_callFunc_extern (e := Extern.BytealgIndexByte.indexByte) Tryd.func74 (by kernel_rfl) (by kernel_rfl) (by kernel_rfl) (by kernel_rfl), Lib.run_indexByteString]
  rfl
theorem count_ext (s : ByteArray) (c : Int) (W : World) : (callFunc 55 #[.string s, .int .u8 c]).run Tryd.prog W = .ok (.value (.int .i64 (Lib.countByte s.data.toList c.toNat.toUInt8))) W := by
  rw [run_callFunc_extern (e := Extern.BytealgCount.count) Tryd.func55 (by kernel_rfl) (by kernel_rfl) (by kernel_rfl) (by kernel_rfl), Lib.run_countString]
  rfl
theorem count_any (s : ByteArray) (w : World) : Calls Tryd.prog 41 #[.string s, .string ⟨#[10]⟩] w fun e w' => e = .returned (.int .i64 (s.data.toList.count 10 : Nat)) ∧ w = w' := by
  obtain ⟨N, hN⟩ : ∃ N, N = s.data.toList.count 10 := ⟨_, rfl⟩
  have hd : ∀ W : World, (callFunc 55 #[.string s, .int .u8 (((⟨#[10]⟩ : ByteArray)[0]'(by decide)).toNat : Int)]).run Tryd.prog W = .ok (.value (.int .i64 (N : Nat))) W := fun W => by rw [hN]; exact count_ext s 10 W
  rw [← hN]
  clear hN
  go_enter Tryd.func41, Tryd.ntmps41
  go_wp2
  go_ret
  exact ⟨rfl, rfl⟩

theorem idxb_any (s : ByteArray) (w : World) : Calls Tryd.prog 57 #[.string s, .int .u8 10] w fun e w' => e = .returned (.int .i64 (Lib.indexByte s.data.toList 10)) ∧ w = w' := by
  have hd := idx_ext s 10
  have e : ((10 : Int).toNat.toUInt8) = 10 := rfl
  rw [e] at hd
  clear e
  go_enter Tryd.func57, Tryd.ntmps57
  go_wp2
  go_ret
  exact ⟨rfl, rfl⟩

theorem idxl_any (s : ByteArray) (w : World) : Calls Tryd.prog 45 #[.string s, .string ⟨#[10]⟩] w fun e w' => e = .returned (.int .i64 (Lib.indexByte s.data.toList 10)) ∧ w = w' := by
  cases hq : ([10] == s.toList) with
  | true =>
    have hv : Lib.indexByte s.data.toList 10 = 0 := by
      have e : s.toList = [10] := (beq_iff_eq.1 hq).symm
      rw [← Lib.toList_data, e]
      rfl
    rw [hv]
    clear hv
    go_enter Tryd.func45, Tryd.ntmps45
    go_wp2
    go_ret
    exact ⟨rfl, rfl⟩
  | false =>
    go_enter Tryd.func45, Tryd.ntmps45
    go_wp2_with fail
    refine (idxb_any s _).mono ?_
    rintro r w1 ⟨rfl, rfl⟩
    go_wp2
    go_ret
    exact ⟨rfl, rfl⟩

theorem idx_any (s : ByteArray) (w : World) : Calls Tryd.prog 30 #[.string s, .string ⟨#[10]⟩] w fun e w' => e = .returned (.int .i64 (Lib.indexByte s.data.toList 10)) ∧ w = w' := by
  go_enter Tryd.func30, Tryd.ntmps30
  go_wp2_with fail
  refine (idxl_any s _).mono ?_
  rintro r w1 ⟨rfl, rfl⟩
  go_wp2
  go_ret
  exact ⟨rfl, rfl⟩

def LastIs (l : List UInt8) (r : Int) : Prop := (r = -1 ∧ (10 : UInt8) ∉ l) ∨ ∃ a b, l = a ++ 10 :: b ∧ (10 : UInt8) ∉ b ∧ r = (a.length : Int)

def Lasts (s : ByteArray) (w : World) (i : Value) (wr : World) : Prop :=
  (∃ k : Nat, k ≤ s.size ∧ i = .int .i64 ((k : Int) - 1) ∧ (10 : UInt8) ∉ s.data.toList.drop k) ∧ w = wr

set_option maxRecDepth 100000 in
set_option maxHeartbeats 2000000 in
theorem lastb_any (s : ByteArray) (w : World) (hs : s.size ≤ 1099511627776) :
    Calls Tryd.prog 52 #[.string s, .int .u8 10] w fun e w' => ∃ r : Int, e = .returned (.int .i64 r) ∧ LastIs s.data.toList r ∧ w = w' := by
  go_enter Tryd.func52, Tryd.ntmps52
  go_wp2
  go_loopw [5] (fun i wr => Lasts s w i wr) (fun i _ => (intOf i + 1).toNat)
  case atStart => exact ⟨⟨s.size, Nat.le_refl _, by go_num, by rw [List.drop_of_length_le (by simp)]; simp⟩, rfl⟩
  case round =>
    obtain ⟨⟨k, hk, rfl, hno⟩, rfl⟩ := hrel
    have HN := Lib.hid hno
    clear hno
    by_cases hk0 : k = 0
    · subst hk0
      go_wp2
      go_ret
      exact ⟨_, rfl, .inl ⟨rfl, HN.out⟩, rfl⟩
    · obtain ⟨j, rfl⟩ : ∃ j, k = j + 1 := ⟨k - 1, by omega⟩
      have hj : j < s.size := by omega
      have hx := str_at s j hj
      have hd : s.data.toList.drop j = s[j]'hj :: s.data.toList.drop (j + 1) := by
        have hl : j < s.data.toList.length := by simpa using hj
        rw [List.drop_eq_getElem_cons hl]
        rfl
      have ej : ((j + 1 : Nat) : Int) - 1 = (j : Int) := by omega
      rw [ej]
      by_cases hq : s[j]'hj = 10
      · have HR : Hid (LastIs s.data.toList (j : Int)) := by
          refine .inr ⟨s.data.toList.take j, s.data.toList.drop (j + 1), ?_, HN.out, ?_⟩
          · rw [← hq, ← hd, List.take_append_drop]
          · rw [List.length_take, Nat.min_eq_left (by simp; omega)]
        have hq' : (((s[j]'hj).toNat : Int) == 10) = true := by rw [hq]; rfl
        clear hq hx hd
        go_wp2
        go_ret
        exact ⟨_, rfl, HR.out, rfl⟩
      · have HD : Hid ((10 : UInt8) ∉ s.data.toList.drop j) := by
          unfold Hid
          rw [hd]
          intro hm
          rcases List.mem_cons.1 hm with h | h
          · exact hq h.symm
          · exact HN.out h
        have hq' : (((s[j]'hj).toNat : Int) == 10) = false := by
          rw [beq_eq_false_iff_ne]
          intro e
          exact hq (UInt8.toNat_inj.1 (by show (s[j]'hj).toNat = 10; omega))
        clear hq hx hd
        go_wp2
        go_roundw
        case rel => exact ⟨⟨j, by omega, by go_num, HD.out⟩, rfl⟩
        case measure => simp [intOf]

theorem last_any (s : ByteArray) (w : World) (hs : s.size ≤ 1099511627776) : Calls Tryd.prog 40 #[.string s, .string ⟨#[10]⟩] w fun e w' => ∃ r : Int, e = .returned (.int .i64 r) ∧ LastIs s.data.toList r ∧ w = w' := by
  go_enter Tryd.func40, Tryd.ntmps40
  go_wp2_with fail
  refine (lastb_any s _ hs).mono ?_
  rintro r w1 ⟨k, rfl, hk, rfl⟩
  go_wp2
  go_ret
  exact ⟨_, rfl, hk, rfl⟩

end Go.Proofs.YtdjhpgpekomjeaaDoor
