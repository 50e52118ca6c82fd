/- What the library's functions give that package files calls: strings.Index, strings.LastIndexByte, bytes.LastIndexByte and strings.HasPrefix at a '/'. -/
import Derived.Test.YtdjhpgpekomjeaaDoorCleanLaw
import Derived.Lib.Bytealg
import Derived.Laws.Externs
namespace Go.Proofs.YtdjhpgpekomjeaaDoor
open Go.RowKit

theorem slash_cases : ∀ l : List UInt8, (Lib.indexByte l 47 = -1 ∧ (47 : UInt8) ∉ l) ∨ ∃ a b, l = a ++ 47 :: b ∧ (47 : UInt8) ∉ a ∧ Lib.indexByte l 47 = (a.length : Int)
  | [] => .inl ⟨rfl, by simp⟩
  | b :: l => by
    unfold Lib.indexByte
    by_cases hb : b = 47
    · refine .inr ⟨[], l, by rw [hb]; rfl, by simp, ?_⟩
      rw [if_pos (by simpa using hb)]
      rfl
    · rw [if_neg (by simpa using hb)]
      rcases slash_cases l with ⟨e, h⟩ | ⟨x, y, e, h, hi⟩
      · refine .inl ⟨by rw [e]; rfl, ?_⟩
        intro hm
        rcases List.mem_cons.1 hm with h' | h'
        · exact hb h'.symm
        · exact h h'
      · refine .inr ⟨b :: x, y, by rw [e]; rfl, ?_, ?_⟩
        · intro hm
          rcases List.mem_cons.1 hm with h' | h'
          · exact hb h'.symm
          · exact h h'
        · rw [hi, if_neg (by simp)]
          simp

theorem sidx_ext (s : ByteArray) (c : Int) (W : World) : (callFunc 74 #[.string s, .int .u8 c]).run Tryd.prog W = .ok (.value (.int .i64 (Lib.indexByte s.data.toList c.toNat.toUInt8))) W := by
  rw [run_callFunc_extern (e := Extern.BytealgIndexByte.indexByte) Tryd.func74 (by kernel_rfl) (by kernel_rfl) (by kernel_rfl) (by kernel_rfl), Lib.run_indexByteString]
  rfl

theorem sidxb_any (s : ByteArray) (w : World) : Calls Tryd.prog 57 #[.string s, .int .u8 47] w fun e w' => e = .returned (.int .i64 (Lib.indexByte s.data.toList 47)) ∧ w = w' := by
  have hd := sidx_ext s 47
  have e : ((47 : Int).toNat.toUInt8) = 47 := rfl
  rw [e] at hd
  clear e
  go_enter Tryd.func57, Tryd.ntmps57
  go_wp2
  go_ret
  exact ⟨rfl, rfl⟩

theorem sidxl_any (s : ByteArray) (w : World) : Calls Tryd.prog 45 #[.string s, .string ⟨#[47]⟩] w fun e w' => e = .returned (.int .i64 (Lib.indexByte s.data.toList 47)) ∧ w = w' := by
  cases hq : ([47] == s.toList) with
  | true =>
    have hv : Lib.indexByte s.data.toList 47 = 0 := by
      have e : s.toList = [47] := (beq_iff_eq.1 hq).symm
      rw [← Lib.toList_data, e]
      rfl
    rw [hv]
    clear hv
    go_enter Tryd.func45, Tryd.ntmps45
    go_wp2
    go_ret
    exact ⟨rfl, rfl⟩
  | false =>
    go_enter Tryd.func45, Tryd.ntmps45
    go_wp2_with fail
    refine (sidxb_any s _).mono ?_
    rintro r w1 ⟨rfl, rfl⟩
    go_wp2
    go_ret
    exact ⟨rfl, rfl⟩

theorem sindex_any (s : ByteArray) (w : World) : Calls Tryd.prog 30 #[.string s, .string ⟨#[47]⟩] w fun e w' => e = .returned (.int .i64 (Lib.indexByte s.data.toList 47)) ∧ w = w' := by
  go_enter Tryd.func30, Tryd.ntmps30
  go_wp2_with fail
  refine (sidxl_any s _).mono ?_
  rintro r w1 ⟨rfl, rfl⟩
  go_wp2
  go_ret
  exact ⟨rfl, rfl⟩

/-- The place of the last '/', or -1. -/
def LastSl (l : List UInt8) (r : Int) : Prop := (r = -1 ∧ (47 : UInt8) ∉ l) ∨ ∃ a b, l = a ++ 47 :: b ∧ (47 : UInt8) ∉ b ∧ r = (a.length : Int)

def SlFrom (l : List UInt8) (w : World) (i : Value) (wr : World) : Prop :=
  (∃ k : Nat, k ≤ l.length ∧ i = .int .i64 ((k : Int) - 1) ∧ (47 : UInt8) ∉ l.drop k) ∧ w = wr

theorem last_here {l : List UInt8} {j : Nat} (hj : j < l.length) (h : l[j] = 47) (hno : (47 : UInt8) ∉ l.drop (j + 1)) : LastSl l (j : Int) := by
  refine .inr ⟨l.take j, l.drop (j + 1), ?_, hno, ?_⟩
  · rw [← h, ← List.drop_eq_getElem_cons hj, List.take_append_drop]
  · rw [List.length_take, Nat.min_eq_left (by omega)]
theorem last_down {l : List UInt8} {j : Nat} (hj : j < l.length) (h : ¬ l[j] = 47) (hno : (47 : UInt8) ∉ l.drop (j + 1)) : (47 : UInt8) ∉ l.drop j := by
  rw [List.drop_eq_getElem_cons hj]
  intro hm
  rcases List.mem_cons.1 hm with h' | h'
  · exact h h'.symm
  · exact hno h'
theorem byte_is {b : UInt8} (h : b = 47) : ((b.toNat : Int) == 47) = true := by rw [h]; rfl
theorem byte_not {b : UInt8} (h : ¬ b = 47) : ((b.toNat : Int) == 47) = false := by
  rw [beq_eq_false_iff_ne]
  intro e
  exact h (UInt8.toNat_inj.1 (by show b.toNat = 47; omega))

set_option maxRecDepth 100000 in
set_option maxHeartbeats 2000000 in
theorem slastb_any (s : ByteArray) (w : World) (hs : s.size ≤ 8796093022208) :
    Calls Tryd.prog 52 #[.string s, .int .u8 47] w fun e w' => ∃ r : Int, e = .returned (.int .i64 r) ∧ LastSl s.data.toList r ∧ w = w' := by
  go_enter Tryd.func52, Tryd.ntmps52
  go_wp2
  go_loopw [5] (fun i wr => SlFrom s.data.toList w i wr) (fun i _ => (intOf i + 1).toNat)
  case atStart => exact ⟨⟨s.size, Nat.le_of_eq (by simp only [Array.length_toList]; rfl), by go_num, by rw [List.drop_of_length_le (by simp)]; simp⟩, rfl⟩
  case round =>
    obtain ⟨⟨k, hk, rfl, hno⟩, rfl⟩ := hrel
    have hk : k ≤ s.size := by simpa using hk
    have HN := Lib.hid hno
    clear hno
    by_cases hk0 : k = 0
    · subst hk0
      go_wp2
      go_ret
      exact ⟨_, rfl, .inl ⟨rfl, HN.out⟩, rfl⟩
    · obtain ⟨j, rfl⟩ : ∃ j, k = j + 1 := ⟨k - 1, by omega⟩
      have hj : j < s.size := by omega
      have hjl : j < s.data.toList.length := by simpa using hj
      have hx := str_at s j hj
      have ej : ((j + 1 : Nat) : Int) - 1 = (j : Int) := by omega
      rw [ej]
      by_cases hq : s[j]'hj = 47
      · have HR : Hid (LastSl s.data.toList (j : Int)) := last_here hjl hq HN.out
        have hq' := byte_is hq
        clear hq hx
        go_wp2
        go_ret
        exact ⟨_, rfl, HR.out, rfl⟩
      · have HD : Hid ((47 : UInt8) ∉ s.data.toList.drop j) := last_down hjl hq HN.out
        have hq' := byte_not hq
        clear hq hx
        go_wp2
        go_roundw
        case rel => exact ⟨⟨j, by simp; omega, by go_num, HD.out⟩, rfl⟩
        case measure => simp [intOf]

theorem slast_any (s : ByteArray) (w : World) (hs : s.size ≤ 8796093022208) : Calls Tryd.prog 56 #[.string s, .int .u8 47] w fun e w' => ∃ r : Int, e = .returned (.int .i64 r) ∧ LastSl s.data.toList r ∧ w = w' := by
  go_enter Tryd.func56, Tryd.ntmps56
  go_wp2_with fail
  refine (slastb_any s _ hs).mono ?_
  rintro r w1 ⟨k, rfl, hk, rfl⟩
  go_wp2
  go_ret
  exact ⟨_, rfl, hk, rfl⟩

set_option maxRecDepth 100000 in
set_option maxHeartbeats 2000000 in
theorem blastb_any (A : Option Addr) (n c : Nat) (l : List UInt8) (w : World) (hl : Lies w w.heap.size 1 A n (bytesV l)) (hn : n ≤ 8796093022208) :
    Calls Tryd.prog 21 #[.slice A n c, .int .u8 47] w fun e w' => ∃ r : Int, e = .returned (.int .i64 r) ∧ LastSl l r ∧ w = w' := by
  have hln : l.length = n := by have := hl.1; rw [bytesV_length] at this; omega
  have HL := Lib.hid hl
  clear hl
  go_enter Tryd.func21, Tryd.ntmps21
  go_wp2
  go_loopw [5] (fun i wr => SlFrom l w i wr) (fun i _ => (intOf i + 1).toNat)
  case atStart => exact ⟨⟨n, by omega, by go_num, by rw [List.drop_of_length_le (by omega)]; simp⟩, rfl⟩
  case round =>
    obtain ⟨⟨k, hk, rfl, hno⟩, rfl⟩ := hrel
    rw [hln] at hk
    have HN := Lib.hid hno
    clear hno
    by_cases hk0 : k = 0
    · subst hk0
      go_wp2
      go_ret
      exact ⟨_, rfl, .inl ⟨rfl, HN.out⟩, rfl⟩
    · obtain ⟨j, rfl⟩ : ∃ j, k = j + 1 := ⟨k - 1, by omega⟩
      have hj : j < n := by omega
      have hjl : j < l.length := by omega
      obtain ⟨b, o, rfl, hb, hc⟩ := HL.out.2 (by omega)
      have e0 : w.cell? ⟨b, o + j, none⟩ = some (.int .u8 (l[j].toNat : Int)) := hc j _ (by simp only [bytesV, List.getElem?_map, List.getElem?_eq_getElem hjl]; rfl)
      have ej : ((j + 1 : Nat) : Int) - 1 = (j : Int) := by omega
      rw [ej]
      clear hc
      by_cases hq : l[j] = 47
      · have HR : Hid (LastSl l (j : Int)) := last_here hjl hq HN.out
        have hq' := byte_is hq
        clear hq
        go_wp2
        go_ret
        exact ⟨_, rfl, HR.out, rfl⟩
      · have HD : Hid ((47 : UInt8) ∉ l.drop j) := last_down hjl hq HN.out
        have hq' := byte_not hq
        clear hq
        go_wp2
        go_roundw
        case rel => exact ⟨⟨j, by omega, by go_num, HD.out⟩, rfl⟩
        case measure => simp [intOf]

theorem blast_any (A : Option Addr) (n c : Nat) (l : List UInt8) (w : World) (hl : Lies w w.heap.size 1 A n (bytesV l)) (hn : n ≤ 8796093022208) :
    Calls Tryd.prog 15 #[.slice A n c, .int .u8 47] w fun e w' => ∃ r : Int, e = .returned (.int .i64 r) ∧ LastSl l r ∧ w = w' := by
  go_enter Tryd.func15, Tryd.ntmps15
  go_wp2_with fail
  refine (blastb_any A n c l _ hl hn).mono ?_
  rintro r w1 ⟨k, rfl, hk, rfl⟩
  go_wp2
  go_ret
  exact ⟨_, rfl, hk, rfl⟩

end Go.Proofs.YtdjhpgpekomjeaaDoor
