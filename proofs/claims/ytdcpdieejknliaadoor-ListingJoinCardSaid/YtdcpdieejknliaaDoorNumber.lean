/- What the document's own number gives: a text in decimal, read. -/
import Derived.Test.YtdcpdieejknliaaDoorDec
namespace Go.Proofs.YtdcpdieejknliaaDoor
open Go.RowKit

def isDig (b : UInt8) : Bool := decide (48 ≤ (b.toNat : Int)) && decide ((b.toNat : Int) ≤ 57)
/-- What digits say. -/
def valOf (l : List UInt8) : Nat := l.foldl (fun n b => 10 * n + (b.toNat - 48)) 0
/-- Not nothing, not too long, no 0 ahead. -/
def numShape (l : List UInt8) : Bool := !l.isEmpty && (decide (l.length ≤ 12) && (decide (l.length ≤ 1) || !(l.head? == some 48)))
def numOf (l : List UInt8) (most : Int) : Int × Bool := if numShape l && l.all isDig then ((valOf l : Int), decide ((valOf l : Int) ≤ most)) else (0, false)

theorem val_snoc (l : List UInt8) (b : UInt8) : valOf (l ++ [b]) = 10 * valOf l + (b.toNat - 48) := by simp [valOf, List.foldl_append]

theorem val_lt : ∀ l : List UInt8, l.all isDig = true → valOf l < 10 ^ l.length := by
  intro l
  rw [← List.reverse_reverse l]
  generalize l.reverse = r
  induction r with
  | nil => intro _; simp [valOf]
  | cons b r ih =>
    intro h
    simp only [List.reverse_cons, List.all_append, Bool.and_eq_true] at h
    have h1 := ih h.1
    have h2 : isDig b = true := by simpa using h.2
    simp only [isDig, Bool.and_eq_true, decide_eq_true_eq] at h2
    rw [List.reverse_cons, val_snoc, List.length_append]
    simp only [List.length_cons, List.length_nil, Nat.zero_add, Nat.pow_succ]
    omega

def Numbers (s : ByteArray) (w : World) (n i : Value) (wr : World) : Prop :=
  (∃ k : Nat, k ≤ s.size ∧ i = .int .i64 k ∧ n = .int .u64 (valOf (s.data.toList.take k)) ∧ (s.data.toList.take k).all isDig = true) ∧ w = wr

theorem num_not (l : List UInt8) (most : Int) (h : numShape l = false) : numOf l most = (0, false) := by unfold numOf; rw [h]; rfl

set_option maxHeartbeats 2000000 in
theorem number_shape (s : ByteArray) (most : Int) (w : World) (h : numShape s.data.toList = false) :
    Calls Tryd.prog 25 #[.string s, .int .u64 most] w fun e w' => e = .returned (.tuple #[.int .u64 (numOf s.data.toList most).1, .bool (numOf s.data.toList most).2]) ∧ w = w' := by
  rw [num_not _ _ h]
  have hz : s.data.toList.length = s.size := by simp
  by_cases h0 : s.size = 0
  · obtain ⟨e1, e2, e3⟩ := str_no s h0
    clear h h0 hz
    go_enter Tryd.func25, Tryd.ntmps25
    go_wp2
    go_ret2
    exact ⟨rfl, rfl⟩
  · obtain ⟨e1, e2⟩ := str_ne s h0
    by_cases h12 : s.size ≤ 12
    · have p0 : 0 < s.size := Nat.pos_of_ne_zero h0
      have hh : 1 < s.size ∧ s[0]'p0 = 48 := by
        have := str_at s 0 p0
        simp only [numShape, List.head?_eq_getElem?, this, hz] at h
        have e4 : s.data.toList.isEmpty = false := by rw [← e1, ByteArray.toList_eq]
        simp [e4, h12] at h
        omega
      obtain ⟨h1, hb⟩ := hh
      have hb2 : (((s[0]'p0).toNat : Int) == 48) = true := by rw [hb]; rfl
      clear h hz
      go_enter Tryd.func25, Tryd.ntmps25
      go_wp2
      go_ret2
      exact ⟨rfl, rfl⟩
    · clear h hz
      go_enter Tryd.func25, Tryd.ntmps25
      go_wp2
      go_ret2
      exact ⟨rfl, rfl⟩

theorem numShape_true {l : List UInt8} (h : numShape l = true) : l.length ≠ 0 ∧ l.length ≤ 12 ∧ (l.length ≤ 1 ∨ l.head? ≠ some 48) := by
  simp [numShape] at h
  refine ⟨?_, h.2.1, ?_⟩
  · intro e
    exact h.1 (List.eq_nil_of_length_eq_zero e)
  · rcases h.2.2 with h | h
    · exact .inl h
    · exact .inr h

set_option maxRecDepth 100000 in
set_option maxHeartbeats 2000000 in
theorem number_any (s : ByteArray) (most : Int) (w : World) :
    Calls Tryd.prog 25 #[.string s, .int .u64 most] w fun e w' => e = .returned (.tuple #[.int .u64 (numOf s.data.toList most).1, .bool (numOf s.data.toList most).2]) ∧ w = w' := by
  by_cases h : numShape s.data.toList = true
  · obtain ⟨g0, g12, g48⟩ := numShape_true h
    have hz : s.data.toList.length = s.size := by simp
    rw [hz] at g0 g12 g48
    have p0 : 0 < s.size := Nat.pos_of_ne_zero g0
    obtain ⟨e1, e2⟩ := str_ne s g0
    have hb : (s.size ≤ 1 ∧ (((s[0]'p0).toNat : Int) == 48) = true) ∨ ((((s[0]'p0).toNat : Int) == 48) = false) := by
      cases hq : (((s[0]'p0).toNat : Int) == 48)
      · exact .inr rfl
      · refine .inl ⟨?_, rfl⟩
        rcases g48 with g | g
        · exact g
        · rw [List.head?_eq_getElem?, str_at s 0 p0] at g
          have e : ((s[0]'p0).toNat : Int) = 48 := by simpa using hq
          exact absurd (congrArg some (UInt8.toNat_inj.1 (by show (s[0]'p0).toNat = 48; omega))) g
    have HB : Hid (∀ r : List UInt8, numOf s.data.toList most = if s.data.toList.all isDig then ((valOf s.data.toList : Int), decide ((valOf s.data.toList : Int) ≤ most)) else (0, false)) := by
      intro _
      unfold numOf
      rw [h]
      rfl
    clear h hz g0 g48
    obtain ⟨R, hR⟩ : ∃ R, R = numOf s.data.toList most := ⟨_, rfl⟩
    rw [← hR]
    have HR := Lib.hid (hR.trans (HB.out []))
    clear hR HB
    have g12' : decide (12 < (s.size : Int)) = false := by simp; omega
    rcases hb with ⟨hc, hb⟩ | hb
    all_goals
      go_enter Tryd.func25, Tryd.ntmps25
      go_wp2
      go_loopw [6, 7] (fun n i wr => Numbers s w n i wr) (fun _ i _ => s.size - (intOf i).toNat)
      case atStart => exact ⟨⟨0, Nat.zero_le _, rfl, rfl, by simp⟩, rfl⟩
      case round =>
        obtain ⟨⟨k, hk, rfl, rfl, hall⟩, rfl⟩ := hrel
        by_cases hlt : k < s.size
        · have hx := str_at s k hlt
          have hts := take_one hx
          have hv : valOf (s.data.toList.take k) ≤ 99999999999 := by
            have h1 := val_lt _ hall
            have h2 : (s.data.toList.take k).length ≤ 11 := by have := List.length_take_le k s.data.toList; omega
            have h3 : 10 ^ (s.data.toList.take k).length ≤ 10 ^ 11 := Nat.pow_le_pow_right (by omega) h2
            omega
          have hb1 := byte_lt (s[k]'hlt)
          by_cases hd : 48 ≤ ((s[k]'hlt).toNat : Int) ∧ ((s[k]'hlt).toNat : Int) ≤ 57
          · have HV : Hid (valOf (s.data.toList.take (k + 1)) = 10 * valOf (s.data.toList.take k) + ((s[k]'hlt).toNat - 48)) := by
              unfold Hid
              rw [hts, val_snoc]
            have HALL : Hid ((s.data.toList.take (k + 1)).all isDig = true) := by
              unfold Hid
              rw [hts, List.all_append, hall]
              simp [isDig, hd]
            obtain ⟨d0, d1⟩ := hd
            clear hx hts hall hb
            go_wp2
            go_roundw
            case rel => exact ⟨⟨k + 1, by omega, by go_num, by rw [HV.out]; exact congrArg (Value.int .u64) (by omega), HALL.out⟩, rfl⟩
            case measure => simp [intOf]; omega
          · have hn : R = (0, false) := by
              rw [HR.out, if_neg]
              intro ha
              have := List.all_eq_true.1 ha (s[k]'hlt) (List.mem_of_getElem? hx)
              simp only [isDig, Bool.and_eq_true, decide_eq_true_eq] at this
              exact hd this
            have HN := Lib.hid hn
            clear hn hx hts hall hb hv
            rcases (show ((s[k]'hlt).toNat : Int) < 48 ∨ 57 < ((s[k]'hlt).toNat : Int) from by omega) with hd' | hd'
            all_goals
              clear hd
              go_wp2
              go_ret2
              exact ⟨by rw [HN.out]; rfl, rfl⟩
        · obtain rfl : k = s.size := by omega
          have hn : R = ((valOf s.data.toList : Int), decide ((valOf s.data.toList : Int) ≤ most)) := by
            rw [HR.out]
            rw [List.take_of_length_le (by simp)] at hall
            rw [if_pos hall]
          rw [List.take_of_length_le (by simp)]
          have HN := Lib.hid hn
          clear hn hall
          go_wp2
          go_ret2
          exact ⟨by rw [HN.out]; rfl, rfl⟩
  · have hf : numShape s.data.toList = false := by simpa using h
    exact number_shape s most w hf

end Go.Proofs.YtdcpdieejknliaaDoor
