/- Texts of mine put together (a claim has at most so many files): LineLib, FloatOrd, FloatSub, Behind, SpotAt. -/
import Derived.Test.YtdjhpgpekomjeaaGreatDoorPart5
import Derived.Lib.Bytealg
import Derived.Laws.Externs
import Derived.Test.YtdjhpgpekomjeaaGreatDoorPart6
/- What the library's functions give at a line's end: strings.LastIndex, strings.Count and strings.Index; plain facts on lines. -/
namespace Go.Proofs.YtdjhpgpekomjeaaGreatDoor
open Go.RowKit

theorem pos_none : ∀ (l : List UInt8) (p : Nat × Nat), (10 : UInt8) ∉ l → posFrom p l = (p.1, p.2 + l.length)
  | [], p, _ => rfl
  | b :: l, p, h => by
    have h1 : b ≠ 10 := fun e => h (by rw [e]; exact List.mem_cons_self ..)
    have h2 : (10 : UInt8) ∉ l := fun e => h (List.mem_cons_of_mem _ e)
    have e : posFrom p (b :: l) = posFrom (stepPos p b) l := rfl
    rw [e, stepPos, if_neg h1, pos_none l _ h2, List.length_cons]
    simp only
    rw [show p.2 + 1 + l.length = p.2 + (l.length + 1) from by omega]
theorem pos_two (p : Nat × Nat) (l m : List UInt8) : posFrom p (l ++ m) = posFrom (posFrom p l) m := by simp [posFrom, List.foldl_append]
theorem pos_nl (p : Nat × Nat) (a b : List UInt8) (h : (10 : UInt8) ∉ b) : posFrom p (a ++ 10 :: b) = ((posFrom p a).1 + 1, 1 + b.length) := by
  rw [pos_two]
  have e : posFrom (posFrom p a) (10 :: b) = posFrom (stepPos (posFrom p a) 10) b := rfl
  rw [e, stepPos, if_pos rfl, pos_none b _ h]
theorem pos_line : ∀ (l : List UInt8) (p : Nat × Nat), (posFrom p l).1 = p.1 + l.count 10
  | [], p => rfl
  | b :: l, p => by
    have e : posFrom p (b :: l) = posFrom (stepPos p b) l := rfl
    rw [e, pos_line l, List.count_cons, stepPos]
    by_cases hb : b = 10
    · simp only [hb, if_true, beq_self_eq_true]; omega
    · simp only [hb, if_false, beq_iff_eq]; omega

theorem index_cases : ∀ (l : List UInt8) (c : UInt8), (Lib.indexByte l c = -1 ∧ c ∉ l) ∨ ∃ a b, l = a ++ c :: b ∧ c ∉ a ∧ Lib.indexByte l c = (a.length : Int)
  | [], c => .inl ⟨rfl, by simp⟩
  | b :: l, c => by
    unfold Lib.indexByte
    by_cases hb : b = c
    · refine .inr ⟨[], l, by rw [hb]; rfl, by simp, ?_⟩
      rw [if_pos (by simpa using hb)]
      rfl
    · rw [if_neg (by simpa using hb)]
      rcases index_cases l c with ⟨e, h⟩ | ⟨x, y, e, h, hi⟩
      · refine .inl ⟨by rw [e]; rfl, ?_⟩
        intro hm
        rcases List.mem_cons.1 hm with h' | h'
        · exact hb h'.symm
        · exact h h'
      · refine .inr ⟨b :: x, y, by rw [e]; rfl, ?_, ?_⟩
        · intro hm
          rcases List.mem_cons.1 hm with h' | h'
          · exact hb h'.symm
          · exact h h'
        · rw [hi, if_neg (by simp)]
          simp

theorem idx_ext (s : ByteArray) (c : Int) (W : World) : (callFunc 98 #[.string s, .int .u8 c]).run Tryz.prog W = .ok (.value (.int .i64 (Lib.indexByte s.data.toList c.toNat.toUInt8))) W := by
  rw [run_callFunc_extern (e := Extern.BytealgIndexByte.indexByte) Tryz.func98 (by kernel_rfl) (by kernel_rfl) (by kernel_rfl) (by kernel_rfl), Lib.run_indexByteString]
  rfl
theorem count_ext (s : ByteArray) (c : Int) (W : World) : (callFunc 79 #[.string s, .int .u8 c]).run Tryz.prog W = .ok (.value (.int .i64 (Lib.countByte s.data.toList c.toNat.toUInt8))) W := by
  rw [run_callFunc_extern (e := Extern.BytealgCount.count) Tryz.func79 (by kernel_rfl) (by kernel_rfl) (by kernel_rfl) (by kernel_rfl), Lib.run_countString]
  rfl
theorem count_any (s : ByteArray) (w : World) : Calls Tryz.prog 65 #[.string s, .string ⟨#[10]⟩] w fun e w' => e = .returned (.int .i64 (s.data.toList.count 10 : Nat)) ∧ w = w' := by
  obtain ⟨N, hN⟩ : ∃ N, N = s.data.toList.count 10 := ⟨_, rfl⟩
  have hd : ∀ W : World, (callFunc 79 #[.string s, .int .u8 (((⟨#[10]⟩ : ByteArray)[0]'(by decide)).toNat : Int)]).run Tryz.prog W = .ok (.value (.int .i64 (N : Nat))) W := fun W => by rw [hN]; exact count_ext s 10 W
  rw [← hN]
  clear hN
  go_enter Tryz.func65, Tryz.ntmps65
  go_wp2
  go_ret
  exact ⟨rfl, rfl⟩

theorem idxb_any (s : ByteArray) (w : World) : Calls Tryz.prog 81 #[.string s, .int .u8 10] w fun e w' => e = .returned (.int .i64 (Lib.indexByte s.data.toList 10)) ∧ w = w' := by
  have hd := idx_ext s 10
  have e : ((10 : Int).toNat.toUInt8) = 10 := rfl
  rw [e] at hd
  clear e
  go_enter Tryz.func81, Tryz.ntmps81
  go_wp2
  go_ret
  exact ⟨rfl, rfl⟩

theorem idxl_any (s : ByteArray) (w : World) : Calls Tryz.prog 69 #[.string s, .string ⟨#[10]⟩] w fun e w' => e = .returned (.int .i64 (Lib.indexByte s.data.toList 10)) ∧ w = w' := by
  cases hq : ([10] == s.toList) with
  | true =>
    have hv : Lib.indexByte s.data.toList 10 = 0 := by
      have e : s.toList = [10] := (beq_iff_eq.1 hq).symm
      rw [← Lib.toList_data, e]
      rfl
    rw [hv]
    clear hv
    go_enter Tryz.func69, Tryz.ntmps69
    go_wp2
    go_ret
    exact ⟨rfl, rfl⟩
  | false =>
    go_enter Tryz.func69, Tryz.ntmps69
    go_wp2_with fail
    refine (idxb_any s _).mono ?_
    rintro r w1 ⟨rfl, rfl⟩
    go_wp2
    go_ret
    exact ⟨rfl, rfl⟩

theorem idx_any (s : ByteArray) (w : World) : Calls Tryz.prog 54 #[.string s, .string ⟨#[10]⟩] w fun e w' => e = .returned (.int .i64 (Lib.indexByte s.data.toList 10)) ∧ w = w' := by
  go_enter Tryz.func54, Tryz.ntmps54
  go_wp2_with fail
  refine (idxl_any s _).mono ?_
  rintro r w1 ⟨rfl, rfl⟩
  go_wp2
  go_ret
  exact ⟨rfl, rfl⟩

def LastIs (l : List UInt8) (r : Int) : Prop := (r = -1 ∧ (10 : UInt8) ∉ l) ∨ ∃ a b, l = a ++ 10 :: b ∧ (10 : UInt8) ∉ b ∧ r = (a.length : Int)

def Lasts (s : ByteArray) (w : World) (i : Value) (wr : World) : Prop :=
  (∃ k : Nat, k ≤ s.size ∧ i = .int .i64 ((k : Int) - 1) ∧ (10 : UInt8) ∉ s.data.toList.drop k) ∧ w = wr

set_option maxRecDepth 100000 in
set_option maxHeartbeats 2000000 in
theorem lastb_any (s : ByteArray) (w : World) (hs : s.size ≤ 1099511627776) :
    Calls Tryz.prog 76 #[.string s, .int .u8 10] w fun e w' => ∃ r : Int, e = .returned (.int .i64 r) ∧ LastIs s.data.toList r ∧ w = w' := by
  go_enter Tryz.func76, Tryz.ntmps76
  go_wp2
  go_loopw [5] (fun i wr => Lasts s w i wr) (fun i _ => (intOf i + 1).toNat)
  case atStart => exact ⟨⟨s.size, Nat.le_refl _, by go_num, by rw [List.drop_of_length_le (by simp)]; simp⟩, rfl⟩
  case round =>
    obtain ⟨⟨k, hk, rfl, hno⟩, rfl⟩ := hrel
    have HN := Lib.hid hno
    clear hno
    by_cases hk0 : k = 0
    · subst hk0
      go_wp2
      go_ret
      exact ⟨_, rfl, .inl ⟨rfl, HN.out⟩, rfl⟩
    · obtain ⟨j, rfl⟩ : ∃ j, k = j + 1 := ⟨k - 1, by omega⟩
      have hj : j < s.size := by omega
      have hx := str_at s j hj
      have hd : s.data.toList.drop j = s[j]'hj :: s.data.toList.drop (j + 1) := by
        have hl : j < s.data.toList.length := by simpa using hj
        rw [List.drop_eq_getElem_cons hl]
        rfl
      have ej : ((j + 1 : Nat) : Int) - 1 = (j : Int) := by omega
      rw [ej]
      by_cases hq : s[j]'hj = 10
      · have HR : Hid (LastIs s.data.toList (j : Int)) := by
          refine .inr ⟨s.data.toList.take j, s.data.toList.drop (j + 1), ?_, HN.out, ?_⟩
          · rw [← hq, ← hd, List.take_append_drop]
          · rw [List.length_take, Nat.min_eq_left (by simp; omega)]
        have hq' : (((s[j]'hj).toNat : Int) == 10) = true := by rw [hq]; rfl
        clear hq hx hd
        go_wp2
        go_ret
        exact ⟨_, rfl, HR.out, rfl⟩
      · have HD : Hid ((10 : UInt8) ∉ s.data.toList.drop j) := by
          unfold Hid
          rw [hd]
          intro hm
          rcases List.mem_cons.1 hm with h | h
          · exact hq h.symm
          · exact HN.out h
        have hq' : (((s[j]'hj).toNat : Int) == 10) = false := by
          rw [beq_eq_false_iff_ne]
          intro e
          exact hq (UInt8.toNat_inj.1 (by show (s[j]'hj).toNat = 10; omega))
        clear hq hx hd
        go_wp2
        go_roundw
        case rel => exact ⟨⟨j, by omega, by go_num, HD.out⟩, rfl⟩
        case measure => simp [intOf]

theorem last_any (s : ByteArray) (w : World) (hs : s.size ≤ 1099511627776) : Calls Tryz.prog 64 #[.string s, .string ⟨#[10]⟩] w fun e w' => ∃ r : Int, e = .returned (.int .i64 r) ∧ LastIs s.data.toList r ∧ w = w' := by
  go_enter Tryz.func64, Tryz.ntmps64
  go_wp2_with fail
  refine (lastb_any s _ hs).mono ?_
  rintro r w1 ⟨k, rfl, hk, rfl⟩
  go_wp2
  go_ret
  exact ⟨_, rfl, hk, rfl⟩

end Go.Proofs.YtdjhpgpekomjeaaGreatDoor

/- Plain facts on whole numbers as floats: what they read as, their order. -/
namespace Go.Proofs.YtdjhpgpekomjeaaGreatDoor
open Go.RowKit

def keptOf (n : Nat) : Nat := n * 2 ^ (52 - n.log2)

theorem kept_bd (n : Nat) (h : 1 ≤ n) (hn : n < 9007199254740992) : 4503599627370496 ≤ keptOf n ∧ keptOf n < 9007199254740992 ∧ n.log2 ≤ 52 := by
  have h0 : n ≠ 0 := by omega
  have h1 := Nat.log2_self_le h0
  have h2 := Nat.lt_log2_self (n := n)
  have h3 : n.log2 ≤ 52 := by
    have : n.log2 < 53 := (Nat.log2_lt h0).2 (by omega)
    omega
  have e1 : 2 ^ n.log2 * 2 ^ (52 - n.log2) = 4503599627370496 := by
    rw [← Nat.pow_add, show n.log2 + (52 - n.log2) = 52 from by omega]
  have e2 : 2 ^ (n.log2 + 1) * 2 ^ (52 - n.log2) = 9007199254740992 := by
    rw [← Nat.pow_add, show n.log2 + 1 + (52 - n.log2) = 53 from by omega]
  refine ⟨?_, ?_, h3⟩
  · rw [← e1]
    exact Nat.mul_le_mul_right _ h1
  · rw [← e2]
    exact Nat.mul_lt_mul_of_pos_right h2 (Nat.pow_pos (by omega))

theorem fl_word (n : Nat) (h : 1 ≤ n) (hn : n < 9007199254740992) : fl (n : Int) = (1022 + n.log2) * 4503599627370496 + keptOf n := by
  obtain ⟨k0, k1, hl⟩ := kept_bd n h hn
  show Ieee.double.write (.number (decide ((n : Int) < 0)) (n : Int).natAbs 0) = _
  rw [show decide ((n : Int) < 0) = false from decide_eq_false (by omega), Int.natAbs_natCast]
  unfold Ieee.Format.write Ieee.Format.nearest
  simp only
  rw [if_neg (by omega)]
  have e1 : Ieee.double.leastPlace = -1074 := by decide
  have e2 : Ieee.double.infRung = 9218868437227405312 := by decide
  have e3 : Ieee.double.binade = 4503599627370496 := by decide
  have e4 : (Ieee.double.fractionBits : Int) = 52 := rfl
  rw [e1, e2, e3, e4, show max ((0 : Int) + (n.log2 : Int) - 52) (-1074) = (n.log2 : Int) - 52 from by omega,
    show ((0 : Int) - ((n.log2 : Int) - 52)).toNat = 52 - n.log2 from by omega, show ((n.log2 : Int) - 52 - 0).toNat = 0 from by omega,
    show ((n.log2 : Int) - 52 - -1074).toNat = 1022 + n.log2 from by omega, Nat.shiftLeft_eq]
  have hc : Ieee.Toward.even.cut false (n * 2 ^ (52 - n.log2)) 0 = keptOf n := by
    unfold Ieee.Toward.cut keptOf
    simp [Nat.mod_one]
  rw [hc]
  unfold Ieee.Format.word
  simp only [Bool.false_eq_true, if_false]
  omega

theorem fl_read (n : Nat) (h : 1 ≤ n) (hn : n < 9007199254740992) : Ieee.double.read (fl (n : Int)) = .number false (keptOf n) ((n.log2 : Int) - 52) := by
  obtain ⟨k0, k1, hl⟩ := kept_bd n h hn
  rw [fl_word n h hn]
  have e0 : Ieee.double.signWeight = 9223372036854775808 := by decide
  have e1 : Ieee.double.leastPlace = -1074 := by decide
  have e2 : Ieee.double.infRung = 9218868437227405312 := by decide
  have e3 : Ieee.double.binade = 4503599627370496 := by decide
  unfold Ieee.Format.read
  rw [e0, e1, e2, e3]
  generalize keptOf n = K at k0 k1
  have hs : ((1022 + n.log2) * 4503599627370496 + K) / 9223372036854775808 % 2 = 0 := by omega
  have hm : ((1022 + n.log2) * 4503599627370496 + K) % 9223372036854775808 = (1022 + n.log2) * 4503599627370496 + K := by omega
  simp only [hs, hm]
  rw [if_neg (by omega), if_pos (by omega)]
  rw [show 4503599627370496 + ((1022 + n.log2) * 4503599627370496 + K) % 4503599627370496 = K from by omega,
    show ((1022 + n.log2) * 4503599627370496 + K) / 4503599627370496 - 1 = 1022 + n.log2 from by omega]
  rw [show (-1074 + ((1022 + n.log2 : Nat) : Int)) = (n.log2 : Int) - 52 from by omega]
  rfl

theorem order_fl (a b : Nat) (ha : 1 ≤ a) (ha' : a < 9007199254740992) (hb : 1 ≤ b) (hb' : b < 9007199254740992) : FloatKind.f64.format.order (fl (a : Int)) (fl (b : Int)) = some (compare a b) := by
  show Ieee.double.order _ _ = _
  unfold Ieee.Format.order
  rw [fl_read a ha ha', fl_read b hb hb']
  obtain ⟨_, _, hla⟩ := kept_bd a ha ha'
  obtain ⟨_, _, hlb⟩ := kept_bd b hb hb'
  unfold Ieee.Datum.order
  simp only
  obtain ⟨B, hB⟩ : ∃ B : Nat, (B : Int) = -(min ((a.log2 : Int) - 52) ((b.log2 : Int) - 52)) := ⟨(-(min ((a.log2 : Int) - 52) ((b.log2 : Int) - 52))).toNat, by omega⟩
  have sg : ∀ n : Nat, n.log2 ≤ 52 → (52 - n.log2) ≤ B → Ieee.signed false (keptOf n) ((n.log2 : Int) - 52 - min ((a.log2 : Int) - 52) ((b.log2 : Int) - 52)).toNat = ((n * 2 ^ B : Nat) : Int) := by
    intro n h1 h2
    unfold Ieee.signed keptOf
    simp only [Bool.false_eq_true, if_false]
    rw [Nat.shiftLeft_eq, Nat.mul_assoc, ← Nat.pow_add, show 52 - n.log2 + ((n.log2 : Int) - 52 - min ((a.log2 : Int) - 52) ((b.log2 : Int) - 52)).toNat = B from by omega]
  rw [sg a hla (by omega), sg b hlb (by omega)]
  congr 1
  have hp : 0 < 2 ^ B := Nat.pow_pos (by omega)
  rw [Int.compare_eq_ite_lt, Nat.compare_eq_ite_lt]
  by_cases h1 : a < b
  · rw [if_pos h1, if_pos (by exact_mod_cast Nat.mul_lt_mul_of_pos_right h1 hp)]
  · by_cases h2 : b < a
    · have h3 : b * 2 ^ B < a * 2 ^ B := Nat.mul_lt_mul_of_pos_right h2 hp
      rw [if_neg h1, if_neg (by omega), if_pos h2, if_pos (by omega)]
    · have : a = b := by omega
      subst this
      rw [if_neg h1, if_neg (by omega), if_neg h2, if_neg (by omega)]

theorem feq_fl (a b : Nat) (ha : 1 ≤ a) (ha' : a < 9007199254740992) (hb : 1 ≤ b) (hb' : b < 9007199254740992) : feq (fl (a : Int)) (fl (b : Int)) = (a == b) := by
  unfold feq
  rw [order_fl a b ha ha' hb hb']
  by_cases h : a = b
  · subst h; simp
  · have : compare a b ≠ .eq := fun e => h (Nat.compare_eq_eq.1 e)
    rw [show (a == b) = false from by simpa using h]
    cases hc : compare a b <;> simp_all

end Go.Proofs.YtdjhpgpekomjeaaGreatDoor

/- Plain facts on whole numbers as floats: their difference. -/
namespace Go.Proofs.YtdjhpgpekomjeaaGreatDoor
open Go.RowKit

theorem log2_up (d B : Nat) (h : 1 ≤ d) : (d * 2 ^ B).log2 = d.log2 + B := by
  have h0 : d ≠ 0 := by omega
  have h1 : d * 2 ^ B ≠ 0 := Nat.mul_ne_zero h0 (by have := Nat.pow_pos (n := B) (show 0 < 2 by omega); omega)
  have a1 := Nat.log2_self_le h0
  have a2 := Nat.lt_log2_self (n := d)
  refine (Nat.log2_eq_iff h1).2 ⟨?_, ?_⟩
  · rw [Nat.pow_add]
    exact Nat.mul_le_mul_right _ a1
  · rw [show d.log2 + B + 1 = d.log2 + 1 + B from by omega, Nat.pow_add]
    exact Nat.mul_lt_mul_of_pos_right a2 (Nat.pow_pos (by omega))

theorem near_up (d B : Nat) (h : 1 ≤ d) (hd : d < 9007199254740992) : Ieee.double.write (.number false (d * 2 ^ B) (-(B : Int))) = fl (d : Int) := by
  obtain ⟨k0, k1, hl⟩ := kept_bd d h hd
  rw [fl_word d h hd]
  unfold Ieee.Format.write Ieee.Format.nearest
  simp only
  have hne : d * 2 ^ B ≠ 0 := Nat.mul_ne_zero (by omega) (by have := Nat.pow_pos (n := B) (show 0 < 2 by omega); omega)
  rw [if_neg hne, log2_up d B h]
  have e1 : Ieee.double.leastPlace = -1074 := by decide
  have e2 : Ieee.double.infRung = 9218868437227405312 := by decide
  have e3 : Ieee.double.binade = 4503599627370496 := by decide
  have e4 : (Ieee.double.fractionBits : Int) = 52 := rfl
  rw [e1, e2, e3, e4, show max (-(B : Int) + ((d.log2 + B : Nat) : Int) - 52) (-1074) = (d.log2 : Int) - 52 from by omega,
    show ((d.log2 : Int) - 52 - -1074).toNat = 1022 + d.log2 from by omega, Nat.shiftLeft_eq]
  have hc : Ieee.Toward.even.cut false (d * 2 ^ B * 2 ^ (-(B : Int) - ((d.log2 : Int) - 52)).toNat) ((d.log2 : Int) - 52 - -(B : Int)).toNat = keptOf d := by
    by_cases hs : B ≤ 52 - d.log2
    · rw [show ((d.log2 : Int) - 52 - -(B : Int)).toNat = 0 from by omega, Nat.mul_assoc, ← Nat.pow_add, show B + (-(B : Int) - ((d.log2 : Int) - 52)).toNat = 52 - d.log2 from by omega]
      unfold Ieee.Toward.cut keptOf
      simp [Nat.mod_one]
    · obtain ⟨D, hD⟩ : ∃ D, D = B - (52 - d.log2) := ⟨_, rfl⟩
      rw [show ((d.log2 : Int) - 52 - -(B : Int)).toNat = D from by omega, show (-(B : Int) - ((d.log2 : Int) - 52)).toNat = 0 from by omega, Nat.pow_zero, Nat.mul_one]
      have e : d * 2 ^ B = keptOf d * 2 ^ D := by
        unfold keptOf
        rw [Nat.mul_assoc, ← Nat.pow_add, show 52 - d.log2 + D = B from by omega]
      have hlog : D ≤ (d * 2 ^ B).log2 + 2 := by rw [log2_up d B h]; omega
      unfold Ieee.Toward.cut
      simp only
      rw [Nat.min_eq_left hlog, Nat.shiftLeft_eq, Nat.one_mul, e]
      have hp : 0 < 2 ^ D := Nat.pow_pos (by omega)
      rw [Nat.mul_div_cancel _ hp, Nat.mul_mod_left]
      have c1 : decide (2 ^ D < 2 * 0) = false := decide_eq_false (by omega)
      have c2 : (2 ^ D == 2 * 0) = false := by rw [beq_eq_false_iff_ne]; omega
      rw [c1, c2]
      rfl
  rw [hc]
  unfold Ieee.Format.word
  simp only [Bool.false_eq_true, if_false]
  omega

theorem sub_fl (a b : Nat) (ha : 1 ≤ a) (hab : a < b) (hb : b < 9007199254740992) : Ieee.double.sub (fl (b : Int)) (fl (a : Int)) = some (fl ((b - a : Nat) : Int)) := by
  obtain ⟨_, _, hla⟩ := kept_bd a ha (by omega)
  obtain ⟨_, _, hlb⟩ := kept_bd b (by omega) hb
  unfold Ieee.Format.sub
  rw [fl_read a ha (by omega), fl_read b (by omega) hb]
  unfold Ieee.Datum.opposite Ieee.Datum.sum
  simp only
  obtain ⟨B, hB⟩ : ∃ B : Nat, (B : Int) = -(min ((b.log2 : Int) - 52) ((a.log2 : Int) - 52)) := ⟨(-(min ((b.log2 : Int) - 52) ((a.log2 : Int) - 52))).toNat, by omega⟩
  have k : ∀ n : Nat, n.log2 ≤ 52 → (52 - n.log2) ≤ B → keptOf n <<< ((n.log2 : Int) - 52 - min ((b.log2 : Int) - 52) ((a.log2 : Int) - 52)).toNat = n * 2 ^ B := by
    intro n h1 h2
    unfold keptOf
    rw [Nat.shiftLeft_eq, Nat.mul_assoc, ← Nat.pow_add, show 52 - n.log2 + ((n.log2 : Int) - 52 - min ((b.log2 : Int) - 52) ((a.log2 : Int) - 52)).toNat = B from by omega]
  have sb : Ieee.signed false (keptOf b) ((b.log2 : Int) - 52 - min ((b.log2 : Int) - 52) ((a.log2 : Int) - 52)).toNat = ((b * 2 ^ B : Nat) : Int) := by
    unfold Ieee.signed
    rw [k b hlb (by omega)]
    rfl
  have sa : Ieee.signed (!false) (keptOf a) ((a.log2 : Int) - 52 - min ((b.log2 : Int) - 52) ((a.log2 : Int) - 52)).toNat = -((a * 2 ^ B : Nat) : Int) := by
    unfold Ieee.signed
    rw [k a hla (by omega)]
    rfl
  rw [sb, sa]
  have hp : 0 < 2 ^ B := Nat.pow_pos (by omega)
  have hlt : a * 2 ^ B < b * 2 ^ B := Nat.mul_lt_mul_of_pos_right hab hp
  have hd : ((b * 2 ^ B : Nat) : Int) + -((a * 2 ^ B : Nat) : Int) = (((b - a) * 2 ^ B : Nat) : Int) := by
    rw [Nat.sub_mul]
    omega
  have hpos : 0 < (b - a) * 2 ^ B := Nat.mul_pos (by omega) hp
  rw [hd, if_neg (by omega), show decide ((((b - a) * 2 ^ B : Nat) : Int) < 0) = false from decide_eq_false (by omega), Int.natAbs_natCast, show min ((b.log2 : Int) - 52) ((a.log2 : Int) - 52) = -(B : Int) from by omega]
  rw [Option.map_some, near_up (b - a) B (by omega) (by omega)]

theorem add_fl (a b : Nat) (ha : 1 ≤ a) (hb : 1 ≤ b) (h : a + b < 9007199254740992) : Ieee.double.add (fl (a : Int)) (fl (b : Int)) = some (fl ((a + b : Nat) : Int)) := by
  obtain ⟨_, _, hla⟩ := kept_bd a ha (by omega)
  obtain ⟨_, _, hlb⟩ := kept_bd b hb (by omega)
  unfold Ieee.Format.add
  rw [fl_read a ha (by omega), fl_read b hb (by omega)]
  unfold Ieee.Datum.sum
  simp only
  obtain ⟨B, hB⟩ : ∃ B : Nat, (B : Int) = -(min ((a.log2 : Int) - 52) ((b.log2 : Int) - 52)) := ⟨(-(min ((a.log2 : Int) - 52) ((b.log2 : Int) - 52))).toNat, by omega⟩
  have k : ∀ n : Nat, n.log2 ≤ 52 → (52 - n.log2) ≤ B → Ieee.signed false (keptOf n) ((n.log2 : Int) - 52 - min ((a.log2 : Int) - 52) ((b.log2 : Int) - 52)).toNat = ((n * 2 ^ B : Nat) : Int) := by
    intro n h1 h2
    unfold Ieee.signed keptOf
    simp only [Bool.false_eq_true, if_false]
    rw [Nat.shiftLeft_eq, Nat.mul_assoc, ← Nat.pow_add, show 52 - n.log2 + ((n.log2 : Int) - 52 - min ((a.log2 : Int) - 52) ((b.log2 : Int) - 52)).toNat = B from by omega]
  rw [k a hla (by omega), k b hlb (by omega)]
  have hp : 0 < 2 ^ B := Nat.pow_pos (by omega)
  have hd : ((a * 2 ^ B : Nat) : Int) + ((b * 2 ^ B : Nat) : Int) = (((a + b) * 2 ^ B : Nat) : Int) := by
    rw [Nat.add_mul]
    omega
  have hpos : 0 < (a + b) * 2 ^ B := Nat.mul_pos (by omega) hp
  rw [hd, if_neg (by omega), show decide ((((a + b) * 2 ^ B : Nat) : Int) < 0) = false from decide_eq_false (by omega), Int.natAbs_natCast, show min ((a.log2 : Int) - 52) ((b.log2 : Int) - 52) = -(B : Int) from by omega]
  rw [Option.map_some, near_up (a + b) B (by omega) h]

/-- Nothing added. -/
theorem add_flz (a : Nat) (ha : 1 ≤ a) (h : a < 9007199254740992) : Ieee.double.add (fl (a : Int)) (fl ((0 : Nat) : Int)) = some (fl (a : Int)) := by
  obtain ⟨_, _, hla⟩ := kept_bd a ha h
  unfold Ieee.Format.add
  have h0 : Ieee.double.read (fl ((0 : Nat) : Int)) = .number false 0 (-1074) := by decide +kernel
  rw [fl_read a ha h, h0]
  unfold Ieee.Datum.sum
  simp only
  obtain ⟨B, hB⟩ : ∃ B : Nat, B = 1074 := ⟨_, rfl⟩
  have k : keptOf a <<< ((a.log2 : Int) - 52 - min ((a.log2 : Int) - 52) (-1074)).toNat = a * 2 ^ B := by
    unfold keptOf
    rw [Nat.shiftLeft_eq, Nat.mul_assoc, ← Nat.pow_add, show 52 - a.log2 + ((a.log2 : Int) - 52 - min ((a.log2 : Int) - 52) (-1074)).toNat = B from by omega]
  have sa : Ieee.signed false (keptOf a) ((a.log2 : Int) - 52 - min ((a.log2 : Int) - 52) (-1074)).toNat = ((a * 2 ^ B : Nat) : Int) := by
    unfold Ieee.signed
    rw [k]
    rfl
  have s0 : Ieee.signed false 0 ((-1074 : Int) - min ((a.log2 : Int) - 52) (-1074)).toNat = 0 := by
    unfold Ieee.signed
    simp
  rw [sa, s0, Int.add_zero]
  have hpos : 0 < a * 2 ^ B := Nat.mul_pos (by omega) (Nat.pow_pos (by omega))
  rw [if_neg (by omega), show decide (((a * 2 ^ B : Nat) : Int) < 0) = false from decide_eq_false (by omega), Int.natAbs_natCast, show min ((a.log2 : Int) - 52) (-1074) = -(B : Int) from by omega]
  rw [Option.map_some, near_up a B (by omega) (by omega)]

end Go.Proofs.YtdjhpgpekomjeaaGreatDoor

/- What package spot's Behind gives. -/
namespace Go.Proofs.YtdjhpgpekomjeaaGreatDoor
open Go.RowKit

set_option maxRecDepth 100000 in
set_option maxHeartbeats 1000000 in
theorem behind_any (p : Nat × Nat) (s : ByteArray) (w : World) (hs : s.size ≤ 1099511627776) (p1 : 1 ≤ p.1) (p2 : p.1 ≤ 1099511627776) (p3 : 1 ≤ p.2) (p4 : p.2 ≤ 1099511627776) :
    Calls Tryz.prog 49 #[fcx p, .string s] w fun e w' => e = .returned (fcx (posFrom p s.data.toList)) ∧ w = w' := by
  have hz : s.data.toList.length = s.size := by simp
  obtain ⟨P, hP⟩ : ∃ P, P = posFrom p s.data.toList := ⟨_, rfl⟩
  obtain ⟨N, hN⟩ : ∃ N, N = s.data.toList.count 10 := ⟨_, rfl⟩
  have HN : Hid (∀ W : World, Calls Tryz.prog 65 #[.string s, .string ⟨#[10]⟩] W fun e w' => e = .returned (.int .i64 (N : Nat)) ∧ W = w') := fun W => by rw [hN]; exact count_any s W
  have hNle : N ≤ s.size := by rw [hN, ← hz]; exact List.count_le_length
  rw [← hP]
  unfold fcx
  have HL := Lib.hid (last_any s w hs)
  have HK : Hid (∀ r : Int, LastIs s.data.toList r → (r = -1 ∧ P.1 = p.1 ∧ Ieee.double.add (fl (p.2 : Int)) (fl (s.size : Int)) = some (fl (P.2 : Int))) ∨ (∃ a : Nat, r = (a : Int) ∧ a < s.size ∧ ((s.size : Int) - (a : Int)) = (P.2 : Int) ∧ Ieee.double.add (fl (p.1 : Int)) (fl (N : Int)) = some (fl (P.1 : Int)))) := by
    rintro r (⟨rfl, hno⟩ | ⟨a, b, e, hno, rfl⟩)
    · have e := pos_none _ p hno
      rw [← hP, hz] at e
      refine .inl ⟨rfl, by rw [e], ?_⟩
      rw [e]
      simp only
      by_cases h0 : s.size = 0
      · rw [h0]
        exact add_flz _ p3 (by omega)
      · exact add_fl _ _ p3 (by omega) (by omega)
    · have e1 := pos_nl p a b hno
      rw [← e, ← hP] at e1
      have e2 := pos_line s.data.toList p
      rw [← hP, ← hN] at e2
      have hl : a.length + (b.length + 1) = s.size := by rw [← hz, e]; simp
      have hc : 1 ≤ N := by
        rw [hN, e]
        simp only [List.count_append, List.count_cons_self]
        omega
      refine .inr ⟨a.length, rfl, by omega, by rw [e1]; simp only; omega, ?_⟩
      rw [e2]
      exact add_fl _ _ p1 hc (by omega)
  clear hP hN hz
  go_enter Tryz.func49, Tryz.ntmps49
  go_wp2_with fail
  refine (HL.out).mono ?_
  rintro r w1 ⟨k, rfl, hk, rfl⟩
  rcases HK.out k hk with ⟨rfl, e1, e2⟩ | ⟨a, rfl, ha, e1, e2⟩
  · have a1 : ∀ W : World, (binOp .add 71 (.float .f64 (fl (p.2 : Int))) (.float .f64 (floatOfInt .f64 (s.size : Int)))).run Tryz.prog W = .ok (.float .f64 (fl (P.2 : Int))) W := fun W => run_float_arith W .add _ .f64 _ _ _ e2
    have E1 := Lib.hid e1
    clear hk e1 e2
    go_wp2
    go_ret
    exact ⟨by rw [E1.out]; rfl, rfl⟩
  · have a1 : ∀ W : World, (binOp .add 71 (.float .f64 (fl (p.1 : Int))) (.float .f64 (floatOfInt .f64 (N : Int)))).run Tryz.prog W = .ok (.float .f64 (fl (P.1 : Int))) W := fun W => run_float_arith W .add _ .f64 _ _ _ e2
    have E1 := Lib.hid e1
    clear hk e1 e2
    go_wp2_with fail
    refine (HN.out _).mono ?_
    rintro r w2 ⟨rfl, rfl⟩
    go_wp2
    go_ret
    exact ⟨by rw [← E1.out]; rfl, rfl⟩

end Go.Proofs.YtdjhpgpekomjeaaGreatDoor

/- What package spot's At gives. -/
namespace Go.Proofs.YtdjhpgpekomjeaaGreatDoor
open Go.RowKit

set_option maxRecDepth 100000 in
set_option maxHeartbeats 1000000 in
theorem at_any (s : ByteArray) (i : Int) (w : World) (hs : s.size ≤ 1099511627776) (i0 : -9223372036854775808 ≤ i) (i1 : i ≤ 9223372036854775807) :
    Calls Tryz.prog 46 #[.string s, .int .i64 i] w fun e w' => e = .returned (fcx (posAt s.data.toList i)) ∧ w = w' := by
  have hz : s.data.toList.length = s.size := by simp
  obtain ⟨P, hP⟩ : ∃ P, P = posAt s.data.toList i := ⟨_, rfl⟩
  rw [← hP]
  have HB : Hid (∀ k : Nat, k = cutTo s.size i → k ≤ s.size → ∀ W : World, Calls Tryz.prog 49 #[.complex .f64 4607182418800017408 4607182418800017408, .string (s.extract 0 k)] W fun e w' => e = .returned (fcx P) ∧ W = w') := fun k hk hle W => by
    have h := behind_any (1, 1) (s.extract 0 k) W (by simp; omega) (by decide) (by decide) (by decide) (by decide)
    have e : posFrom (1, 1) (s.extract 0 k).data.toList = P := by
      rw [Go.Lib.extract_data, hP]
      unfold posAt
      rw [hz, ← hk]
      simp
    rw [e] at h
    unfold fcx at h ⊢
    rw [show (((1, 1) : Nat × Nat).1 : Int) = 1 from rfl, fl1] at h
    exact h
  clear hP hz
  by_cases c1 : i < 0
  · have H := Lib.hid (HB.out 0 (by unfold cutTo; rw [if_pos c1]) (Nat.zero_le _))
    rw [show s.extract 0 0 = ByteArray.empty from by simp] at H
    clear HB
    go_enter Tryz.func46, Tryz.ntmps46
    go_wp2_with fail
    refine (H.out _).mono ?_
    rintro r w1 ⟨rfl, rfl⟩
    go_wp2
    go_ret
    exact ⟨rfl, rfl⟩
  · by_cases c2 : (s.size : Int) < i
    · have H := Lib.hid (HB.out s.size (by unfold cutTo; rw [if_neg c1, if_pos c2]) (Nat.le_refl _))
      rw [show s.extract 0 s.size = s from by simp] at H
      clear HB
      go_enter Tryz.func46, Tryz.ntmps46
      go_wp2_with fail
      refine (H.out _).mono ?_
      rintro r w1 ⟨rfl, rfl⟩
      go_wp2
      go_ret
      exact ⟨rfl, rfl⟩
    · obtain ⟨n, rfl⟩ := Int.eq_ofNat_of_zero_le (show 0 ≤ i by omega)
      have H := Lib.hid (HB.out n (by unfold cutTo; rw [if_neg c1, if_neg c2, Int.toNat_natCast]) (by omega))
      clear HB
      go_enter Tryz.func46, Tryz.ntmps46
      go_wp2_with fail
      refine (H.out _).mono ?_
      rintro r w1 ⟨rfl, rfl⟩
      go_wp2
      go_ret
      exact ⟨rfl, rfl⟩

end Go.Proofs.YtdjhpgpekomjeaaGreatDoor
