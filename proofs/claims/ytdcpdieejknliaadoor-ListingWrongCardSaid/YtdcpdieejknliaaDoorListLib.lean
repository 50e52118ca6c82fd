/- The library's functions that the landed listing calls, as contracts at this translation; what is laid at the start. No condition. -/
import Derived.Test.YtdcpdieejknliaaDoorShelf
import Derived.Test.YtdcpdieejknliaaDoorDec
import Derived.Test.YtdcpdieejknliaaDoorStore
import Derived.Test.YtdcpdieejknliaaDoorCodeName
import Derived.Test.YtdcpdieejknliaaDoorChecked
import Derived.Shelf.Strings.Cut
import Derived.Shelf.Strconv.AppendUint10
import Derived.Shelf.Pu.ParseUintPublic10
import Derived.Lib.ParseIntBCases
import Derived.Deep.MidRow
namespace Go.Proofs.YtdcpdieejknliaaDoor
open Go.RowKit

/-- The landed table of names. -/
def landTab : List (Int × List UInt8) := [(0, [108, 100, 105, 109, 109]), (1, [108, 100, 120, 105, 109, 109]), (32, [108, 100, 97, 98, 115]), (128, [108, 100, 108, 101, 110]), (129, [108, 100, 120, 108, 101, 110]), (2, [115, 116]), (3, [115, 116, 120]), (96, [108, 100, 109, 101, 109]), (97, [108, 100, 120, 109, 101, 109]), (4, [97, 100, 100, 107]), (12, [97, 100, 100, 120]), (20, [115, 117, 98, 107]), (28, [115, 117, 98, 120]), (36, [109, 117, 108, 107]), (44, [109, 117, 108, 120]), (52, [100, 105, 118, 107]), (60, [100, 105, 118, 120]), (68, [111, 114, 107]), (76, [111, 114, 120]), (84, [97, 110, 100, 107]), (92, [97, 110, 100, 120]), (164, [120, 111, 114, 107]), (172, [120, 111, 114, 120]), (100, [108, 115, 104, 107]), (108, [108, 115, 104, 120]), (116, [114, 115, 104, 107]), (124, [114, 115, 104, 120]), (132, [110, 101, 103]), (7, [116, 97, 120]), (135, [116, 120, 97]), (5, [106, 97]), (21, [106, 101, 113, 107]), (29, [106, 101, 113, 120]), (37, [106, 103, 116, 107]), (45, [106, 103, 116, 120]), (53, [106, 103, 101, 107]), (61, [106, 103, 101, 120]), (69, [106, 115, 101, 116, 107]), (77, [106, 115, 101, 116, 120]), (6, [114, 101, 116, 107]), (22, [114, 101, 116, 97])]
def landRow (t : Int × List UInt8) : List Value := [.int .i64 t.1, .string (strOf t.2)]
def landCells : List Value := landTab.flatMap landRow

/-- What the start lays, as far as the landed code reads it. -/
structure Laid (w : World) : Prop where
  most : ∃ m, w.cell? ⟨1, 0, none⟩ = some (.int .i64 m)
  syn : ∃ t p, w.cell? ⟨2, 0, none⟩ = some (.iface t p)
  rng : ∃ t p, w.cell? ⟨3, 0, none⟩ = some (.iface t p)
  pow : Lib.TabIs Tryd.prog w "internal/strconv.uint64pow10" .u64 Lib.pow10Tab
  names : w.rangeAt 0 0 landCells
  size : 1 < w.heap.size ∧ 2 < w.heap.size ∧ 3 < w.heap.size ∧ 4 < w.heap.size ∧ 0 < w.heap.size

theorem Laid.below {w w' : World} (h : Laid w) (hb : Below w.heap.size w w') : Laid w' where
  most := by obtain ⟨m, hm⟩ := h.most; exact ⟨m, (hb.cell (p := ⟨1, 0, none⟩) h.size.1).trans hm⟩
  syn := by obtain ⟨t, p, hm⟩ := h.syn; exact ⟨t, p, (hb.cell (p := ⟨2, 0, none⟩) h.size.2.1).trans hm⟩
  rng := by obtain ⟨t, p, hm⟩ := h.rng; exact ⟨t, p, (hb.cell (p := ⟨3, 0, none⟩) h.size.2.2.1).trans hm⟩
  pow := (Lib.tabBelow_of_tabIs h.pow) w' hb
  names := fun j v hv => (hb.cell (p := ⟨0, 0 + j, none⟩) h.size.2.2.2.2).trans (h.names j v hv)
  size := by have := hb.size; have := h.size; omega

/-- What lies below a base goes on lying so, whatever is done from that base on. -/
theorem Laid.on {B : Nat} {a w' : World} (h : Laid a) (hB : a.heap.size ≤ B) (hb : Below B a w') : Laid w' := h.below (hb.mono hB)

/-! ### strings.Cut at one byte -/
def cutOf (c : UInt8) : List UInt8 → List UInt8 × List UInt8 × Bool
  | [] => ([], [], false)
  | x :: r => if x = c then ([], r, true) else (x :: (cutOf c r).1, (cutOf c r).2.1, (cutOf c r).2.2)

theorem index_cons (c x : UInt8) (r : List UInt8) : Lib.index (x :: r) [c] = if x = c then 0 else if Lib.index r [c] = -1 then -1 else Lib.index r [c] + 1 := by
  rw [Lib.index]
  by_cases h : x = c
  · subst h
    simp [List.isPrefixOf]
  · have : ([c] : List UInt8).isPrefixOf (x :: r) = false := by
      simp [List.isPrefixOf]
      exact fun e => h e.symm
    rw [this, if_neg h]
    simp

theorem cut_is (c : UInt8) : ∀ l : List UInt8, Lib.cut l [c] = cutOf c l
  | [] => by simp [Lib.cut, Lib.index, cutOf]
  | x :: r => by
    have ih := cut_is c r
    unfold Lib.cut at ih ⊢
    rw [index_cons, cutOf]
    have hge := Lib.index_ge r [c]
    by_cases h : x = c
    · rw [if_pos h, if_pos h]
      simp
    · rw [if_neg h, if_neg h]
      by_cases hm : Lib.index r [c] = -1
      · rw [hm] at ih
        rw [if_pos hm]
        rw [if_neg (by omega)] at ih ⊢
        rw [← ih]
      · rw [if_neg hm]
        rw [if_pos (by omega)] at ih ⊢
        rw [← ih]
        obtain ⟨k, hk⟩ : ∃ k : Nat, Lib.index r [c] = k := ⟨(Lib.index r [c]).toNat, by omega⟩
        rw [hk]
        have e1 : ((k : Int) + 1).toNat = k + 1 := by omega
        simp only [e1, Int.toNat_natCast, List.length_singleton, List.take_succ_cons]
        rw [show k + 1 + 1 = (k + 1) + 1 from rfl, List.drop_succ_cons]

theorem cutOf_len (c : UInt8) : ∀ l : List UInt8, (cutOf c l).1.length ≤ l.length ∧ (cutOf c l).2.1.length ≤ l.length
  | [] => by simp [cutOf]
  | x :: r => by
    have := cutOf_len c r
    rw [cutOf]
    split
    · simp
    · simp; omega
theorem cutOf_less (c : UInt8) : ∀ l : List UInt8, (cutOf c l).2.2 = true → (cutOf c l).2.1.length < l.length
  | [], h => by simp [cutOf] at h
  | x :: r, h => by
    have ih := cutOf_less c r
    rw [cutOf] at h ⊢
    split
    · simp
    · rename_i hx
      rw [if_neg hx] at h
      have := ih h
      simp
      omega
theorem cutOf_miss (c : UInt8) : ∀ l : List UInt8, (cutOf c l).2.2 = false → (cutOf c l).1 = l ∧ (cutOf c l).2.1 = []
  | [], _ => by simp [cutOf]
  | x :: r, h => by
    have ih := cutOf_miss c r
    rw [cutOf] at h ⊢
    split at h
    · simp at h
    · rename_i hx
      rw [if_neg hx]
      have := ih h
      simp [this]

theorem cut_any (l : List UInt8) (c : UInt8) (w : World) (hL : Laid w) (hs : l.length ≤ 4294967280) :
    Calls Tryd.prog 13 #[.string (strOf l), .string ⟨#[c]⟩] w fun e w' => e = .returned (.tuple #[.string (strOf (cutOf c l).1), .string (strOf (cutOf c l).2.1), .bool (cutOf c l).2.2]) ∧ Below w.heap.size w w' := by
  obtain ⟨m, hm⟩ := hL.most
  have h := Any.strings_Cut Tryd.lays145 (strOf l) ⟨#[c]⟩ m w (by rw [strOf_size]; omega) hm
  have e1 : (strOf l).data.toList = l := rfl
  have e2 : (⟨#[c]⟩ : ByteArray).data.toList = [c] := rfl
  rw [e1, e2, cut_is] at h
  refine Calls.mono (f := 13) h fun e w' ⟨he, n, hw⟩ => ⟨he, ?_⟩
  rw [hw]
  exact below_drewN (Below.refl _ _) n

/-! ### strconv.ParseUint -/
theorem parse_yes (B : Nat) (hB : B = 8 ∨ B = 16 ∨ B = 32) (l : List UInt8) (u : Nat) (h : Lib.parseUintB B l = .ok u) (hs : l.length ≤ 4294967280) (w : World) :
    Calls Tryd.prog 32 #[.string (strOf l), .int .i64 10, .int .i64 B] w fun e w' => e = .returned (.tuple #[.int .u64 u, .nilIface]) ∧ Below w.heap.size w w' := by
  have hz : (strOf l).size ≤ 9223372036854775806 := by rw [strOf_size]; omega
  have fin : ∀ w' : World, (w' = w ∨ w' = Lib.bytesWorld w 5 (strOf l)) → Below w.heap.size w w' := by
    rintro w' (rfl | rfl)
    · exact Below.refl _ _
    · exact Lib.bytesWorld_below _ _ _
  rcases hB with rfl | rfl | rfl
  · exact Calls.mono (f := 32) (Any.strconv_ParseUint_10_at8_ok Tryd.laysPu14 (strOf l) hz u h w) fun e w' ⟨he, hw⟩ => ⟨he, fin w' hw⟩
  · exact Calls.mono (f := 32) (Any.strconv_ParseUint_10_at16_ok Tryd.laysPu14 (strOf l) hz u h w) fun e w' ⟨he, hw⟩ => ⟨he, fin w' hw⟩
  · exact Calls.mono (f := 32) (Any.strconv_ParseUint_10_at32_ok Tryd.laysPu14 (strOf l) hz u h w) fun e w' ⟨he, hw⟩ => ⟨he, fin w' hw⟩

theorem parse_no (B : Nat) (hB : B = 8 ∨ B = 16 ∨ B = 32) (l : List UInt8) (h : ∀ u, Lib.parseUintB B l ≠ .ok u) (hs : l.length ≤ 4294967280) (w : World) (hL : Laid w) :
    Calls Tryd.prog 32 #[.string (strOf l), .int .i64 10, .int .i64 B] w fun e w' => (∃ v t p, e = .returned (.tuple #[.int .u64 v, .iface t p])) ∧ Below w.heap.size w w' := by
  have hz : (strOf l).size ≤ 281474976710656 := by rw [strOf_size]; omega
  obtain ⟨t1, p1, h1⟩ := hL.syn
  obtain ⟨t2, p2, h2⟩ := hL.rng
  rcases hc : Lib.parseUintB B l with u | _ | _
  · exact absurd hc (h u)
  · rcases hB with rfl | rfl | rfl
    · exact Calls.mono (f := 32) (Any.strconv_ParseUint_10_at8_syntax Tryd.laysPu14 (strOf l) hz hc _ w h1 (.inr ⟨t1, p1, rfl⟩)) fun e w' ⟨N, he, _, _, hw⟩ => ⟨⟨_, _, _, he⟩, hw⟩
    · exact Calls.mono (f := 32) (Any.strconv_ParseUint_10_at16_syntax Tryd.laysPu14 (strOf l) hz hc _ w h1 (.inr ⟨t1, p1, rfl⟩)) fun e w' ⟨N, he, _, _, hw⟩ => ⟨⟨_, _, _, he⟩, hw⟩
    · exact Calls.mono (f := 32) (Any.strconv_ParseUint_10_at32_syntax Tryd.laysPu14 (strOf l) hz hc _ w h1 (.inr ⟨t1, p1, rfl⟩)) fun e w' ⟨N, he, _, _, hw⟩ => ⟨⟨_, _, _, he⟩, hw⟩
  · rcases hB with rfl | rfl | rfl
    · exact Calls.mono (f := 32) (Any.strconv_ParseUint_10_at8_range Tryd.laysPu14 (strOf l) hz hc _ w h2 (.inr ⟨t2, p2, rfl⟩)) fun e w' ⟨N, he, _, _, hw⟩ => ⟨⟨_, _, _, he⟩, hw⟩
    · exact Calls.mono (f := 32) (Any.strconv_ParseUint_10_at16_range Tryd.laysPu14 (strOf l) hz hc _ w h2 (.inr ⟨t2, p2, rfl⟩)) fun e w' ⟨N, he, _, _, hw⟩ => ⟨⟨_, _, _, he⟩, hw⟩
    · exact Calls.mono (f := 32) (Any.strconv_ParseUint_10_at32_range Tryd.laysPu14 (strOf l) hz hc _ w h2 (.inr ⟨t2, p2, rfl⟩)) fun e w' ⟨N, he, _, _, hw⟩ => ⟨⟨_, _, _, he⟩, hw⟩

/-! ### strconv.AppendUint -/
theorem dec_is : ∀ (f n : Nat), n < f → Lib.decDigits n = dec n
  | 0, n, h => by omega
  | f + 1, n, h => by
    rw [Lib.decDigits]
    by_cases h9 : n ≤ 9
    · rw [dif_pos (by omega), dec_small h9]; rfl
    · rw [dif_neg (by omega), dec_great h9, dec_is f (n / 10) (by omega)]; rfl

theorem byteCells_is (l : List UInt8) : Lib.byteCells l = bytesV l := rfl

theorem appendIn_any (B n u : Nat) (hu : u < 18446744073709551616) (sv : Value) (xs : List Value) (w : World) (hL : Laid w) (hown : w.ownsRow B 5 1 sv n xs) (hBw : B ≤ w.heap.size) (hlim : n + 20 ≤ 140737488355328) :
    Calls Tryd.prog 40 #[sv, .int .u64 u, .int .i64 10] w fun e w' => ∃ v', e = .returned v' ∧ w'.ownsRow B 5 1 v' (n + (dec u).length) (xs ++ bytesV (dec u)) ∧ Below B w w' ∧ Lib.OthersKept 5 none w w' := by
  have hd := dec_is (u + 1) u (by omega)
  by_cases h : u < 100
  · have := Any.internal_strconv_AppendUint_10_small Tryd.laysM288 B n u h sv xs w hown hBw hlim
    rw [hd, byteCells_is] at this
    exact Calls.mono (f := 40) this fun e w' ⟨v', he, ho, hb, hk⟩ => ⟨v', he, ho, hb, hk⟩
  · have := Any.internal_strconv_AppendUint_10_big Tryd.laysM288 B n u (by omega) hu sv xs w hown hBw hlim hL.pow
    rw [hd, byteCells_is] at this
    exact Calls.mono (f := 40) this fun e w' ⟨v', he, ho, hb, hk⟩ => ⟨v', he, ho, hb, hk⟩

set_option maxHeartbeats 1000000 in
theorem append_any (B n u : Nat) (hu : u < 18446744073709551616) (sv : Value) (xs : List Value) (w : World) (hL : Laid w) (hown : w.ownsRow B 5 1 sv n xs) (hBw : B ≤ w.heap.size) (hlim : n + 20 ≤ 140737488355328) :
    Calls Tryd.prog 33 #[sv, .int .u64 u, .int .i64 10] w fun e w' => ∃ v', e = .returned v' ∧ w'.ownsRow B 5 1 v' (n + (dec u).length) (xs ++ bytesV (dec u)) ∧ Below B w w' ∧ Lib.OthersKept 5 none w w' := by
  have HC := Lib.hid (appendIn_any B n u hu sv xs w hL hown hBw hlim)
  clear hL hown hBw hlim
  go_enter Tryd.func33, Tryd.ntmps33
  go_wp2_with fail
  refine (HC.out).mono ?_
  rintro r w1 ⟨v', rfl, ho, hb, hk⟩
  go_wp2
  go_ret
  exact ⟨v', rfl, ho, hb, hk⟩

end Go.Proofs.YtdcpdieejknliaaDoor
