/- What the document's own At, Spot and Place give. -/
import Derived.Test.YtgabeacpgmomhaaDoorStr
import Derived.Test.YtgabeacpgmomhaaDoorChecked
import Derived.Lib.Hide
import Derived.Lib.Strings
import Derived.Test.YtgabeacpgmomhaaDoorStore
import Derived.WalkLawsBesides
namespace Go.Proofs.YtgabeacpgmomhaaDoor
open Go.RowKit

/-- A whole number as a float. -/
def fl (n : Int) : Nat := floatOfInt .f64 n
theorem fl1 : fl 1 = 4607182418800017408 := by decide +kernel
def fcx (p : Nat × Nat) : Value := .complex .f64 (fl (p.1 : Int)) (fl (p.2 : Int))
def feq (a b : Nat) : Bool := FloatKind.f64.format.order a b == some .eq

def stepPos (p : Nat × Nat) (b : UInt8) : Nat × Nat := if b = 10 then (p.1 + 1, 1) else (p.1, p.2 + 1)
def posFrom (p : Nat × Nat) (l : List UInt8) : Nat × Nat := l.foldl stepPos p
/-- A number cut to a text. -/
def cutTo (n : Nat) (i : Int) : Nat := if i < 0 then 0 else if (n : Int) < i then n else i.toNat
/-- Line and column. -/
def posAt (s : List UInt8) (i : Int) : Nat × Nat := posFrom (1, 1) (s.take (cutTo s.length i))

theorem pos_le : ∀ (l : List UInt8) (p : Nat × Nat), (posFrom p l).1 ≤ p.1 + l.length ∧ (posFrom p l).2 ≤ max p.2 1 + l.length
  | [], p => by simp [posFrom]; omega
  | b :: l, p => by
    have := pos_le l (stepPos p b)
    unfold posFrom at this ⊢
    rw [List.foldl_cons]
    simp only [stepPos, List.length_cons] at this ⊢
    split at this <;> rename_i h <;> simp only [h, if_true, if_false] <;> omega
theorem pos_snoc (l : List UInt8) (b : UInt8) (p : Nat × Nat) : posFrom p (l ++ [b]) = stepPos (posFrom p l) b := by simp [posFrom, List.foldl_append]

theorem cap_any (n : Nat) (i : Int) (w : World) : Calls Tryd.prog 19 #[.int .i64 i, .int .i64 0, .int .i64 (n : Int)] w fun e w' => e = .returned (.int .i64 (cutTo n i : Nat)) ∧ w = w' := by
  unfold cutTo
  by_cases h0 : i < 0
  · rw [if_pos h0]
    go_enter Tryd.func19, Tryd.ntmps19
    go_wp2
    go_ret
    exact ⟨rfl, rfl⟩
  · rw [if_neg h0]
    by_cases h1 : (n : Int) < i
    · rw [if_pos h1]
      go_enter Tryd.func19, Tryd.ntmps19
      go_wp2
      go_ret
      exact ⟨rfl, rfl⟩
    · rw [if_neg h1, show ((i.toNat : Nat) : Int) = i from by omega]
      go_enter Tryd.func19, Tryd.ntmps19
      go_wp2
      go_ret
      exact ⟨rfl, rfl⟩

theorem spot_any (y x : Int) (w : World) : Calls Tryd.prog 16 #[.int .i64 y, .int .i64 x] w fun e w' => e = .returned (.complex .f64 (fl y) (fl x)) ∧ w = w' := by
  go_enter Tryd.func16, Tryd.ntmps16
  go_wp2
  go_ret
  exact ⟨rfl, rfl⟩

def Ats (s : ByteArray) (m : Nat) (w : World) (y x k' : Value) (wr : World) : Prop :=
  (∃ k : Nat, k ≤ m ∧ k' = .int .i64 k ∧ y = .int .i64 ((posFrom (1, 1) (s.data.toList.take k)).1 : Int) ∧ x = .int .i64 ((posFrom (1, 1) (s.data.toList.take k)).2 : Int)) ∧ w = wr

set_option maxRecDepth 100000 in
set_option maxHeartbeats 2000000 in
theorem refAt_any (s : ByteArray) (i : Int) (w : World) (hs : s.size ≤ 1099511627776) :
    Calls Tryd.prog 11 #[.string s, .int .i64 i] w fun e w' => e = .returned (.tuple #[.int .i64 ((posAt s.data.toList i).1 : Int), .int .i64 ((posAt s.data.toList i).2 : Int)]) ∧ w = w' := by
  have hz : s.data.toList.length = s.size := by simp
  obtain ⟨m, hm⟩ : ∃ m, m = cutTo s.size i := ⟨_, rfl⟩
  have hms : m ≤ s.size := by
    rw [hm]
    unfold cutTo
    repeat' split
    all_goals omega
  have HC : Hid (∀ W : World, Calls Tryd.prog 19 #[.int .i64 i, .int .i64 0, .int .i64 (s.size : Int)] W fun e w' => e = .returned (.int .i64 (m : Int)) ∧ W = w') := fun W => by rw [hm]; exact cap_any s.size i W
  have HP : Hid (posAt s.data.toList i = posFrom (1, 1) (s.data.toList.take m)) := by
    unfold Hid posAt
    rw [hz, ← hm]
  obtain ⟨R, hR⟩ : ∃ R, R = posAt s.data.toList i := ⟨_, rfl⟩
  rw [← hR]
  have HR := Lib.hid (hR.trans HP.out)
  clear hR HP hm hz
  go_enter Tryd.func11, Tryd.ntmps11
  go_wp2
  go_loopw [6, 7, 8] (fun y x k wr => Ats s m w y x k wr) (fun _ _ k _ => m - (intOf k).toNat)
  case atStart => exact ⟨⟨0, Nat.zero_le _, rfl, rfl, rfl⟩, rfl⟩
  case round =>
    obtain ⟨⟨k, hk, rfl, rfl, rfl⟩, rfl⟩ := hrel
    have hp := pos_le (s.data.toList.take k) (1, 1)
    have hl : (s.data.toList.take k).length ≤ k := List.length_take_le _ _
    obtain ⟨Y, hY⟩ : ∃ Y, Y = (posFrom (1, 1) (s.data.toList.take k)).1 := ⟨_, rfl⟩
    obtain ⟨X, hX⟩ : ∃ X, X = (posFrom (1, 1) (s.data.toList.take k)).2 := ⟨_, rfl⟩
    rw [← hY, ← hX] at hp ⊢
    have hY1 : Y ≤ 1099511627777 := by have := hp.1; simp only at this; omega
    have hX1 : X ≤ 1099511627777 := by have := hp.2; simp only at this; omega
    by_cases hlt : k < m
    · have hks : k < s.size := by omega
      have hx := str_at s k hks
      have hb := byte_lt (s[k]'hks)
      have hst : posFrom (1, 1) (s.data.toList.take (k + 1)) = stepPos (Y, X) (s[k]'hks) := by
        rw [take_one hx, pos_snoc, hY, hX]
      by_cases hq : s[k]'hks = 10
      · have HY : Hid ((posFrom (1, 1) (s.data.toList.take (k + 1))).1 = Y + 1) := by unfold Hid; rw [hst, stepPos, if_pos hq]
        have HX : Hid ((posFrom (1, 1) (s.data.toList.take (k + 1))).2 = 1) := by unfold Hid; rw [hst, stepPos, if_pos hq]
        have hq' : (((s[k]'hks).toNat : Int) == 10) = true := by rw [hq]; rfl
        clear hq hst hx hY hX hp hl
        go_wp2_with fail
        refine (HC.out _).mono ?_
        rintro r w1 ⟨rfl, rfl⟩
        go_wp2
        go_roundw
        case rel => exact ⟨⟨k + 1, by omega, by go_num, by rw [HY.out]; go_num, by rw [HX.out]; rfl⟩, rfl⟩
        case measure => simp [intOf]; omega
      · have HY : Hid ((posFrom (1, 1) (s.data.toList.take (k + 1))).1 = Y) := by unfold Hid; rw [hst, stepPos, if_neg hq]
        have HX : Hid ((posFrom (1, 1) (s.data.toList.take (k + 1))).2 = X + 1) := by unfold Hid; rw [hst, stepPos, if_neg hq]
        have hq' : (((s[k]'hks).toNat : Int) == 10) = false := by
          rw [beq_eq_false_iff_ne]
          intro e
          exact hq (UInt8.toNat_inj.1 (by show (s[k]'hks).toNat = 10; omega))
        clear hq hst hx hY hX hp hl
        go_wp2_with fail
        refine (HC.out _).mono ?_
        rintro r w1 ⟨rfl, rfl⟩
        go_wp2
        go_roundw
        case rel => exact ⟨⟨k + 1, by omega, by go_num, by rw [HY.out], by rw [HX.out]; go_num⟩, rfl⟩
        case measure => simp [intOf]; omega
    · obtain rfl : k = m := by omega
      have h1 : R.1 = Y := by rw [HR.out, hY]
      have h2 : R.2 = X := by rw [HR.out, hX]
      have H1 := Lib.hid h1
      have H2 := Lib.hid h2
      clear h1 h2 hY hX hp hl
      go_wp2_with fail
      refine (HC.out _).mono ?_
      rintro r w1 ⟨rfl, rfl⟩
      go_wp2
      go_ret2
      exact ⟨by rw [H1.out, H2.out]; rfl, rfl⟩

end Go.Proofs.YtgabeacpgmomhaaDoor
