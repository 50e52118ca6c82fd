/- What the document's own Place gives. -/
import Derived.Test.YtfhpdfekoklokaaSpotRef
namespace Go.Proofs.Ytfhpdfekoklokaa
open Go.RowKit

/-- Is byte i at this spot? -/
def spotIs (s : List UInt8) (re im : Nat) (i : Nat) : Bool := feq (fl ((posAt s i).1 : Int)) re && feq (fl ((posAt s i).2 : Int)) im
def placeOf (s : List UInt8) (re im : Nat) : Nat × Bool := match (List.range (s.length + 1)).find? (spotIs s re im) with
  | some k => (k, true)
  | none => (0, false)

theorem place_yes (s : List UInt8) (re im k : Nat) (hk : k ≤ s.length) (hp : spotIs s re im k = true) (hb : ∀ j, j < k → spotIs s re im j = false) : placeOf s re im = (k, true) := by
  have : (List.range (s.length + 1)).find? (spotIs s re im) = some k := by
    rw [List.find?_range_eq_some]
    exact ⟨hp, List.mem_range.2 (by omega), fun j hj => by rw [hb j hj]; rfl⟩
  unfold placeOf
  rw [this]
theorem place_no (s : List UInt8) (re im : Nat) (hb : ∀ j, j < s.length + 1 → spotIs s re im j = false) : placeOf s re im = (0, false) := by
  have : (List.range (s.length + 1)).find? (spotIs s re im) = none := by
    rw [List.find?_eq_none]
    intro j hj
    rw [hb j (List.mem_range.1 hj)]
    simp
  unfold placeOf
  rw [this]

def Placing (s : ByteArray) (re im : Nat) (w : World) (i : Value) (wr : World) : Prop :=
  (∃ k : Nat, k ≤ s.size + 1 ∧ i = .int .i64 k ∧ ∀ j, j < k → spotIs s.data.toList re im j = false) ∧ w = wr

set_option maxRecDepth 100000 in
set_option maxHeartbeats 2000000 in
theorem refPlace_any (s : ByteArray) (re im : Nat) (w : World) (hs : s.size ≤ 1099511627776) :
    Calls Try.prog 9 #[.string s, .complex .f64 re im] w fun e w' => e = .returned (.tuple #[.int .i64 ((placeOf s.data.toList re im).1 : Int), .bool (placeOf s.data.toList re im).2]) ∧ w = w' := by
  have hz : s.data.toList.length = s.size := by simp
  obtain ⟨R, hR⟩ : ∃ R, R = placeOf s.data.toList re im := ⟨_, rfl⟩
  rw [← hR]
  have HY : Hid (∀ k : Nat, k ≤ s.size → spotIs s.data.toList re im k = true → (∀ j, j < k → spotIs s.data.toList re im j = false) → R = (k, true)) := fun k hk h1 h2 => by rw [hR]; exact place_yes _ _ _ k (by omega) h1 h2
  have HN : Hid ((∀ j, j < s.size + 1 → spotIs s.data.toList re im j = false) → R = (0, false)) := fun h => by rw [hR]; exact place_no _ _ _ (by rw [hz]; exact h)
  clear hR hz
  go_enter Try.func9, Try.ntmps9
  go_wp2
  go_loopw [6] (fun i wr => Placing s re im w i wr) (fun i _ => s.size + 1 - (intOf i).toNat)
  case atStart => exact ⟨⟨0, Nat.zero_le _, rfl, fun j h => absurd h (by omega)⟩, rfl⟩
  case round =>
    obtain ⟨⟨k, hk, rfl, hall⟩, rfl⟩ := hrel
    have HALL := Lib.hid hall
    clear hall
    by_cases hlt : k ≤ s.size
    · have HA := Lib.hid (refAt_any s (k : Int) w hs)
      generalize hP : posAt s.data.toList (k : Int) = P at HA
      have HP := Lib.hid hP
      clear hP
      cases hq : spotIs s.data.toList re im k with
      | true =>
        have HR := Lib.hid (HY.out k hlt hq HALL.out)
        have hf : (feq (fl (P.1 : Int)) re && feq (fl (P.2 : Int)) im) = true := by rw [← HP.out]; exact hq
        simp only [Bool.and_eq_true] at hf
        obtain ⟨f1, f2⟩ := hf
        unfold feq at f1 f2
        clear hq
        go_wp2_with fail
        refine (HA.out).mono ?_
        rintro r w1 ⟨rfl, rfl⟩
        go_wp2_with (go_at_call 11; refine (spot_any _ _ _).mono ?_; rintro r w2 ⟨rfl, rfl⟩)
        go_ret2
        exact ⟨by rw [HR.out]; rfl, rfl⟩
      | false =>
        have hf : (feq (fl (P.1 : Int)) re && feq (fl (P.2 : Int)) im) = false := by rw [← HP.out]; exact hq
        have HALL2 : Hid (∀ j, j < k + 1 → spotIs s.data.toList re im j = false) := fun j hj => by
          by_cases e : j = k
          · rw [e]; exact hq
          · exact HALL.out j (by omega)
        clear hq
        unfold feq at hf
        go_wp2_with fail
        refine (HA.out).mono ?_
        rintro r w1 ⟨rfl, rfl⟩
        go_wp2_with (go_at_call 11; refine (spot_any _ _ _).mono ?_; rintro r w2 ⟨rfl, rfl⟩)
        all_goals
          go_roundw
          case rel => exact ⟨⟨k + 1, by omega, by go_num, HALL2.out⟩, rfl⟩
          case measure => simp [intOf]; omega
    · obtain rfl : k = s.size + 1 := by omega
      have HR := Lib.hid (HN.out HALL.out)
      go_wp2
      go_ret2
      exact ⟨by rw [HR.out]; rfl, rfl⟩

end Go.Proofs.Ytfhpdfekoklokaa
