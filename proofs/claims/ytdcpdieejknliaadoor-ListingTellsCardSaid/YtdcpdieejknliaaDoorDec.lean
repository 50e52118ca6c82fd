/- What the document's own Dec gives: a number in decimal. -/
import Derived.Test.YtdcpdieejknliaaDoorStr
import Derived.Test.YtdcpdieejknliaaDoorChecked
import Derived.Lib.Hide
import Derived.Lib.Strings
namespace Go.Proofs.YtdcpdieejknliaaDoor
open Go.RowKit

def dig (n : Nat) : UInt8 := UInt8.ofNat (48 + n)
/-- A number in decimal. -/
def dec (n : Nat) : List UInt8 := if _h : n ≤ 9 then [dig n] else dec (n / 10) ++ [dig (n % 10)]
termination_by n

theorem dec_small {n : Nat} (h : n ≤ 9) : dec n = [dig n] := by rw [dec, dif_pos h]
theorem dec_great {n : Nat} (h : ¬ n ≤ 9) : dec n = dec (n / 10) ++ [dig (n % 10)] := by rw [dec, dif_neg h]

theorem dec_len : ∀ (k n : Nat), n < 10 ^ (k + 1) → (dec n).length ≤ k + 1
  | 0, n, h => by rw [dec_small (by simp at h; omega)]; simp
  | k + 1, n, h => by
    by_cases h9 : n ≤ 9
    · rw [dec_small h9]; simp
    · rw [dec_great h9, List.length_append]
      have := dec_len k (n / 10) (by rw [Nat.pow_succ] at h; omega)
      simp
      omega

theorem dec_len20 (n : Nat) (h : n ≤ 18446744073709551615) : (dec n).length ≤ 20 := dec_len 19 n (by omega)

theorem dig_slice (k : Nat) (h : k < 10) : (⟨#[48, 49, 50, 51, 52, 53, 54, 55, 56, 57]⟩ : ByteArray).extract k (k + 1) = strOf [dig k] := by
  rw [Go.Lib.extract_eq]
  rcases (show k = 0 ∨ k = 1 ∨ k = 2 ∨ k = 3 ∨ k = 4 ∨ k = 5 ∨ k = 6 ∨ k = 7 ∨ k = 8 ∨ k = 9 from by omega) with rfl | rfl | rfl | rfl | rfl | rfl | rfl | rfl | rfl | rfl <;> rfl

set_option maxHeartbeats 1000000 in
theorem dec_any : ∀ (f n : Nat) (w : World), n < f → n ≤ 18446744073709551615 →
    Calls Tryd.prog 21 #[.int .u64 (n : Int)] w fun e w' => e = .returned (.string (strOf (dec n))) ∧ w = w' := by
  intro f
  induction f with
  | zero => intro n w h; omega
  | succ f ih =>
    intro n w hf hn
    by_cases h9 : n ≤ 9
    · go_enter Tryd.func21, Tryd.ntmps21
      go_wp2
      go_ret
      exact ⟨by rw [dec_small h9, show dig n = dig (n % 10) from by rw [Nat.mod_eq_of_lt (by omega)]]; exact congrArg (fun s => Ending.returned (.string s)) (dig_slice (n % 10) (by omega)), rfl⟩
    · have HC : Hid (Calls Tryd.prog 21 #[.int .u64 ((n : Int) / 10)] w fun e w' => e = .returned (.string (strOf (dec (n / 10)))) ∧ w = w') := ih (n / 10) w (by omega) (by omega)
      have HD : Hid (strOf (dec (n / 10)) ++ (⟨#[48, 49, 50, 51, 52, 53, 54, 55, 56, 57]⟩ : ByteArray).extract (n % 10) (n % 10 + 1) = strOf (dec n)) := by
        unfold Hid
        rw [dig_slice _ (by omega), dec_great h9]
        exact strOf_append _ _
      have hsz : (strOf (dec (n / 10))).size ≤ 20 := by rw [strOf_size]; exact dec_len20 _ (by omega)
      clear ih hf
      go_enter Tryd.func21, Tryd.ntmps21
      go_wp2_with fail
      refine (HC.out).mono ?_
      rintro r w1 ⟨rfl, rfl⟩
      go_wp2
      go_ret
      exact ⟨congrArg (fun s => Ending.returned (.string s)) HD.out, rfl⟩

end Go.Proofs.YtdcpdieejknliaaDoor
