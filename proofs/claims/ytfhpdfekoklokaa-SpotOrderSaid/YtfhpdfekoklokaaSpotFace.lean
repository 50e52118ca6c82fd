/- What package spot's functions say: to be shown of the code as it landed; the statements' own test of the document's example; the walk of SpotTells. -/
import Derived.Test.YtfhpdfekoklokaaSpotPlace
import Derived.Test.YtfhpdfekoklokaaFloat
import Derived.BigQuiet
namespace Go.Proofs.Ytfhpdfekoklokaa
open Go.RowKit

def fcx (p : Nat × Nat) : Value := .complex .f64 (fl (p.1 : Int)) (fl (p.2 : Int))

structure SpotSays : Prop where
  at_ : ∀ (s : ByteArray) (i : Int) (w : World), s.size ≤ 1099511627776 → -9223372036854775808 ≤ i → i ≤ 9223372036854775807 →
    Calls Try.prog 10 #[.string s, .int .i64 i] w fun e w' => e = .returned (fcx (posAt s.data.toList i)) ∧ Below w.heap.size w w'
  place : ∀ (s : ByteArray) (re im : Nat) (w : World), s.size ≤ 1099511627776 →
    Calls Try.prog 8 #[.string s, .complex .f64 re im] w fun e w' => e = .returned (.tuple #[.int .i64 ((placeOf s.data.toList re im).1 : Int), .bool (placeOf s.data.toList re im).2]) ∧ Below w.heap.size w w'
  behind : ∀ (p : Nat × Nat) (s : ByteArray) (w : World), s.size ≤ 1099511627776 → 1 ≤ p.1 → p.1 ≤ 1099511627776 → 1 ≤ p.2 → p.2 ≤ 1099511627776 →
    Calls Try.prog 12 #[fcx p, .string s] w fun e w' => e = .returned (fcx (posFrom p s.data.toList)) ∧ Below w.heap.size w w'

theorem fl1 : fl 1 = 4607182418800017408 := by decide +kernel
theorem fl2 : fl 2 = 4611686018427387904 := by decide +kernel
theorem fl3 : fl 3 = 4613937818241073152 := by decide +kernel
theorem ord1 : FloatKind.f64.format.order 4607182418800017408 4607182418800017408 = some .eq := by decide +kernel
theorem ord2 : FloatKind.f64.format.order 4611686018427387904 4611686018427387904 = some .eq := by decide +kernel
theorem ord3 : FloatKind.f64.format.order 4613937818241073152 4613937818241073152 = some .eq := by decide +kernel

set_option maxRecDepth 100000 in
set_option maxHeartbeats 1000000 in
theorem salive_any (R : SpotSays) (w : World) : Calls Try.prog 6 #[] w fun e w' => e = .returned (.bool true) ∧ Below w.heap.size w w' := by
  have HA : Hid (∀ W : World, Calls Try.prog 10 #[.string ⟨#[97]⟩, .int .i64 0] W fun e w' => e = .returned (.complex .f64 4607182418800017408 4607182418800017408) ∧ Below W.heap.size W w') := fun W => by
    have := R.at_ (strOf [97]) 0 W (by decide) (by decide) (by decide)
    rw [strOf_data, show posAt [97] 0 = (1, 1) from rfl] at this
    unfold fcx at this
    rw [show (((1, 1) : Nat × Nat).1 : Int) = 1 from rfl, fl1] at this
    exact this
  have HB : Hid (∀ W : World, Calls Try.prog 12 #[.complex .f64 4607182418800017408 4607182418800017408, .string ⟨#[97, 10, 98, 99]⟩] W fun e w' => e = .returned (.complex .f64 4611686018427387904 4613937818241073152) ∧ Below W.heap.size W w') := fun W => by
    have := R.behind (1, 1) (strOf [97, 10, 98, 99]) W (by decide) (by decide) (by decide) (by decide) (by decide)
    rw [strOf_data, show posFrom (1, 1) [97, 10, 98, 99] = (2, 3) from rfl] at this
    unfold fcx at this
    rw [show (((1, 1) : Nat × Nat).1 : Int) = 1 from rfl, show (((2, 3) : Nat × Nat).1 : Int) = 2 from rfl, show (((2, 3) : Nat × Nat).2 : Int) = 3 from rfl, fl1, fl2, fl3] at this
    exact this
  have o1 := ord1
  have o2 := ord2
  have o3 := ord3
  go_enter Try.func6, Try.ntmps6
  go_wp2_with fail
  refine (HA.out _).mono ?_
  rintro r w1 ⟨rfl, hb1⟩
  go_wp2_with fail
  refine (HB.out _).mono ?_
  rintro r w2 ⟨rfl, hb2⟩
  have HN := Lib.hid (below_step hb1 (Nat.le_refl _) hb2)
  clear hb1 hb2
  go_wp2
  go_ret
  exact ⟨rfl, HN.out⟩

set_option maxRecDepth 100000 in
set_option maxHeartbeats 2000000 in
theorem stells_in (R : SpotSays) (s : ByteArray) (i : Int) (y x : Nat) (w : World) (hs : s.size ≤ 500) (i0 : -9223372036854775808 ≤ i) (i1 : i ≤ 9223372036854775807) :
    Calls Try.prog 3 #[.string s, .int .i64 i, .float .f64 y, .float .f64 x] w fun e w' => e = .returned (.bool true) ∧ Below w.heap.size w w' := by
  obtain ⟨P, hP⟩ : ∃ P, P = posAt s.data.toList i := ⟨_, rfl⟩
  obtain ⟨Q, hQ⟩ : ∃ Q, Q = placeOf s.data.toList y x := ⟨_, rfl⟩
  have H1 : Hid (∀ W : World, Calls Try.prog 7 #[.string s, .int .i64 i] W fun e w' => e = .returned (.tuple #[.int .i64 (P.1 : Int), .int .i64 (P.2 : Int)]) ∧ W = w') := fun W => by rw [hP]; exact refAt_any s i W (by omega)
  have H2 : Hid (∀ W : World, Calls Try.prog 8 #[.string s, .complex .f64 y x] W fun e w' => e = .returned (.tuple #[.int .i64 (Q.1 : Int), .bool Q.2]) ∧ Below W.heap.size W w') := fun W => by rw [hQ]; exact R.place s y x W (by omega)
  have H3 : Hid (∀ W : World, Calls Try.prog 9 #[.string s, .complex .f64 y x] W fun e w' => e = .returned (.tuple #[.int .i64 (Q.1 : Int), .bool Q.2]) ∧ W = w') := fun W => by rw [hQ]; exact refPlace_any s y x W (by omega)
  have H4 : Hid (∀ W : World, Calls Try.prog 10 #[.string s, .int .i64 i] W fun e w' => e = .returned (.complex .f64 (fl (P.1 : Int)) (fl (P.2 : Int))) ∧ Below W.heap.size W w') := fun W => by rw [hP]; exact R.at_ s i W (by omega) i0 i1
  have f1 := feq_refl (P.1 : Int)
  have f2 := feq_refl (P.2 : Int)
  unfold feq at f1 f2
  clear hP hQ
  go_enter Try.func3, Try.ntmps3
  go_wp2_with fail
  refine (salive_any R _).mono ?_
  rintro r w1 ⟨rfl, hb1⟩
  go_wp2_with fail
  refine (H1.out _).mono ?_
  rintro r w2 ⟨rfl, rfl⟩
  go_wp2_with fail
  refine (H2.out _).mono ?_
  rintro r w3 ⟨rfl, hb3⟩
  have HN3 := Lib.hid (below_step hb1 (Nat.le_refl _) hb3)
  clear hb1 hb3
  go_wp2_with fail
  refine (H3.out _).mono ?_
  rintro r w4 ⟨rfl, rfl⟩
  go_wp2_with fail
  refine (H4.out _).mono ?_
  rintro r w5 ⟨rfl, hb5⟩
  have HN5 := Lib.hid (below_step HN3.out (Nat.le_refl _) hb5)
  clear hb5
  go_wp2_with (go_at_call 11; refine (spot_any _ _ _).mono ?_; rintro r w6 ⟨rfl, rfl⟩)
  go_ret
  exact ⟨rfl, HN5.out⟩

set_option maxHeartbeats 1000000 in
theorem stells_any (R : SpotSays) (s : ByteArray) (i : Int) (y x : Nat) (w : World) (i0 : -9223372036854775808 ≤ i) (i1 : i ≤ 9223372036854775807) :
    Calls Try.prog 3 #[.string s, .int .i64 i, .float .f64 y, .float .f64 x] w fun e w' => e = .returned (.bool true) ∧ Below w.heap.size w w' := by
  by_cases hs : s.size ≤ 500
  · exact stells_in R s i y x w hs i0 i1
  · go_enter Try.func3, Try.ntmps3
    go_wp2_with fail
    refine (salive_any R _).mono ?_
    rintro r w1 ⟨rfl, hb1⟩
    go_wp2
    go_ret
    exact ⟨rfl, hb1⟩

end Go.Proofs.Ytfhpdfekoklokaa
