/- What the test of two lists of instructions gives. -/
import Derived.Test.YtdcpdieejknliaaDoorIns
import Derived.Test.YtdcpdieejknliaaDoorChecked
import Derived.Laws.StructEq
namespace Go.Proofs.YtdcpdieejknliaaDoor
open Go.RowKit

def Ins.eqb (x y : Ins) : Bool := x.code == y.code && (x.jt == y.jt && (x.jf == y.jf && x.k == y.k))
theorem Ins.eqb_true {x y : Ins} (h : x.eqb y = true) : x = y := by
  obtain ⟨a, b, c, d⟩ := x
  obtain ⟨a', b', c', d'⟩ := y
  simp [Ins.eqb] at h
  obtain ⟨rfl, rfl, rfl, rfl⟩ := h
  rfl
theorem Ins.eqb_refl (x : Ins) : x.eqb x = true := by simp [Ins.eqb]

theorem eq_ins (x y : Ins) (w : World) : (Op.equalIn 10000 38 (.agg #[.int .i64 x.code, .int .i64 x.jt, .int .i64 x.jf, .int .u32 x.k]) (.agg #[.int .i64 y.code, .int .i64 y.jt, .int .i64 y.jf, .int .u32 y.k])).run Tryd.prog w = .ok (x.eqb y) w := by
  have u3 := Tryd.underlying3
  have a3 := Tryd.isAgg3
  have z3 := Tryd.sizeOf3
  have u4 := Tryd.underlying36
  have a4 := Tryd.isAgg36
  have z4 := Tryd.sizeOf36
  have hS : Tryd.prog.underlying 38 = some (.struct (Tryd.prog.fieldsOf 38)) := by kernel_rfl
  rw [show (10000 : Nat) = 9999 + 1 from rfl, run_equalIn_agg w 9999 38 _ _ hS Tryd.stoodInHeld38]
  simp only [Program.fieldsOf, Tryd.underlying38]
  go_simp
  unfold Ins.eqb
  by_cases h1 : x.code = y.code <;> by_cases h2 : x.jt = y.jt <;> by_cases h3 : x.jf = y.jf <;> by_cases h4 : x.k = y.k <;> simp [h1, h2, h3, h4]

set_option maxRecDepth 100000 in
set_option maxHeartbeats 1000000 in
/-- Two slices of the same instructions are told the same. -/
theorem same_yes (A B : Option Addr) (n c d : Nat) (l : List Ins) (w : World) (hl : Lies w w.heap.size 4 A n (cellsOf l)) (hk : Lies w w.heap.size 4 B n (cellsOf l)) (hn : n ≤ 35184372088832) :
    Calls Tryd.prog 11 #[.slice A n c, .slice B n d] w fun e w' => e = .returned (.bool true) ∧ Below w.heap.size w w' := by
  have hnn : ((n : Int) != (n : Int)) = false := by simp
  go_enter Tryd.func11, Tryd.ntmps11
  go_wp2
  go_loopw [5] (fun i wr => ∃ j : Nat, j ≤ n ∧ i = .int .i64 j ∧ Below w.heap.size w wr) (fun i _ => n - (intOf i).toNat)
  case atStart => exact ⟨0, Nat.zero_le _, rfl, Below.refl _ _⟩
  case round =>
    obtain ⟨j, hj, rfl, hnx⟩ := hrel
    by_cases hlt : j < n
    · obtain ⟨b, o, x, rfl, hb, hx, e0, e1, e2, e3⟩ := (hl.below hnx).ins hlt
      obtain ⟨b', o', y, rfl, hb', hy, f0, f1, f2, f3⟩ := (hk.below hnx).ins hlt
      obtain rfl : y = x := by rw [hx] at hy; exact (Option.some.inj hy).symm
      clear hx hy
      go_wp2
      have p0 : (0 : Int) ≤ (j : Int) := by omega
      have q0 : (j : Int) < (n : Int) := by omega
      have g0 := Tryd.eqGuardType38
      have q1 := eq_ins y y
      rw [Ins.eqb_refl] at q1
      go_quiet (fail)
      clear g0 q1
      go_wp2
      go_roundw
      case rel => exact ⟨j + 1, by omega, by go_num, below_drewN hnx _⟩
      case measure => simp [intOf]; omega
    · obtain rfl : j = n := by omega
      go_wp2
      go_ret
      exact ⟨rfl, hnx⟩

end Go.Proofs.YtdcpdieejknliaaDoor
