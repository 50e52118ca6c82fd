/- Spots within structs: that one is itself. -/
import Derived.Test.YtgabeacpgmomhaaDoorTokSplit
import Derived.Test.YtgabeacpgmomhaaDoorFloat
namespace Go.Proofs.YtgabeacpgmomhaaDoor
open Go.RowKit

theorem fl_0 : fl 0 = 0 := by decide +kernel
theorem fl_3 : fl 3 = 4613937818241073152 := by decide +kernel
theorem ord_0 : FloatKind.f64.format.order 0 0 = some .eq := by decide +kernel
theorem ord_1 : FloatKind.f64.format.order 4607182418800017408 4607182418800017408 = some .eq := by decide +kernel
theorem ord_3 : FloatKind.f64.format.order 4613937818241073152 4613937818241073152 = some .eq := by decide +kernel
theorem ord_fl (n : Int) : FloatKind.f64.format.order (fl n) (fl n) = some .eq := by
  have := feq_refl n
  unfold feq at this
  exact eq_of_beq this

/-- Two spots within a struct. -/
theorem eq_cx_at (d a b : Nat) (W : World) (ha : FloatKind.f64.format.order a a = some .eq) (hb : FloatKind.f64.format.order b b = some .eq) : (Op.equalIn (d + 1) 25 (.complex .f64 a b) (.complex .f64 a b)).run Tryd.prog W = .ok true W := by
  simp [Op.equalIn, run_underlying Tryd.underlying25, Op.floatEq, ha, hb]
theorem eq_cx (a b : Nat) (W : World) (ha : FloatKind.f64.format.order a a = some .eq) (hb : FloatKind.f64.format.order b b = some .eq) : (Op.equalIn 9999 25 (.complex .f64 a b) (.complex .f64 a b)).run Tryd.prog W = .ok true W := eq_cx_at 9998 a b W ha hb

end Go.Proofs.YtgabeacpgmomhaaDoor
