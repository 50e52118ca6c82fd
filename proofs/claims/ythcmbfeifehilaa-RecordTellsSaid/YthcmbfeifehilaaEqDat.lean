/- '==' of two data that are one. -/
import Derived.Test.YthcmbfeifehilaaDataPlain
import Derived.Laws.StructEq
namespace Go.Proofs.Ythcmbfeifehilaa
open Go.RowKit

theorem eq_args (a b c d e f : Int) (w : World) : (Op.equalIn 9999 24 (.agg #[.int .u64 a, .int .u64 b, .int .u64 c, .int .u64 d, .int .u64 e, .int .u64 f]) (.agg #[.int .u64 a, .int .u64 b, .int .u64 c, .int .u64 d, .int .u64 e, .int .u64 f])).run Try.prog w = .ok true w := by
  have u3 := Try.underlying23
  have a3 := Try.isAgg23
  have z3 := Try.sizeOf23
  rw [show (9999 : Nat) = 9998 + 1 from rfl, Op.equalIn]
  simp only [Sem.run_bind, run_underlying Try.underlying24, Result.andThen_ok]
  simp only [Std.Legacy.Range.forIn_eq_forIn_range', Std.Legacy.Range.size, Nat.sub_zero, Nat.add_sub_cancel, Nat.div_one, List.range'_succ, List.range'_zero, List.forIn_cons, List.forIn_nil]
  go_simp

theorem eq_dat (d : Dat) (w : World) : (Op.equalIn 10000 26 d.val d.val).run Try.prog w = .ok true w := by
  have u3 := Try.underlying23
  have a3 := Try.isAgg23
  have z3 := Try.sizeOf23
  have u4 := Try.underlying22
  have a4 := Try.isAgg22
  have z4 := Try.sizeOf22
  have a5 := Try.isAgg24
  have z5 := Try.sizeOf24
  have he := eq_args d.a0 d.a1 d.a2 d.a3 d.a4 d.a5
  have hS : Try.prog.underlying 26 = some (.struct (Try.prog.fieldsOf 26)) := by kernel_rfl
  unfold Dat.val Dat.cells
  rw [show (10000 : Nat) = 9999 + 1 from rfl, run_equalIn_agg w 9999 26 _ _ hS Try.stoodInHeld26]
  simp only [Program.fieldsOf, Try.underlying26]
  go_simp

end Go.Proofs.Ythcmbfeifehilaa
