/- Arrays of three integers, compared. -/
import Derived.Test.YtodikfihhggmcaaTreeW
import GoSem.ClaimStop
import Derived.Laws.StructEq
set_option linter.unusedVariables false
namespace Go.Proofs.Ytodikfihhggmcaa
open Go.RowKit

theorem size_int (w : World) : (sizeOf 3).run Try.prog w = .ok 1 w := by kernel_rfl
theorem und_int : Try.prog.underlying 3 = some (.int .i64) := by kernel_rfl
theorem und_arr3 : Try.prog.underlying 94 = some (.array 3 3) := by kernel_rfl
theorem part3 (a b c : Int) (w : World) : (part 3 #[.int .i64 a, .int .i64 b, .int .i64 c] (0 * 1)).run Try.prog w = .ok (.int .i64 a) w ∧ (part 3 #[.int .i64 a, .int .i64 b, .int .i64 c] (1 * 1)).run Try.prog w = .ok (.int .i64 b) w ∧ (part 3 #[.int .i64 a, .int .i64 b, .int .i64 c] (2 * 1)).run Try.prog w = .ok (.int .i64 c) w := by
  refine ⟨?_, ?_, ?_⟩ <;> simp [part, isAgg, run_underlying und_int]
theorem equal3 (d : Nat) (a b c x y z : Int) (w : World) : (Op.equalIn (d + 2) 94 (.agg #[.int .i64 a, .int .i64 b, .int .i64 c]) (.agg #[.int .i64 x, .int .i64 y, .int .i64 z])).run Try.prog w = .ok ((a == x) && ((b == y) && (c == z))) w := by
  have pe : ∀ u v : Int, (Op.equalIn (d + 1) 3 (.int .i64 u) (.int .i64 v)).run Try.prog w = .ok (u == v) w := fun u v => run_equalIn_int w d _ .i64 .i64 u v und_int
  have e1 := pe a x
  have e2 := pe b y
  have e3 := pe c z
  generalize (a == x) = r at *
  generalize (b == y) = s at *
  generalize (c == z) = t at *
  clear pe
  obtain ⟨p0, p1, p2⟩ := part3 a b c w
  obtain ⟨q0, q1, q2⟩ := part3 x y z w
  rw [Op.equalIn]
  simp only [Sem.run_bind, run_underlying und_arr3, Result.andThen_ok, size_int, Std.Legacy.Range.forIn_eq_forIn_range', Std.Legacy.Range.size, Nat.sub_zero, Nat.add_sub_cancel, Nat.div_one]
  rw [show List.range' 0 3 1 = [0, 1, 2] from rfl]
  simp only [List.forIn_cons, List.forIn_nil, Sem.run_bind, p0, q0, e1, Result.andThen_ok]
  cases r <;> cases s <;> cases t <;> simp [p1, p2, q1, q2, e2, e3]
theorem eql3 (a b c x y z : Int) (w : World) : (binOp .eql 94 (.agg #[.int .i64 a, .int .i64 b, .int .i64 c]) (.agg #[.int .i64 x, .int .i64 y, .int .i64 z])).run Try.prog w = .ok (.bool ((a == x) && ((b == y) && (c == z)))) w := by
  rw [run_eql_struct, equal3 9998]
  rfl

end Go.Proofs.Ytodikfihhggmcaa
