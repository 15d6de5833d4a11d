/- What the small functions of costs give: each a contract over any world. -/
import Derived.Test.YtdnilgpbfabafaaDoorChecked
import Derived.Test.YtdnilgpbfabafaaDoorFloat
import Derived.WalkKit
import Derived.WalkLawsBesides
import Derived.Laws.Externs
import Derived.Lib.Hide
import Derived.RowKit3
namespace Go.Proofs.YtdnilgpbfabafaaDoor
open Go.RowKit

theorem ret_int {k : IntKind} {a b : Int} (h : a = b) : Ending.returned (.int k a) = .returned (.int k b) := by rw [h]
theorem ret_bool {a b : Bool} (h : a = b) : Ending.returned (.bool a) = .returned (.bool b) := by rw [h]
theorem ret_float {a b : Nat} (h : a = b) : Ending.returned (.float .f64 a) = .returned (.float .f64 b) := by rw [h]
theorem neg_top (b : Nat) (hb : b < 18446744073709551616) : decide (wrap64 (b : Int) < 0) = (b / 9223372036854775808 == 1) := by
  have h1 : wrap64 (b : Int) < 0 ↔ 9223372036854775808 ≤ b := by unfold wrap64; omega
  have h2 : b / 9223372036854775808 = 1 ↔ 9223372036854775808 ≤ b := by omega
  rw [Bool.eq_iff_iff, decide_eq_true_iff, beq_iff_eq, h1, h2]

theorem guard_no {b : Nat} {x y c : Bool} (h : ((x || y) && c) = Fl.right b) (hn : ¬ (x = true ∨ y = true)) : false = Fl.right b := by
  rw [← h]; cases x <;> cases y <;> simp_all

/-! ### The functions that have no body here -/
theorem frombits_run (n : Int) (w : World) : (callFunc 31 #[.int .u64 n]).run Tryd.prog w = .ok (.value (.float .f64 n.toNat)) w := by
  rw [run_callFunc_extern (e := Extern.MathFloatBits.float64frombits) Tryd.func31 (by kernel_rfl) (by kernel_rfl) (by kernel_rfl) (by kernel_rfl)]
  rfl
theorem bits_run (b : Nat) (w : World) : (callFunc 34 #[.float .f64 b]).run Tryd.prog w = .ok (.value (.int .u64 b)) w := by
  rw [run_callFunc_extern (e := Extern.MathFloatBits.float64bits) Tryd.func34 (by kernel_rfl) (by kernel_rfl) (by kernel_rfl) (by kernel_rfl)]
  rfl

/-- What no answer has, as the world's tape has it. -/
def nanOf (w : World) (x y : Nat) : Nat := (Question.nanBits .f64 x y).cut (w.tape w.drawn (.nanBits .f64 x y))
theorem quo_none_run (t : TypeId) (x y : Nat) (h : Ieee.double.div x y = none) (w : World) : (binOp .quo t (.float .f64 x) (.float .f64 y)).run Tryd.prog w = .ok (.float .f64 (nanOf w x y)) w.drew := by
  have h' : FloatKind.f64.format.div x y = none := h
  simp [binOp, Op.floatArith, h', nanOf]
  intro hx
  cases hx
theorem nanOf_nan (w : World) (x y : Nat) : nanOf w x y < 2 ^ 64 ∧ Fl.inf < nanOf w x y % 9223372036854775808 := by
  unfold nanOf Fl.inf
  generalize w.tape w.drawn _ = t
  show (t % 2) * 2 ^ 63 + 9218868437227405312 + 1 + (t / 2) % (2 ^ 52 - 1) < 2 ^ 64 ∧ _ < ((t % 2) * 2 ^ 63 + 9218868437227405312 + 1 + (t / 2) % (2 ^ 52 - 1)) % _
  have h1 : t % 2 < 2 := Nat.mod_lt _ (by decide)
  have h2 : (t / 2) % (2 ^ 52 - 1) < 2 ^ 52 - 1 := Nat.mod_lt _ (by decide)
  generalize t % 2 = s at *
  generalize (t / 2) % (2 ^ 52 - 1) = r at *
  have : s = 0 ∨ s = 1 := by omega
  rcases this with rfl | rfl <;> omega

set_option maxHeartbeats 400000 in
theorem within_any (n m : Int) (hm0 : 1 ≤ m) (hm : m ≤ 1000000) (w : World) :
    Calls Tryd.prog 8 #[.int .i64 n, .int .i64 m] w fun e w' => e = .returned (.int .i64 (n % m)) ∧ w' = w := by
  have h1 := Int.tmod_lt_of_pos n (show 0 < m by omega)
  have h2 : -m < n.tmod m := Int.lt_tmod_of_pos n (show 0 < m by omega)
  have h3 : (m == 0) = false := by simp; omega
  have h5 : n.tmod m = n % m ∨ n.tmod m = n % m - m := by
    rw [Int.tmod_eq_emod]; split
    · exact .inl (by omega)
    · right; omega
  have h6 := Int.emod_nonneg n (show m ≠ 0 by omega)
  have h7 := Int.emod_lt_of_pos n (show 0 < m by omega)
  by_cases hneg : n.tmod m < 0
  · have h8 : n.tmod m + m = n % m := by omega
    have H8 := Lib.hid h8
    clear h5 h6 h7 h8
    go_enter Tryd.func8, Tryd.ntmps8
    go_wp2
    go_ret
    exact ⟨ret_int H8.out, rfl⟩
  · have h8 : n.tmod m = n % m := by omega
    have H8 := Lib.hid h8
    clear h5 h6 h7 h8
    go_enter Tryd.func8, Tryd.ntmps8
    go_wp2
    go_ret
    exact ⟨ret_int H8.out, rfl⟩

theorem nan_any (w : World) : Calls Tryd.prog 24 #[] w fun e w' => e = .returned (.float .f64 9221120237041090561) ∧ w' = w := by
  have hf := frombits_run
  go_enter Tryd.func24, Tryd.ntmps24
  go_wp2
  go_ret
  exact ⟨rfl, rfl⟩

theorem counted_yes (n : Int) (h1 : 0 ≤ n) (h2 : n ≤ 1073741824) (w : World) : Calls Tryd.prog 23 #[.int .i64 n] w fun e w' => e = .returned (.bool true) ∧ w' = w := by
  go_enter Tryd.func23, Tryd.ntmps23
  go_wp2
  go_ret
  exact ⟨rfl, rfl⟩
theorem counted_no (n : Int) (h : n < 0 ∨ 1073741824 < n) (w : World) : Calls Tryd.prog 23 #[.int .i64 n] w fun e w' => e = .returned (.bool false) ∧ w' = w := by
  by_cases h1 : 0 ≤ n
  · have h2 : ¬ n ≤ 1073741824 := by omega
    clear h
    go_enter Tryd.func23, Tryd.ntmps23
    go_wp2
    go_ret
    exact ⟨rfl, rfl⟩
  · clear h
    go_enter Tryd.func23, Tryd.ntmps23
    go_wp2
    go_ret
    exact ⟨rfl, rfl⟩

theorem inf_any (w : World) : Calls Tryd.prog 28 #[.int .i64 1] w fun e w' => e = .returned (.float .f64 9218868437227405312) ∧ w' = w := by
  have hf := frombits_run
  go_enter Tryd.func28, Tryd.ntmps28
  go_wp2
  go_ret
  exact ⟨rfl, rfl⟩
theorem endless_any (w : World) : Calls Tryd.prog 16 #[] w fun e w' => e = .returned (.float .f64 9218868437227405312) ∧ w' = w := by
  have hf := frombits_run
  go_enter Tryd.func16, Tryd.ntmps16
  go_wp2_with (go_at_call 28; refine (inf_any _).mono ?_; rintro e w' ⟨rfl, rfl⟩)
  go_ret
  exact ⟨rfl, rfl⟩
theorem signbit_any (b : Nat) (hb : b < 18446744073709551616) (w : World) : Calls Tryd.prog 27 #[.float .f64 b] w fun e w' => e = .returned (.bool (b / 9223372036854775808 == 1)) ∧ w' = w := by
  have hf := bits_run
  go_enter Tryd.func27, Tryd.ntmps27
  go_wp2
  go_ret
  exact ⟨ret_bool (neg_top b hb), rfl⟩

/-- IS IT A COST? -/
theorem right_any (b : Nat) (hb : b < 18446744073709551616) (w : World) : Calls Tryd.prog 11 #[.float .f64 b] w fun e w' => e = .returned (.bool (Fl.right b)) ∧ w' = w := by
  have hr := Fl.right_code b hb
  have HR := Lib.hid hr
  clear hr
  go_enter Tryd.func11, Tryd.ntmps11
  go_wp2_with (go_at_call 27; refine (signbit_any _ hb _).mono ?_; rintro e w' ⟨rfl, rfl⟩)
  all_goals go_ret
  · exact ⟨ret_bool HR.out, rfl⟩
  · refine ⟨ret_bool (guard_no HR.out ?_), rfl⟩
    simpa using ‹¬ (_ ∨ _)›

/-- The document's own test of a cost. -/
theorem ref_right_any (b : Nat) (hb : b < 18446744073709551616) (w : World) : Calls Tryd.prog 17 #[.float .f64 b] w fun e w' => e = .returned (.bool (Fl.right b)) ∧ w' = w := by
  by_cases h0 : b = 0
  · subst h0
    have hq : ∀ t w, (binOp .quo t (.float .f64 4607182418800017408) (.float .f64 0)).run Tryd.prog w = .ok (.float .f64 9218868437227405312) w := fun t w => run_float_arith w .quo t .f64 _ _ _ (by kernel_rfl)
    have ho1 : FloatKind.f64.format.order 0 0 = some .eq := by kernel_rfl
    have ho2 : FloatKind.f64.format.order 9218868437227405312 0 = some .gt := by kernel_rfl
    go_enter Tryd.func17, Tryd.ntmps17
    go_wp2
    go_ret
    exact ⟨rfl, rfl⟩
  by_cases h1 : b = 9223372036854775808
  · subst h1
    have hq : ∀ t w, (binOp .quo t (.float .f64 4607182418800017408) (.float .f64 9223372036854775808)).run Tryd.prog w = .ok (.float .f64 18442240474082181120) w := fun t w => run_float_arith w .quo t .f64 _ _ _ (by kernel_rfl)
    have ho1 : FloatKind.f64.format.order 9223372036854775808 0 = some .eq := by kernel_rfl
    have ho2 : FloatKind.f64.format.order 18442240474082181120 0 = some .lt := by kernel_rfl
    go_enter Tryd.func17, Tryd.ntmps17
    go_wp2
    go_ret
    exact ⟨rfl, rfl⟩
  have hne : (FloatKind.f64.format.order b 0 == some .eq) = false := Fl.order_ne_zero b hb h0 h1
  have hr := Fl.right_gt b hb h0
  have HR := Lib.hid hr
  clear hr
  cases hg : FloatKind.f64.format.order b 0 == some .gt
  all_goals
    go_enter Tryd.func17, Tryd.ntmps17
    go_wp2
    go_ret
    exact ⟨ret_bool (HR.out.symm.trans hg).symm, rfl⟩
end Go.Proofs.YtdnilgpbfabafaaDoor
