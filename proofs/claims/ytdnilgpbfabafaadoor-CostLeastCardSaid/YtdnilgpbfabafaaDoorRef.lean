/- What the document's own answers on costs give: each a contract over any world. -/
import Derived.Test.YtdnilgpbfabafaaDoorCost
import Derived.Deep.QuietTactic
import Derived.BigQuiet
namespace Go.Proofs.YtdnilgpbfabafaaDoor
open Go.RowKit

/-! ### The document's own answers -/
theorem alike_same (b : Nat) (hb : b ≤ 9218868437227405312) (w : World) : Calls Tryd.prog 19 #[.float .f64 b, .float .f64 b] w fun e w' => e = .returned (.bool true) ∧ w' = w := by
  have ho : FloatKind.f64.format.order b b = some .eq := by
    show Ieee.double.order b b = some .eq
    rw [Fl.order_le b b hb hb]; simp
  go_enter Tryd.func19, Tryd.ntmps19
  go_wp2
  go_ret
  exact ⟨rfl, rfl⟩
/-- A word that is no number's. -/
def isNan (b : Nat) : Prop := Fl.inf < b % 9223372036854775808
theorem order_nan (a b : Nat) (h : isNan a) : Ieee.double.order a b = none := by
  unfold isNan at h
  have : ∃ s f, Ieee.double.read a = .nan s f := by
    unfold Ieee.Format.read
    have h2 : a % Ieee.double.signWeight = a % 9223372036854775808 := by rw [Fl.sign_eq]
    simp only [h2, Fl.binade_eq, Fl.infRung_eq]
    rw [if_neg (by unfold Fl.bin; unfold Fl.inf at h; omega), if_neg (by omega), if_neg (by omega)]
    exact ⟨_, _, rfl⟩
  obtain ⟨s, f, e⟩ := this
  unfold Ieee.Format.order; rw [e]; rfl
theorem alike_nan (a b : Nat) (h1 : isNan a) (h2 : isNan b) (w : World) : Calls Tryd.prog 19 #[.float .f64 a, .float .f64 b] w fun e w' => e = .returned (.bool true) ∧ w' = w := by
  have o1 : ∀ c, FloatKind.f64.format.order a c = none := fun c => order_nan a c h1
  have o2 : ∀ c, FloatKind.f64.format.order b c = none := fun c => order_nan b c h2
  clear h1 h2
  go_enter Tryd.func19, Tryd.ntmps19
  go_wp2
  go_ret
  exact ⟨rfl, rfl⟩

theorem ref_endless_yes (w : World) : Calls Tryd.prog 29 #[.float .f64 9218868437227405312] w fun e w' => e = .returned (.bool true) ∧ w' = w := by
  have h1 : FloatKind.f64.format.order 9218868437227405312 0 = some .gt := by kernel_rfl
  have h2 : FloatKind.f64.format.order 9218868437227405312 9218868437227405312 = some .eq := by kernel_rfl
  have h3 : ∀ t w, (binOp .mul t (.float .f64 4611686018427387904) (.float .f64 9218868437227405312)).run Tryd.prog w = .ok (.float .f64 9218868437227405312) w := fun t w =>
    run_float_arith w .mul t .f64 _ _ _ (by kernel_rfl)
  go_enter Tryd.func29, Tryd.ntmps29
  go_wp2
  go_ret
  exact ⟨rfl, rfl⟩
theorem ref_endless_no (b : Nat) (hb : b < 9218868437227405312) (w : World) : Calls Tryd.prog 29 #[.float .f64 b] w fun e w' => e = .returned (.bool false) ∧ w' = w := by
  rcases Nat.eq_zero_or_pos b with rfl | h0
  · have h1 : FloatKind.f64.format.order 0 0 = some .eq := by kernel_rfl
    go_enter Tryd.func29, Tryd.ntmps29
    go_wp2
    go_ret
    exact ⟨rfl, rfl⟩
  · have h1 : FloatKind.f64.format.order b 0 = some .gt := by
      show Ieee.double.order b 0 = some .gt
      rw [Fl.order_le b 0 (by unfold Fl.inf; omega) (by decide), Nat.compare_eq_gt.2 h0]
    obtain ⟨c, hc, hcl, hne⟩ := Fl.double_fin b hb h0
    have h2 : (FloatKind.f64.format.order b c == some .eq) = false := by
      show (Ieee.double.order b c == some .eq) = false
      rw [Fl.order_le b c (by unfold Fl.inf; omega) hcl]
      rcases Nat.lt_trichotomy b c with h | h | h
      · rw [Nat.compare_eq_lt.2 h]; rfl
      · exact absurd h hne
      · rw [Nat.compare_eq_gt.2 h]; rfl
    have h3 : ∀ t w, (binOp .mul t (.float .f64 4611686018427387904) (.float .f64 b)).run Tryd.prog w = .ok (.float .f64 c) w := fun t w =>
      run_float_arith w .mul t .f64 _ _ _ hc
    clear hc hcl hne hb h0
    go_enter Tryd.func29, Tryd.ntmps29
    go_wp2
    go_ret
    exact ⟨rfl, rfl⟩

end Go.Proofs.YtdnilgpbfabafaaDoor
