/- What the statements' own X makes: a word, whichever. -/
import Derived.Test.YtdnilgpbfabafaaDoorDoc
import Derived.Laws.FloatBits
namespace Go.Proofs.YtdnilgpbfabafaaDoor
open Go.RowKit

theorem read_minus (f : Nat) (h : f < Fl.inf) : Ieee.double.read (f + 9223372036854775808) = .number true (Fl.mag f) (-1074 + Fl.up f) := by
  have e1 : (f + 9223372036854775808) / Ieee.double.signWeight % 2 = 1 := by rw [Fl.sign_eq]; unfold Fl.inf at h; omega
  have e2 : (f + 9223372036854775808) % Ieee.double.signWeight = f := by rw [Fl.sign_eq]; unfold Fl.inf at h; omega
  unfold Ieee.Format.read
  simp only [e1, e2, Fl.binade_eq, Fl.infRung_eq, Fl.least_eq, Fl.mag, Fl.up]
  by_cases hb : f < Fl.bin
  · simp [hb]
  · simp [hb, h]
/-- A rounded number is a number, or endless. -/
theorem read_nearest (s : Bool) (m : Nat) (p : Int) : (∃ mm e, Ieee.double.read (Ieee.double.nearest s m p) = .number s mm e) ∨ Ieee.double.read (Ieee.double.nearest s m p) = .infinity s := by
  have key : ∃ r, r ≤ Fl.inf ∧ Ieee.double.nearest s m p = Ieee.double.word s r := by
    unfold Ieee.Format.nearest
    split
    · exact ⟨0, Nat.zero_le _, rfl⟩
    · refine ⟨_, ?_, rfl⟩
      rw [Fl.infRung_eq]; exact Nat.min_le_right _ _
  obtain ⟨r, hr, e⟩ := key
  rw [e]
  cases s
  · rw [Fl.word_false]
    rcases Nat.lt_or_ge r Fl.inf with h | h
    · exact .inl ⟨_, _, Fl.read_eq r h⟩
    · obtain rfl : r = Fl.inf := by omega
      exact .inr Fl.read_inf
  · have hw : Ieee.double.word true r = r + 9223372036854775808 := by
      show Ieee.double.signWeight + r = _
      rw [Fl.sign_eq, Nat.add_comm]
    rw [hw]
    rcases Nat.lt_or_ge r Fl.inf with h | h
    · exact .inl ⟨_, _, read_minus r h⟩
    · obtain rfl : r = Fl.inf := by omega
      exact .inr (by decide)
theorem mul_some (s : Bool) (m : Nat) (p : Int) (c : Nat) (cm : Nat) (ce : Int) (hc : Ieee.double.read c = .number false cm ce) (h0 : cm ≠ 0) : ∃ r, r < 18446744073709551616 ∧ Ieee.double.mul (Ieee.double.nearest s m p) c = some r := by
  have h : ∃ r, Ieee.double.mul (Ieee.double.nearest s m p) c = some r := by
    unfold Ieee.Format.mul
    rw [hc]
    rcases read_nearest s m p with ⟨mm, e, h⟩ | h
    · rw [h]; exact ⟨_, rfl⟩
    · rw [h]; simp [Ieee.Datum.product, h0]
  obtain ⟨r, hr⟩ := h
  exact ⟨r, Ieee.double.mul_lt hr, hr⟩
theorem div_some (s : Bool) (m : Nat) (p : Int) (c : Nat) (cm : Nat) (ce : Int) (hc : Ieee.double.read c = .number false cm ce) (h0 : cm ≠ 0) : ∃ r, r < 18446744073709551616 ∧ Ieee.double.div (Ieee.double.nearest s m p) c = some r := by
  have h : ∃ r, Ieee.double.div (Ieee.double.nearest s m p) c = some r := by
    unfold Ieee.Format.div
    rw [hc]
    rcases read_nearest s m p with ⟨mm, e, h⟩ | h
    · rw [h]; simp [Ieee.Datum.quotient, h0]
    · rw [h]; exact ⟨_, rfl⟩
  obtain ⟨r, hr⟩ := h
  exact ⟨r, Ieee.double.div_lt hr, hr⟩

def XPost (w : World) (e : Ending) (w' : World) : Prop := ∃ b, e = .returned (.float .f64 b) ∧ b < 18446744073709551616 ∧ Below w.heap.size w w'
set_option maxHeartbeats 1000000 in
theorem x_any (a how : Int) (x : Nat) (hx : x < 18446744073709551616) (w : World) : Calls Tryd.prog 14 #[.int .i64 a, .int .i64 how, .float .f64 x] w (XPost w) := by
  have h0 := Int.emod_nonneg how (show (9 : Int) ≠ 0 by omega)
  have h1 := Int.emod_lt_of_pos how (show 0 < (9 : Int) by omega)
  have a0 := Int.emod_nonneg a (show (9 : Int) ≠ 0 by omega)
  have a1 := Int.emod_lt_of_pos a (show 0 < (9 : Int) by omega)
  have c0 := Int.emod_nonneg a (show (401 : Int) ≠ 0 by omega)
  have c1 := Int.emod_lt_of_pos a (show 0 < (401 : Int) by omega)
  generalize hq : how % 9 = q at *
  have HQ := Lib.hid hq
  clear hq
  have hcase : q = 0 ∨ q = 1 ∨ q = 2 ∨ q = 3 ∨ q = 4 ∨ q = 5 ∨ 6 ≤ q := by omega
  rcases hcase with rfl | rfl | rfl | rfl | rfl | rfl | h6
  · go_enter Tryd.func14, Tryd.ntmps14
    go_wp2_with (go_at_call 8; refine (within_any how 9 (by omega) (by omega) _).mono ?_; rw [HQ.out]; rintro e w' ⟨rfl, rfl⟩)
    go_ret
    exact ⟨x, rfl, hx, Below.refl _ _⟩
  · obtain ⟨nn, hnn, hn3⟩ : ∃ nn, (∀ t, (binOp .quo t (.float .f64 0) (.float .f64 0)).run Tryd.prog w = .ok (.float .f64 nn) w.drew) ∧ nn < 18446744073709551616 :=
      ⟨nanOf w 0 0, fun t => quo_none_run t 0 0 (by kernel_rfl) w, (nanOf_nan w 0 0).1⟩
    go_enter Tryd.func14, Tryd.ntmps14
    go_wp2_with (go_at_call 8; refine (within_any how 9 (by omega) (by omega) _).mono ?_; rw [HQ.out]; rintro e w' ⟨rfl, rfl⟩)
    go_ret
    exact ⟨nn, rfl, hn3, (Below.refl _ _).drew⟩
  · have hd : ∀ t w, (binOp .quo t (.float .f64 4607182418800017408) (.float .f64 0)).run Tryd.prog w = .ok (.float .f64 9218868437227405312) w := fun t w => run_float_arith w .quo t .f64 _ _ _ (by kernel_rfl)
    go_enter Tryd.func14, Tryd.ntmps14
    go_wp2_with (go_at_call 8; refine (within_any how 9 (by omega) (by omega) _).mono ?_; rw [HQ.out]; rintro e w' ⟨rfl, rfl⟩)
    go_ret
    exact ⟨_, rfl, by omega, Below.refl _ _⟩
  · have hd : ∀ t w, (binOp .quo t (.float .f64 13830554455654793216) (.float .f64 0)).run Tryd.prog w = .ok (.float .f64 18442240474082181120) w := fun t w => run_float_arith w .quo t .f64 _ _ _ (by kernel_rfl)
    go_enter Tryd.func14, Tryd.ntmps14
    go_wp2_with (go_at_call 8; refine (within_any how 9 (by omega) (by omega) _).mono ?_; rw [HQ.out]; rintro e w' ⟨rfl, rfl⟩)
    go_ret
    exact ⟨_, rfl, by omega, Below.refl _ _⟩
  · obtain ⟨n, hn⟩ : ∃ n : Nat, 1 + a % 9 = n := ⟨(1 + a % 9).toNat, by omega⟩
    have hcv : ∀ w, (convert 3 24 (.int .i64 (n : Int))).run Tryd.prog w = .ok (.float .f64 (Fl.ofNat n)) w := fun w => by
      rw [run_convert_int_float w 3 24 .i64 .f64 n (by kernel_rfl) Tryd.underlying24, ofInt_nat]
    have hF := Fl.ofNat_lt n (by omega)
    have hF0 := Fl.ofNat_pos n (by omega) (by omega)
    have hd := Fl.div_minus _ hF hF0
    have hqq : ∀ t w, (binOp .quo t (.float .f64 0) (.float .f64 (Fl.ofNat n + 9223372036854775808))).run Tryd.prog w = .ok (.float .f64 9223372036854775808) w := fun t w => run_float_arith w .quo t .f64 _ _ _ hd
    have hng := neg_run (Fl.ofNat n) (by unfold Fl.inf at hF; omega)
    generalize Fl.ofNat n = F at *
    clear hd hF hF0
    go_enter Tryd.func14, Tryd.ntmps14
    go_wp2_with fail
    refine (within_any how 9 (by omega) (by omega) _).mono ?_
    rw [HQ.out]
    rintro e w' ⟨rfl, rfl⟩
    go_wp2_with fail
    refine (within_any a 9 (by omega) (by omega) _).mono ?_
    rintro e w' ⟨rfl, rfl⟩
    go_wp2
    go_ret
    exact ⟨_, rfl, by omega, Below.refl _ _⟩
  · obtain ⟨r, hr, hm⟩ := mul_some (decide (a < 0)) a.natAbs 0 4771362005757984768 6553600000000000 (-16) (by decide) (by decide)
    have hmm : ∀ t w, (binOp .mul t (.float .f64 (floatOfInt .f64 a)) (.float .f64 4771362005757984768)).run Tryd.prog w = .ok (.float .f64 r) w := fun t w => run_float_arith w .mul t .f64 _ _ _ hm
    clear hm
    go_enter Tryd.func14, Tryd.ntmps14
    go_wp2_with (go_at_call 8; refine (within_any how 9 (by omega) (by omega) _).mono ?_; rw [HQ.out]; rintro e w' ⟨rfl, rfl⟩)
    go_ret
    exact ⟨r, rfl, hr, Below.refl _ _⟩
  · have n0 : (q == 0) = false := by simp; omega
    have n1 : (q == 1) = false := by simp; omega
    have n2 : (q == 2) = false := by simp; omega
    have n3 : (q == 3) = false := by simp; omega
    have n4 : (q == 4) = false := by simp; omega
    have n5 : (q == 5) = false := by simp; omega
    obtain ⟨r, hr, hm⟩ := div_some (decide (a % 401 - 10 < 0)) (a % 401 - 10).natAbs 0 4616189618054758400 4503599627370496 (-50) (by decide) (by decide)
    have hmm : ∀ t w, (binOp .quo t (.float .f64 (floatOfInt .f64 (a % 401 - 10))) (.float .f64 4616189618054758400)).run Tryd.prog w = .ok (.float .f64 r) w := fun t w => run_float_arith w .quo t .f64 _ _ _ hm
    clear hm
    go_enter Tryd.func14, Tryd.ntmps14
    go_wp2_with fail
    refine (within_any how 9 (by omega) (by omega) _).mono ?_
    rw [HQ.out]
    rintro e w' ⟨rfl, rfl⟩
    go_wp2_with fail
    refine (within_any a 401 (by omega) (by omega) _).mono ?_
    rintro e w' ⟨rfl, rfl⟩
    go_wp2
    go_ret
    exact ⟨r, rfl, hr, Below.refl _ _⟩
end Go.Proofs.YtdnilgpbfabafaaDoor
