/- Halves and quarters of whole numbers, as double words: the quotient, its tenths, its sum. No program, no model. -/
import Derived.Test.YtdlfhagpcalecaaDoorFloat
namespace Go.Proofs.YtdlfhagpcalecaaDoor.Fl
open Ieee

/-! ### Halves and quarters -/
theorem mag_log2 (r : Nat) (h : bin ≤ r) : (mag r).log2 = 52 ∧ mag r ≠ 0 := by
  unfold mag
  rw [if_neg (by omega)]
  have hm := Nat.mod_lt r (show 0 < bin by decide)
  exact ⟨(Nat.log2_eq_iff (by unfold bin; omega)).2 ⟨by unfold bin; omega, by unfold bin at hm ⊢; omega⟩, by unfold bin; omega⟩
theorem two_words : ∀ m : Fin 3, double.read (ofNat (2 ^ m.val)) = .number false 4503599627370496 (m.val - 52) := by decide +kernel
theorem div_two (n m : Nat) (hn : n < 2 ^ 53) (hm : m < 3) : double.div (ofNat n) (ofNat (2 ^ m)) = some (R (n * 2 ^ (1074 - m))) := by
  rcases Nat.eq_zero_or_pos n with rfl | h0
  · have h1 := ofNat_pos (2 ^ m) (Nat.two_pow_pos m) (Nat.pow_lt_pow_right (by decide) (by omega))
    have h2 := ofNat_lt (2 ^ m) (Nat.pow_lt_pow_right (by decide) (by omega))
    rw [ofNat_zero, div_zero_pos _ h2 h1, Nat.zero_mul]; rfl
  have hr := ofNat_lt n hn
  have hv := V_ofNat n hn
  have hbig : up (ofNat n) ≥ 3 ∧ bin ≤ ofNat n := by
    have h1 : ofNat 1 ≤ ofNat n := by
      rcases Nat.eq_or_lt_of_le h0 with h | h
      · rw [← h]; exact Nat.le_refl _
      · exact Nat.le_of_lt ((ofNat_le_iff 1 n (by decide) hn).2 h)
    have h2 : ofNat 1 = 4607182418800017408 := by decide +kernel
    rw [h2] at h1
    generalize ofNat n = r at *
    have hb : bin ≤ r := by unfold bin; omega
    refine ⟨?_, hb⟩
    unfold up
    rw [if_neg (by omega)]
    have : 4 ≤ r / bin := (Nat.le_div_iff_mul_le (by decide)).2 (by unfold bin; omega)
    omega
  rw [V_eq] at hv
  obtain ⟨hup, hb⟩ := hbig
  obtain ⟨hl, h00⟩ := mag_log2 _ hb
  unfold Format.div
  rw [two_words ⟨m, hm⟩, read_eq _ hr]
  generalize ofNat n = r at *
  simp only [Datum.quotient]
  rw [if_neg (by decide)]
  have hmore : double.fractionBits + 2 + Nat.log2 4503599627370496 - (mag r).log2 = 54 := by rw [hl]; decide
  rw [hmore]
  have e1 : mag r <<< 54 / 4503599627370496 = mag r * 4 := by rw [Nat.shiftLeft_eq]; omega
  have e2 : mag r <<< 54 % 4503599627370496 = 0 := by rw [Nat.shiftLeft_eq]; omega
  rw [e1, e2]
  have e3 : 2 * (mag r * 4) + ((0 : Nat) != 0).toNat = mag r * 2 ^ 3 := by simp; omega
  rw [e3]
  show some (double.nearest (false ^^ false) (mag r * 2 ^ 3) _) = _
  rw [nearest_shift]
  have e4 : (-1074 + (up r : Int) - (m - 52 : Int) - ((54 : Nat) : Int) - 1 + ((3 : Nat) : Int)) = -1074 + ((up r - m : Nat) : Int) := by omega
  have e5 : mag r * 2 ^ (up r - m) = n * 2 ^ (1074 - m) := by
    have q1 := pow_parts (up r - m) m (up r) (by omega)
    have q2 := pow_parts (1074 - m) m 1074 (by omega)
    rw [q1, q2, ← Nat.mul_assoc, ← Nat.mul_assoc] at hv
    exact Nat.eq_of_mul_eq_mul_right (Nat.two_pow_pos m) hv
  rw [e4, ← e5, ← nearest_units]
  rfl
/-- What a half, a quarter is, and its tenths. -/
theorem part_units (n m : Nat) (hn : n < 2 ^ 40) (hm : m < 3) : R (n * 2 ^ (1074 - m)) < inf ∧ V (R (n * 2 ^ (1074 - m))) = n * 2 ^ (1074 - m) :=
  R_units n (1074 - m) (Nat.lt_of_lt_of_le hn (Nat.pow_le_pow_right (by decide) (by omega))) (by omega)
theorem part_tenths (n m : Nat) (hn : n < 2 ^ 40) (hm : m < 3) : tenths (R (n * 2 ^ (1074 - m))) = n * 10 / 2 ^ m := by
  unfold tenths
  rw [(part_units n m hn hm).2, show n * 2 ^ (1074 - m) * 10 = n * 10 * 2 ^ (1074 - m) by ac_rfl, (R_units (n * 10) (1074 - m) (by omega) (by omega)).2]
  rw [pow_parts (1074 - m) m 1074 (by omega), Nat.mul_comm (2 ^ (1074 - m)) (2 ^ m)]
  exact Nat.mul_div_mul_right _ _ (Nat.two_pow_pos _)
theorem pow_le (a b : Nat) (h : a ≤ b) : 2 ^ a ≤ 2 ^ b := Nat.pow_le_pow_right (by decide) h
theorem part_near (n m : Nat) (hn : n < 2 ^ 40) (hm : m < 3) : R (n * 2 ^ (1074 - m)) < far := by
  rcases Nat.lt_or_ge (R (n * 2 ^ (1074 - m))) far with h | h
  · exact h
  · have h1 := V_le _ _ h
    rw [far_eq, V_ofNat _ (by decide), (part_units n m hn hm).2] at h1
    have h2 : n * 2 ^ (1074 - m) ≤ n * 2 ^ 1074 := Nat.mul_le_mul_left _ (pow_le (1074 - m) 1074 (by omega))
    have h3 := Nat.le_of_mul_le_mul_right (Nat.le_trans h1 h2) (Nat.two_pow_pos 1074)
    omega
theorem plus_part (a b k : Nat) (ha : a < 2 ^ 50) (hb : b < 2 ^ 50) (hk : k ≤ 1990) : plus (R (a * 2 ^ k)) (R (b * 2 ^ k)) = R ((a + b) * 2 ^ k) := by
  obtain ⟨a1, a2⟩ := R_units a k (by omega) hk
  obtain ⟨b1, b2⟩ := R_units b k (by omega) hk
  unfold plus
  rw [if_pos ⟨a1, b1⟩, a2, b2, ← Nat.add_mul]
theorem four_core (n m P T : Nat) (hT : T = P * 2 ^ m) (hm : m < 3) : 4 * n * P = 4 * n / 2 ^ m * T := by
  have h4 : 4 * n = 4 * n / 2 ^ m * 2 ^ m := by
    have : m = 0 ∨ m = 1 ∨ m = 2 := by omega
    rcases this with rfl | rfl | rfl <;> omega
  rw [hT, Nat.mul_comm P, ← Nat.mul_assoc, ← h4]
theorem part_four (n m : Nat) (hn : n < 2 ^ 40) (hm : m < 3) (x : Nat) (hx : x = R (n * 2 ^ (1074 - m))) : sumW [x, x, x, x] = ofNat (4 * n / 2 ^ m) := by
  have hr : right x = true := decide_eq_true (by rw [hx]; exact R_le _)
  rw [sumW_yes _ (by simp [hr])]
  have h0 : (0 : Nat) = R (0 * 2 ^ (1074 - m)) := by rw [Nat.zero_mul]; rfl
  have e : total [x, x, x, x] = R (4 * n * 2 ^ (1074 - m)) := by
    show plus (plus (plus (plus 0 x) x) x) x = _
    rw [hx, h0, plus_part _ _ _ (by decide) (by omega) (by omega), plus_part _ _ _ (by omega) (by omega) (by omega), plus_part _ _ _ (by omega) (by omega) (by omega), plus_part _ _ _ (by omega) (by omega) (by omega)]
    congr 2; omega
  rw [e, ofNat_R]
  exact congrArg R (four_core n m (2 ^ (1074 - m)) _ (pow_parts (1074 - m) m 1074 (by omega)) hm)
end Go.Proofs.YtdlfhagpcalecaaDoor.Fl
