/- Plain facts of double words: which are costs, their order, sums, whole numbers, ten times, whole parts. No program, no model. -/
import Ieee.Arith
namespace Go.Proofs.YtejjdfmobiegdaaDoor.Fl
open Ieee

/-- The rung of infinity of a double. -/
def inf : Nat := 9218868437227405312
def bin : Nat := 4503599627370496
theorem infRung_eq : double.infRung = inf := by decide
theorem binade_eq : double.binade = bin := by decide
theorem least_eq : double.leastPlace = -1074 := by decide
theorem sign_eq : double.signWeight = 9223372036854775808 := by decide

/-- The value of a rung in units of 2^-1074. -/
def V (r : Nat) : Nat := if r < bin then r else (bin + r % bin) * 2 ^ (r / bin - 1)

/-- The parts of a rung. -/
def mag (r : Nat) : Nat := if r < bin then r else bin + r % bin
def up (r : Nat) : Nat := if r < bin then 0 else r / bin - 1
theorem V_eq (r : Nat) : V r = mag r * 2 ^ up r := by
  unfold V mag up; split <;> simp

theorem read_eq (r : Nat) (h : r < inf) : double.read r = .number false (mag r) (-1074 + up r) := by
  have h1 : r / double.signWeight % 2 = 0 := by rw [sign_eq]; unfold inf at h; omega
  have h2 : r % double.signWeight = r := by rw [sign_eq]; unfold inf at h; omega
  unfold Format.read
  simp only [h1, h2, binade_eq, infRung_eq, least_eq, mag, up]
  by_cases hb : r < bin
  · simp [hb]
  · simp [hb, h]

theorem read_inf : double.read inf = .infinity false := by decide

theorem V_lt (a b : Nat) (h : a < b) : V a < V b := by
  unfold V
  by_cases ha : a < bin
  · by_cases hb : b < bin
    · simp [ha, hb, h]
    · simp only [ha, hb, if_true, if_false]
      have : 1 ≤ 2 ^ (b / bin - 1) := Nat.one_le_two_pow
      calc a < bin := ha
        _ ≤ (bin + b % bin) * 1 := by omega
        _ ≤ _ := Nat.mul_le_mul_left _ this
  · have hb : ¬ b < bin := by omega
    simp only [ha, hb, if_false]
    have hbp : 0 < bin := by decide
    have hda : 1 ≤ a / bin := (Nat.le_div_iff_mul_le hbp).2 (by omega)
    have hdiv : a / bin ≤ b / bin := Nat.div_le_div_right (by omega)
    rcases Nat.lt_or_ge (a / bin) (b / bin) with hlt | hge
    · have h1 : bin + a % bin < 2 * bin := by have := Nat.mod_lt a hbp; omega
      obtain ⟨k, hk⟩ : ∃ k, b / bin - 1 = (a / bin - 1) + 1 + k := ⟨b / bin - 1 - (a / bin - 1) - 1, by omega⟩
      rw [hk, Nat.pow_add, Nat.pow_add]
      have hp : 0 < 2 ^ (a / bin - 1) := Nat.two_pow_pos _
      have hk1 : 1 ≤ 2 ^ k := Nat.one_le_two_pow
      calc (bin + a % bin) * 2 ^ (a / bin - 1) < (2 * bin) * 2 ^ (a / bin - 1) := Nat.mul_lt_mul_of_pos_right h1 hp
        _ = bin * (2 ^ (a / bin - 1) * 2 ^ 1 * 1) := by rw [Nat.pow_one, Nat.mul_one]; ac_rfl
        _ ≤ (bin + b % bin) * (2 ^ (a / bin - 1) * 2 ^ 1 * 2 ^ k) := Nat.mul_le_mul (by omega) (Nat.mul_le_mul_left _ hk1)
    · have he : a / bin = b / bin := by omega
      have hm : a % bin < b % bin := by
        have h1 := Nat.div_add_mod a bin
        have h2 := Nat.div_add_mod b bin
        rw [he] at h1; omega
      rw [he]
      exact Nat.mul_lt_mul_of_pos_right (by omega) (Nat.two_pow_pos _)

theorem V_inj (a b : Nat) (h : V a = V b) : a = b := by
  rcases Nat.lt_trichotomy a b with h1 | h1 | h1
  · have := V_lt a b h1; omega
  · exact h1
  · have := V_lt b a h1; omega

theorem signed_false (m k : Nat) : signed false m k = ((m * 2 ^ k : Nat) : Int) := by
  simp [signed, Nat.shiftLeft_eq]

/-- The order of words that are costs is the order of the words. -/
theorem order_fin (a b : Nat) (ha : a < inf) (hb : b < inf) : double.order a b = some (compare a b) := by
  unfold Format.order
  rw [read_eq a ha, read_eq b hb]
  simp only [Datum.order, signed_false]
  congr 1
  generalize hbase : min (-1074 + (up a : Int)) (-1074 + (up b : Int)) = base
  have e1 : (-1074 + (up a : Int) - base).toNat = up a - min (up a) (up b) := by omega
  have e2 : (-1074 + (up b : Int) - base).toNat = up b - min (up a) (up b) := by omega
  rw [e1, e2]
  have hp : 0 < 2 ^ min (up a) (up b) := Nat.two_pow_pos _
  have v1 : V a = mag a * 2 ^ (up a - min (up a) (up b)) * 2 ^ min (up a) (up b) := by
    rw [V_eq, Nat.mul_assoc, ← Nat.pow_add]; congr 2; omega
  have v2 : V b = mag b * 2 ^ (up b - min (up a) (up b)) * 2 ^ min (up a) (up b) := by
    rw [V_eq, Nat.mul_assoc, ← Nat.pow_add]; congr 2; omega
  generalize mag a * 2 ^ (up a - min (up a) (up b)) = x at *
  generalize mag b * 2 ^ (up b - min (up a) (up b)) = y at *
  generalize 2 ^ min (up a) (up b) = t at *
  have key : compare x y = compare a b := by
    rcases Nat.lt_trichotomy a b with h | h | h
    · have := V_lt a b h
      rw [v1, v2] at this
      have hxy : x < y := Nat.lt_of_mul_lt_mul_right this
      rw [Nat.compare_eq_lt.2 h, Nat.compare_eq_lt.2 hxy]
    · subst h
      have : x = y := Nat.eq_of_mul_eq_mul_right hp (v1.symm.trans v2)
      rw [this]; simp
    · have := V_lt b a h
      rw [v1, v2] at this
      have hxy : y < x := Nat.lt_of_mul_lt_mul_right this
      rw [Nat.compare_eq_gt.2 h, Nat.compare_eq_gt.2 hxy]
  rw [← key]
  simp only [compare, compareOfLessAndEq, Int.ofNat_lt, Int.ofNat_inj]

theorem order_inf_right (a : Nat) (ha : a < inf) : double.order a inf = some .lt := by
  unfold Format.order; rw [read_eq a ha, read_inf]; rfl
theorem order_inf_left (b : Nat) (hb : b < inf) : double.order inf b = some .gt := by
  unfold Format.order; rw [read_eq b hb, read_inf]; rfl
theorem order_inf : double.order inf inf = some .eq := by decide

/-- THE ORDER OF COSTS IS THAT OF THEIR WORDS. -/
theorem order_le (a b : Nat) (ha : a ≤ inf) (hb : b ≤ inf) : double.order a b = some (compare a b) := by
  rcases Nat.lt_or_ge a inf with h1 | h1 <;> rcases Nat.lt_or_ge b inf with h2 | h2
  · exact order_fin a b h1 h2
  · obtain rfl : b = inf := by omega
    rw [order_inf_right a h1, Nat.compare_eq_lt.2 h1]
  · obtain rfl : a = inf := by omega
    rw [order_inf_left b h2, Nat.compare_eq_gt.2 h2]
  · obtain rfl : a = inf := by omega
    obtain rfl : b = inf := by omega
    rw [order_inf]; simp

/-! ### Rounding -/
theorem word_false (n : Nat) : double.word false n = n := rfl

theorem cut_even_nought (s : Bool) (n : Nat) : Toward.even.cut s n 0 = n := by
  simp [Toward.cut, Nat.mod_one]

theorem cut_even_shift (s : Bool) (n d k : Nat) (hn : 0 < n) : Toward.even.cut s (n * 2 ^ k) (d + k) = Toward.even.cut s n d := by
  have hl : (n * 2 ^ k).log2 = n.log2 + k := by
    have h1 := (Nat.log2_eq_iff (n := n) (k := n.log2) (by omega)).1 rfl
    refine (Nat.log2_eq_iff (Nat.mul_ne_zero (by omega) (Nat.pos_iff_ne_zero.1 (Nat.two_pow_pos k)))).2 ⟨?_, ?_⟩
    · rw [Nat.pow_add]; exact Nat.mul_le_mul_right _ h1.1
    · have : n.log2 + k + 1 = (n.log2 + 1) + k := by omega
      rw [this, Nat.pow_add]; exact Nat.mul_lt_mul_of_pos_right h1.2 (Nat.two_pow_pos k)
  have hm : min (d + k) ((n * 2 ^ k).log2 + 2) = min d (n.log2 + 2) + k := by rw [hl]; omega
  have hp : 0 < 2 ^ k := Nat.two_pow_pos k
  unfold Toward.cut
  simp only [hm, Nat.shiftLeft_eq, Nat.one_mul]
  rw [Nat.pow_add]
  generalize 2 ^ min d (n.log2 + 2) = g
  rw [Nat.mul_div_mul_right _ _ hp, Nat.mul_mod_mul_right]
  have e1 : (g * 2 ^ k < 2 * (n % g * 2 ^ k)) = (g < 2 * (n % g)) := by
    rw [← Nat.mul_assoc]; exact propext (Nat.mul_lt_mul_right hp)
  have e2 : (g * 2 ^ k == 2 * (n % g * 2 ^ k)) = (g == 2 * (n % g)) := by
    rw [← Nat.mul_assoc]
    rw [Bool.eq_iff_iff, beq_iff_eq, beq_iff_eq]
    exact ⟨fun h => Nat.eq_of_mul_eq_mul_right hp h, fun h => congrArg (· * 2 ^ k) h⟩
  simp only [e1, e2]

theorem cut_even_exact (s : Bool) (n k d : Nat) (hn : 0 < n) (hd : d ≤ k) : Toward.even.cut s (n * 2 ^ k) d = n * 2 ^ (k - d) := by
  have := cut_even_shift s (n * 2 ^ (k - d)) 0 d (Nat.mul_pos hn (Nat.two_pow_pos _))
  rw [cut_even_nought, Nat.mul_assoc, ← Nat.pow_add, Nat.zero_add, show k - d + d = k by omega] at this
  exact this

theorem log2_shift (n k : Nat) (hn : 0 < n) : (n * 2 ^ k).log2 = n.log2 + k := by
  have h1 := (Nat.log2_eq_iff (n := n) (k := n.log2) (by omega)).1 rfl
  refine (Nat.log2_eq_iff (Nat.mul_ne_zero (by omega) (Nat.pos_iff_ne_zero.1 (Nat.two_pow_pos k)))).2 ⟨?_, ?_⟩
  · rw [Nat.pow_add]; exact Nat.mul_le_mul_right _ h1.1
  · have : n.log2 + k + 1 = (n.log2 + 1) + k := by omega
    rw [this, Nat.pow_add]; exact Nat.mul_lt_mul_of_pos_right h1.2 (Nat.two_pow_pos k)

/-- A number written with noughts behind it rounds as it does without. -/
theorem nearest_shift (s : Bool) (n k : Nat) (p : Int) : double.nearest s (n * 2 ^ k) p = double.nearest s n (p + k) := by
  rcases Nat.eq_zero_or_pos n with rfl | hn
  · simp [Format.nearest]
  have h0 : n * 2 ^ k ≠ 0 := Nat.pos_iff_ne_zero.1 (Nat.mul_pos hn (Nat.two_pow_pos k))
  have h0' : n ≠ 0 := by omega
  unfold Format.nearest
  rw [if_neg h0, if_neg h0', log2_shift n k hn]
  have hlast : max (p + ((n.log2 + k : Nat) : Int) - (double.fractionBits : Int)) double.leastPlace = max (p + k + (n.log2 : Int) - (double.fractionBits : Int)) double.leastPlace := by
    congr 1; push_cast; omega
  simp only [hlast]
  generalize max (p + k + (n.log2 : Int) - (double.fractionBits : Int)) double.leastPlace = last
  have hcut : Toward.even.cut s ((n * 2 ^ k) <<< (p - last).toNat) (last - p).toNat = Toward.even.cut s (n <<< (p + k - last).toNat) (last - (p + k)).toNat := by
    simp only [Nat.shiftLeft_eq]
    rcases Int.le_total last p with h | h
    · have a1 : (last - p).toNat = 0 := by omega
      have a2 : (last - (p + k)).toNat = 0 := by omega
      have a3 : (p + k - last).toNat = (p - last).toNat + k := by omega
      rw [a1, a2, a3, cut_even_nought, cut_even_nought, Nat.mul_assoc, ← Nat.pow_add, Nat.add_comm k]
    · have a1 : (p - last).toNat = 0 := by omega
      rw [a1, Nat.pow_zero, Nat.mul_one]
      rcases Int.le_total last (p + k) with h2 | h2
      · have a2 : (last - (p + k)).toNat = 0 := by omega
        rw [a2, cut_even_nought, cut_even_exact s n k _ hn (by omega)]
        congr 2; omega
      · have a2 : (p + k - last).toNat = 0 := by omega
        have a3 : (last - p).toNat = (last - (p + k)).toNat + k := by omega
        rw [a2, a3, cut_even_shift s n _ k hn, Nat.pow_zero, Nat.mul_one]
  rw [hcut]

/-- Rounding of a number of units of 2^-1074. -/
def R (v : Nat) : Nat := double.nearest false v (-1074)
theorem R_le (v : Nat) : R v ≤ inf := by
  unfold R Format.nearest
  split
  · rw [word_false]; exact Nat.zero_le _
  · rw [word_false, infRung_eq]; exact Nat.min_le_right _ _

theorem nearest_units (n : Nat) (p : Nat) : double.nearest false n (-1074 + p) = R (n * 2 ^ p) := (nearest_shift false n p (-1074)).symm

theorem nearest_word (r : Nat) (h : r < inf + bin) : double.nearest false (mag r) (-1074 + up r) = min r inf := by
  unfold mag up
  by_cases hb : r < bin
  · simp only [hb, if_true]
    unfold Format.nearest
    split
    · rename_i h0; subst h0; rfl
    · rename_i h0
      have hl : r.log2 < 52 := (Nat.log2_lt h0).2 hb
      have hlast : max ((-1074 : Int) + ((0 : Nat) : Int) + (r.log2 : Int) - (double.fractionBits : Int)) double.leastPlace = -1074 := by
        rw [least_eq]; show max (_ - (52 : Int)) _ = _; omega
      rw [hlast, least_eq, word_false, infRung_eq]
      have e0 : ((-1074 : Int) - -1074).toNat = 0 := by decide
      have e1 : ((-1074 : Int) + ((0 : Nat) : Int) - -1074).toNat = 0 := by decide
      have e2 : ((-1074 : Int) - (-1074 + ((0 : Nat) : Int))).toNat = 0 := by decide
      rw [e0, e1, e2, cut_even_nought, Nat.shiftLeft_zero, Nat.zero_mul, Nat.zero_add]
  · simp only [hb, if_false]
    have hbp : 0 < bin := by decide
    have hm := Nat.mod_lt r hbp
    have hda : 1 ≤ r / bin := (Nat.le_div_iff_mul_le hbp).2 (by omega)
    unfold Format.nearest
    rw [if_neg (by omega)]
    have hl : (bin + r % bin).log2 = 52 := (Nat.log2_eq_iff (by omega)).2 ⟨by unfold bin; omega, by unfold bin at hm ⊢; omega⟩
    have hlast : max ((-1074 : Int) + ((r / bin - 1 : Nat) : Int) + ((bin + r % bin).log2 : Int) - (double.fractionBits : Int)) double.leastPlace = -1074 + ((r / bin - 1 : Nat) : Int) := by
      rw [hl, least_eq]; show max (_ - (52 : Int)) _ = _; omega
    rw [hlast, least_eq, word_false, infRung_eq, binade_eq]
    have hd := Nat.div_add_mod r bin
    have e1 : (-1074 + ((r / bin - 1 : Nat) : Int) - -1074).toNat = r / bin - 1 := by omega
    rw [e1, Int.sub_self, Int.toNat_zero, cut_even_nought, Nat.shiftLeft_zero]
    congr 1
    rw [Nat.sub_mul, Nat.one_mul]
    have h3 : bin * 1 ≤ bin * (r / bin) := Nat.mul_le_mul_left _ hda
    rw [Nat.mul_comm (r / bin) bin]
    omega

/-- A number that there is, rounded, is itself. -/
theorem R_V (r : Nat) (h : r < inf) : R (V r) = r := by
  rw [V_eq, ← nearest_units, nearest_word r (by omega)]; omega

theorem write_units (m p : Nat) : double.write (.number false m (-1074 + p)) = R (m * 2 ^ p) := nearest_units m p

/-- A SUM OF TWO COSTS is that of their units, rounded. -/
theorem add_fin (a b : Nat) (ha : a < inf) (hb : b < inf) : double.add a b = some (R (V a + V b)) := by
  unfold Format.add
  rw [read_eq a ha, read_eq b hb]
  simp only [Datum.sum, signed_false, Option.map_some]
  congr 1
  generalize hbase : min (-1074 + (up a : Int)) (-1074 + (up b : Int)) = base
  have e1 : (-1074 + (up a : Int) - base).toNat = up a - min (up a) (up b) := by omega
  have e2 : (-1074 + (up b : Int) - base).toNat = up b - min (up a) (up b) := by omega
  have e3 : base = -1074 + (min (up a) (up b) : Nat) := by omega
  rw [e1, e2, e3]
  have v1 : V a = mag a * 2 ^ (up a - min (up a) (up b)) * 2 ^ min (up a) (up b) := by
    rw [V_eq, Nat.mul_assoc, ← Nat.pow_add]; congr 2; omega
  have v2 : V b = mag b * 2 ^ (up b - min (up a) (up b)) * 2 ^ min (up a) (up b) := by
    rw [V_eq, Nat.mul_assoc, ← Nat.pow_add]; congr 2; omega
  rw [v1, v2, ← Nat.add_mul]
  generalize mag a * 2 ^ (up a - min (up a) (up b)) = x
  generalize mag b * 2 ^ (up b - min (up a) (up b)) = y
  have e4 : ((x : Int) + (y : Int)) = ((x + y : Nat) : Int) := by omega
  rw [e4]
  have e5 : (if ((x + y : Nat) : Int) = 0 then (false && false) else decide (((x + y : Nat) : Int) < 0)) = false := by
    split
    · rfl
    · simp; omega
  rw [e5, Int.natAbs_natCast, write_units]

theorem add_inf_left (b : Nat) (hb : b ≤ inf) : double.add inf b = some inf := by
  rcases Nat.lt_or_ge b inf with h | h
  · unfold Format.add; rw [read_inf, read_eq b h]; rfl
  · obtain rfl : b = inf := by omega
    decide
theorem add_inf_right (a : Nat) (ha : a ≤ inf) : double.add a inf = some inf := by
  rcases Nat.lt_or_ge a inf with h | h
  · unfold Format.add; rw [read_inf, read_eq a h]; rfl
  · obtain rfl : a = inf := by omega
    decide

/-- The sum of two costs is a cost. -/
def plus (a b : Nat) : Nat := if a < inf ∧ b < inf then R (V a + V b) else inf
theorem plus_le (a b : Nat) : plus a b ≤ inf := by
  by_cases h : a < inf ∧ b < inf
  · unfold plus; rw [if_pos h]; exact R_le _
  · unfold plus; rw [if_neg h]; exact Nat.le_refl _
theorem add_le (a b : Nat) (ha : a ≤ inf) (hb : b ≤ inf) : double.add a b = some (plus a b) := by
  unfold plus
  split
  · rename_i h; exact add_fin a b h.1 h.2
  · rename_i h
    rcases Nat.lt_or_ge a inf with h1 | h1
    · obtain rfl : b = inf := by omega
      exact add_inf_right a ha
    · obtain rfl : a = inf := by omega
      exact add_inf_left b hb

/-- There is a number of so many units. -/
theorem exists_rung (m k : Nat) (hm : m < 2 ^ 53) (hk : k ≤ 1990) : ∃ r, r < inf ∧ V r = m * 2 ^ k := by
  rcases Nat.eq_zero_or_pos m with rfl | h0
  · exact ⟨0, by decide, by rw [Nat.zero_mul]; rfl⟩
  have hl := (Nat.log2_eq_iff (n := m) (k := m.log2) (by omega)).1 rfl
  have hl2 : m.log2 < 53 := (Nat.log2_lt (by omega)).2 hm
  have hb52 : bin = 2 ^ 52 := by decide
  rcases Nat.lt_or_ge (k + m.log2) 52 with h | h
  · have hlt : m * 2 ^ k < bin := by
      have : m * 2 ^ k < 2 ^ (m.log2 + 1) * 2 ^ k := Nat.mul_lt_mul_of_pos_right hl.2 (Nat.two_pow_pos k)
      rw [← Nat.pow_add] at this
      rw [hb52]
      exact Nat.lt_of_lt_of_le this (Nat.pow_le_pow_right (by decide) (by omega))
    exact ⟨m * 2 ^ k, by unfold bin at hlt; unfold inf; omega, by simp [V, hlt]⟩
  · -- normal
    have hs1 : bin ≤ m * 2 ^ (52 - m.log2) := by
      rw [hb52]
      have := Nat.mul_le_mul_right (2 ^ (52 - m.log2)) hl.1
      rw [← Nat.pow_add, show m.log2 + (52 - m.log2) = 52 by omega] at this
      exact this
    have hs2 : m * 2 ^ (52 - m.log2) < 2 * bin := by
      have := Nat.mul_lt_mul_of_pos_right hl.2 (Nat.two_pow_pos (52 - m.log2))
      rw [← Nat.pow_add, show m.log2 + 1 + (52 - m.log2) = 52 + 1 by omega] at this
      rw [hb52, ← Nat.pow_succ']; exact this
    generalize hs : m * 2 ^ (52 - m.log2) = s at hs1 hs2
    have hbp : 0 < bin := by decide
    refine ⟨(k + m.log2 - 52 + 1) * bin + (s - bin), ?_, ?_⟩
    · have : (k + m.log2 - 52 + 1) * bin ≤ 2000 * bin := Nat.mul_le_mul_right _ (by omega)
      unfold bin at *; unfold inf; omega
    · have hd : ((k + m.log2 - 52 + 1) * bin + (s - bin)) / bin = k + m.log2 - 52 + 1 := by
        rw [Nat.add_comm, Nat.add_mul_div_right _ _ hbp, Nat.div_eq_of_lt (by omega)]; omega
      have hmo : ((k + m.log2 - 52 + 1) * bin + (s - bin)) % bin = s - bin := by
        rw [Nat.add_comm, Nat.add_mul_mod_self_right, Nat.mod_eq_of_lt (by omega)]
      have hge : ¬ (k + m.log2 - 52 + 1) * bin + (s - bin) < bin := by
        have : 1 * bin ≤ (k + m.log2 - 52 + 1) * bin := Nat.mul_le_mul_right _ (by omega)
        omega
      unfold V
      rw [if_neg hge, hd, hmo, show bin + (s - bin) = s by omega, ← hs, Nat.mul_assoc, ← Nat.pow_add]
      rw [show 52 - m.log2 + (k + m.log2 - 52 + 1 - 1) = k by omega]

/-- A whole number as a float. -/
def ofNat (n : Nat) : Nat := double.nearest false n 0
theorem ofNat_R (n : Nat) : ofNat n = R (n * 2 ^ 1074) := by
  exact (congrArg (double.nearest false n) (show (0 : Int) = -1074 + ((1074 : Nat) : Int) by decide)).trans (nearest_units n 1074)
theorem R_units (m k : Nat) (hm : m < 2 ^ 53) (hk : k ≤ 1990) : R (m * 2 ^ k) < inf ∧ V (R (m * 2 ^ k)) = m * 2 ^ k := by
  obtain ⟨r, h1, h2⟩ := exists_rung m k hm hk
  rw [← h2, R_V r h1]; exact ⟨h1, rfl⟩
theorem ofNat_lt (n : Nat) (h : n < 2 ^ 53) : ofNat n < inf := by rw [ofNat_R]; exact (R_units n 1074 h (by omega)).1
theorem V_ofNat (n : Nat) (h : n < 2 ^ 53) : V (ofNat n) = n * 2 ^ 1074 := by rw [ofNat_R]; exact (R_units n 1074 h (by omega)).2
theorem ofNat_le_iff (a b : Nat) (ha : a < 2 ^ 53) (hb : b < 2 ^ 53) : ofNat a < ofNat b ↔ a < b := by
  have h1 := V_ofNat a ha
  have h2 := V_ofNat b hb
  constructor
  · intro h
    have := V_lt _ _ h
    rw [h1, h2] at this
    exact Nat.lt_of_mul_lt_mul_right this
  · intro h
    rcases Nat.lt_trichotomy (ofNat a) (ofNat b) with hh | hh | hh
    · exact hh
    · rw [hh, h2] at h1
      have := Nat.eq_of_mul_eq_mul_right (Nat.two_pow_pos 1074) h1
      omega
    · have := V_lt _ _ hh
      rw [h1, h2] at this
      have := Nat.lt_of_mul_lt_mul_right this
      omega
theorem plus_ofNat (a b : Nat) (h : a + b < 2 ^ 53) : plus (ofNat a) (ofNat b) = ofNat (a + b) := by
  unfold plus
  rw [if_pos ⟨ofNat_lt a (by omega), ofNat_lt b (by omega)⟩, V_ofNat a (by omega), V_ofNat b (by omega), ← Nat.add_mul, ← ofNat_R]

/-! ### What is a cost -/
theorem read_nan (b : Nat) (h1 : inf < b) (h2 : b < 9223372036854775808) : double.read b = .nan false (b - inf) := by
  have e1 : b / double.signWeight % 2 = 0 := by rw [sign_eq]; omega
  have e2 : b % double.signWeight = b := by rw [sign_eq]; omega
  unfold Format.read
  simp only [e1, e2, binade_eq, infRung_eq]
  rw [if_neg (by unfold bin; unfold inf at h1; omega), if_neg (by omega), if_neg (by omega)]
  rfl

theorem order_nan_left (b c : Nat) (h1 : inf < b) (h2 : b < 9223372036854775808) : double.order b c = none := by
  unfold Format.order; rw [read_nan b h1 h2]; rfl

/-- Is the word a cost's? -/
def right (b : Nat) : Bool := decide (b ≤ inf)

theorem right_code (b : Nat) (hb : b < 2 ^ 64) : ((double.order b 0 == some .gt || double.order b 0 == some .eq) && !(b / 9223372036854775808 == 1)) = right b := by
  unfold right
  rcases Nat.lt_or_ge inf b with h | h
  · rw [decide_eq_false (by omega)]
    rcases Nat.lt_or_ge b 9223372036854775808 with h2 | h2
    · rw [order_nan_left b 0 h h2]; rfl
    · have : b / 9223372036854775808 = 1 := by omega
      rw [this]; simp
  · rw [decide_eq_true h, order_le b 0 h (by decide)]
    have : b / 9223372036854775808 = 0 := by unfold inf at h; omega
    rw [this]
    rcases Nat.eq_zero_or_pos b with rfl | h0
    · rfl
    · rw [Nat.compare_eq_gt.2 h0]; rfl

theorem order_neg (b : Nat) (h1 : 9223372036854775808 < b) (h2 : b < 2 ^ 64) : double.order b 0 = some .lt ∨ double.order b 0 = none := by
  have e1 : b / double.signWeight % 2 = 1 := by rw [sign_eq]; omega
  have e2 : b % double.signWeight = b - 9223372036854775808 := by rw [sign_eq]; omega
  have h0 : double.read 0 = .number false 0 (-1074) := by decide
  have hlt : ∀ m k, 0 < m → Datum.order (.number true m (-1074 + (k : Nat))) (.number false 0 (-1074)) = some .lt := by
    intro m k hm
    simp only [Datum.order]
    have : min (-1074 + (k : Int)) (-1074) = -1074 := by omega
    rw [this]
    simp only [signed, if_true, Nat.shiftLeft_eq]
    have hp : 0 < m * 2 ^ (-1074 + (k : Int) - -1074).toNat := Nat.mul_pos hm (Nat.two_pow_pos _)
    generalize m * 2 ^ (-1074 + (k : Int) - -1074).toNat = q at *
    congr 1
    simp only [compare, compareOfLessAndEq]
    rw [if_pos (by simp; omega)]
  unfold Format.order
  rw [h0]
  unfold Format.read
  simp only [e1, e2, binade_eq, infRung_eq, least_eq]
  by_cases c1 : b - 9223372036854775808 < bin
  · rw [if_pos c1]
    left
    have := hlt (b - 9223372036854775808) 0 (by omega)
    simpa using this
  · rw [if_neg c1]
    by_cases c2 : b - 9223372036854775808 < inf
    · rw [if_pos c2]; left
      exact hlt _ _ (by unfold bin; omega)
    · rw [if_neg c2]
      by_cases c3 : b - 9223372036854775808 = inf
      · rw [if_pos c3]; left; rfl
      · rw [if_neg c3]; right; rfl

theorem order_ne_zero (b : Nat) (hb : b < 2 ^ 64) (h0 : b ≠ 0) (h1 : b ≠ 9223372036854775808) : (double.order b 0 == some .eq) = false := by
  rcases Nat.lt_or_ge inf b with h | h
  · rcases Nat.lt_or_ge b 9223372036854775808 with h2 | h2
    · rw [order_nan_left b 0 h h2]; rfl
    · rcases order_neg b (by omega) hb with e | e <;> rw [e] <;> rfl
  · rw [order_le b 0 h (by decide), Nat.compare_eq_gt.2 (by omega)]; rfl
theorem right_gt (b : Nat) (hb : b < 2 ^ 64) (h0 : b ≠ 0) : (double.order b 0 == some .gt) = right b := by
  unfold right
  rcases Nat.lt_or_ge inf b with h | h
  · rw [decide_eq_false (by omega)]
    rcases Nat.lt_or_ge b 9223372036854775808 with h2 | h2
    · rw [order_nan_left b 0 h h2]; rfl
    · rcases Nat.eq_or_lt_of_le h2 with h3 | h3
      · rw [← h3]; decide
      · rcases order_neg b h3 hb with e | e <;> rw [e] <;> rfl
  · rw [decide_eq_true h, order_le b 0 h (by decide), Nat.compare_eq_gt.2 (by omega)]; rfl

/-! ### Whole parts -/
theorem cut_zero (s : Bool) (n d : Nat) : Toward.zero.cut s n d = n / 2 ^ d := by
  unfold Toward.cut
  simp only [Nat.shiftLeft_eq, Nat.one_mul, Bool.toNat_false, Nat.add_zero]
  rcases Nat.le_total d (n.log2 + 2) with h | h
  · rw [Nat.min_eq_left h]
  · rw [Nat.min_eq_right h]
    have h1 : n < 2 ^ (n.log2 + 1) := Nat.lt_log2_self
    have h2 : n < 2 ^ (n.log2 + 2) := Nat.lt_of_lt_of_le h1 (Nat.pow_le_pow_right (by decide) (by omega))
    have h3 : n < 2 ^ d := Nat.lt_of_lt_of_le h2 (Nat.pow_le_pow_right (by decide) h)
    rw [Nat.div_eq_of_lt h2, Nat.div_eq_of_lt h3]

theorem toInt_fin (r : Nat) (h : r < inf) : (double.read r).toInt .zero = some ((V r / 2 ^ 1074 : Nat) : Int) := by
  rw [read_eq r h, V_eq]
  unfold Datum.toInt
  simp only [Datum.integral, signed_false, Nat.pow_zero, Nat.mul_one, cut_zero, Nat.shiftLeft_eq]
  congr 2
  rcases Nat.le_total (up r) 1074 with hu | hu
  · have e1 : (-1074 + (up r : Int)).toNat = 0 := by omega
    have e2 : (-(-1074 + (up r : Int))).toNat = 1074 - up r := by omega
    rw [e1, e2, Nat.pow_zero, Nat.mul_one]
    have : (2 : Nat) ^ 1074 = 2 ^ (1074 - up r) * 2 ^ up r := by rw [← Nat.pow_add]; congr 1; omega
    rw [this]
    exact (Nat.mul_div_mul_right _ _ (Nat.two_pow_pos _)).symm
  · have e1 : (-1074 + (up r : Int)).toNat = up r - 1074 := by omega
    have e2 : (-(-1074 + (up r : Int))).toNat = 0 := by omega
    rw [e1, e2, Nat.pow_zero, Nat.div_one]
    have : (2 : Nat) ^ up r = 2 ^ (up r - 1074) * 2 ^ 1074 := (congrArg (fun t => 2 ^ t) (by omega : up r = up r - 1074 + 1074)).trans (Nat.pow_add 2 _ _)
    have hp : 0 < 2 ^ 1074 := Nat.two_pow_pos 1074
    revert this hp
    generalize (2 : Nat) ^ 1074 = t
    intro this hp
    rw [this, ← Nat.mul_assoc]
    exact (Nat.mul_div_cancel _ hp).symm

/-! ### Ten times -/
def ten : Nat := 4621819117588971520
theorem read_ten : double.read ten = .number false 5629499534213120 (-49) := by decide
/-- Ten times a cost: of its units, rounded. -/
theorem mul_ten (r : Nat) (h : r < inf) : double.mul r ten = some (R (V r * 10)) := by
  unfold Format.mul
  rw [read_eq r h, read_ten]
  simp only [Datum.product, Option.map_some, bne_self_eq_false]
  congr 1
  have e1 : mag r * 5629499534213120 = (mag r * 10) * 2 ^ 49 := by omega
  rw [e1]
  show double.nearest _ _ _ = _
  rw [nearest_shift, show (-1074 + (up r : Int) + -49 + ((49 : Nat) : Int)) = -1074 + up r by omega]
  rw [V_eq, show mag r * 2 ^ up r * 10 = mag r * 10 * 2 ^ up r by ac_rfl, ← nearest_units]

/-! ### Quotients -/
theorem nearest_le (m : Nat) (p : Int) : double.nearest false m p ≤ inf := by
  unfold Format.nearest
  split
  · rw [word_false]; exact Nat.zero_le _
  · rw [word_false, infRung_eq]; exact Nat.min_le_right _ _
theorem mag_pos (b : Nat) (h : 0 < b) : mag b ≠ 0 := by
  unfold mag
  have : 0 < bin := by decide
  split <;> omega
theorem div_fin (a b : Nat) (ha : a < inf) (hb : b < inf) (h0 : 0 < b) : ∃ c, c ≤ inf ∧ double.div a b = some c := by
  unfold Format.div
  rw [read_eq a ha, read_eq b hb]
  simp only [Datum.quotient]
  rw [if_neg (mag_pos b h0)]
  exact ⟨_, nearest_le _ _, rfl⟩
theorem div_nought (a : Nat) (ha : a < inf) (h0 : 0 < a) : double.div a 0 = some inf := by
  unfold Format.div
  have hz : double.read 0 = .number false 0 (-1074) := by decide
  rw [read_eq a ha, hz]
  simp only [Datum.quotient]
  rw [if_pos trivial, if_neg (mag_pos a h0)]
  decide
theorem ofNat_zero : ofNat 0 = 0 := by decide
theorem ofNat_pos (n : Nat) (h : 0 < n) (hn : n < 2 ^ 53) : 0 < ofNat n := by
  have := (ofNat_le_iff 0 n (by decide) hn).2 h
  rw [ofNat_zero] at this; exact this

/-! ### Sums and the least, of lists -/
def nan : Nat := 9221120237041090561
/-- The sum of costs so far. -/
def total (l : List Nat) : Nat := l.foldl plus 0
theorem total_snoc (l : List Nat) (x : Nat) : total (l ++ [x]) = plus (total l) x := by simp [total, List.foldl_append]
theorem total_le (l : List Nat) : total l ≤ inf := by
  rcases List.eq_nil_or_concat l with rfl | ⟨t, x, rfl⟩
  · decide
  · rw [List.concat_eq_append, total_snoc]; exact plus_le _ _
/-- The least so far: its place, itself (-1 and endless: none). -/
def pick (l : List Nat) : Int × Nat := (l.zipIdx).foldl (fun a x => if right x.1 && decide (x.1 < a.2) then ((x.2 : Int), x.1) else a) (-1, inf)
theorem pick_snoc (l : List Nat) (x : Nat) : pick (l ++ [x]) = if right x && decide (x < (pick l).2) then ((l.length : Int), x) else pick l := by
  simp [pick, List.zipIdx_append, List.foldl_append]
theorem pick_le (l : List Nat) : (pick l).2 ≤ inf := by
  unfold pick
  generalize l.zipIdx = z
  have : ∀ (z : List (Nat × Nat)) (a : Int × Nat), a.2 ≤ inf → (z.foldl (fun a x => if right x.1 && decide (x.1 < a.2) then ((x.2 : Int), x.1) else a) a).2 ≤ inf := by
    intro z
    induction z with
    | nil => intro a h; exact h
    | cons x z ih =>
      intro a h
      rw [List.foldl_cons]
      refine ih _ ?_
      split
      · rename_i hc; simp [right] at hc; omega
      · exact h
  exact this z _ (Nat.le_refl _)

/-! ### Tenths -/
theorem V_le (a b : Nat) (h : a ≤ b) : V a ≤ V b := by
  rcases Nat.eq_or_lt_of_le h with rfl | h
  · exact Nat.le_refl _
  · exact Nat.le_of_lt (V_lt a b h)
theorem V_round (d : Nat) : V ((d + 2) * bin) = 2 ^ (d + 53) := by
  have hbp : 0 < bin := by decide
  unfold V
  rw [if_neg (by have := Nat.mul_le_mul_right bin (show 1 ≤ d + 2 by omega); omega), Nat.mul_div_cancel _ hbp, Nat.mul_mod_left]
  rw [show bin + 0 = 2 ^ 52 by decide, ← Nat.pow_add]
  congr 1; omega
theorem cut_even_le (s : Bool) (n d k : Nat) (h : n < 2 ^ (d + k)) : Toward.even.cut s n d ≤ 2 ^ k := by
  unfold Toward.cut
  simp only [Nat.shiftLeft_eq, Nat.one_mul]
  have hlo : n / 2 ^ min d (n.log2 + 2) < 2 ^ k := by
    rcases Nat.le_total d (n.log2 + 2) with h1 | h1
    · rw [Nat.min_eq_left h1]
      rw [Nat.pow_add] at h
      exact Nat.div_lt_of_lt_mul h
    · rw [Nat.min_eq_right h1]
      have h2 : n < 2 ^ (n.log2 + 1) := Nat.lt_log2_self
      have h3 : n < 2 ^ (n.log2 + 2) := Nat.lt_of_lt_of_le h2 (Nat.pow_le_pow_right (by decide) (by omega))
      rw [Nat.div_eq_of_lt h3]; exact Nat.two_pow_pos _
  generalize n / 2 ^ min d (n.log2 + 2) = x at *
  have : ∀ b : Bool, b.toNat ≤ 1 := by decide
  exact Nat.le_trans (Nat.add_le_add_left (this _) _) hlo
/-- What is rounded passes no power of two. -/
theorem V_R_le (v L : Nat) (hv : v < 2 ^ L) (hL : 53 ≤ L) : V (R v) ≤ 2 ^ L := by
  rcases Nat.eq_zero_or_pos v with rfl | h0
  · have : V (R 0) = 0 := by decide
    rw [this]; exact Nat.zero_le _
  have hl := (Nat.log2_eq_iff (n := v) (k := v.log2) (by omega)).1 rfl
  have hlL : v.log2 < L := (Nat.log2_lt (by omega)).2 hv
  have hr : R v ≤ (v.log2 - 52 + 2) * bin := by
    unfold R Format.nearest
    rw [if_neg (by omega), word_false]
    refine Nat.le_trans (Nat.min_le_left _ _) ?_
    have hlast : max ((-1074 : Int) + (v.log2 : Int) - (double.fractionBits : Int)) double.leastPlace = -1074 + ((v.log2 - 52 : Nat) : Int) := by
      rw [least_eq]; show max (_ - (52 : Int)) _ = _; omega
    rw [hlast, least_eq, binade_eq]
    have e1 : (-1074 + ((v.log2 - 52 : Nat) : Int) - -1074).toNat = v.log2 - 52 := by omega
    have e2 : (-1074 - (-1074 + ((v.log2 - 52 : Nat) : Int))).toNat = 0 := by omega
    rw [e1, e2, Nat.shiftLeft_zero]
    have : Toward.even.cut false v (v.log2 - 52) ≤ 2 ^ 53 := cut_even_le _ _ _ _ (Nat.lt_of_lt_of_le hl.2 (Nat.pow_le_pow_right (by decide) (by omega)))
    have h2 : (2 : Nat) ^ 53 = 2 * bin := by decide
    rw [Nat.add_mul, ← h2]
    exact Nat.add_le_add_left this _
  refine Nat.le_trans (V_le _ _ hr) ?_
  rw [V_round]
  exact Nat.pow_le_pow_right (by decide) (by omega)

/-- A cost's tenths, rounded down (as the float's product has them). -/
def tenths (b : Nat) : Nat := V (R (V b * 10)) / 2 ^ 1074
def far : Nat := 4816244402031689728
theorem far_eq : far = ofNat 100000000000000 := by decide
theorem ten_lt (v t : Nat) (h : v < 100000000000000 * t) : v * 10 < 2 ^ 50 * t := by omega
theorem pow_parts (a b c : Nat) (h : c = a + b) : (2 : Nat) ^ c = 2 ^ a * 2 ^ b := by rw [h, Nat.pow_add]
theorem le_of_parts (v a t : Nat) (h : v ≤ a * t) : v / t ≤ a := Nat.div_le_of_le_mul (by rw [Nat.mul_comm]; exact h)
theorem pow_lt_round (L d : Nat) (h : L < d + 53) : 2 ^ L < V ((d + 2) * bin) := by
  rw [V_round]; exact Nat.pow_lt_pow_right (by decide) h
theorem V_inf (L : Nat) (h : L < 2098) : 2 ^ L < V inf := by
  have h8 : inf = (2045 + 2) * bin := by decide
  rw [h8]; exact pow_lt_round L 2045 h
theorem lt_inf_of_V (r L : Nat) (h : V r ≤ 2 ^ L) (hL : L < 2098) : r < inf := by
  rcases Nat.lt_or_ge r inf with h6 | h6
  · exact h6
  · exact absurd (Nat.lt_of_lt_of_le (V_inf L hL) (V_le _ _ h6)) (Nat.not_lt.2 h)
theorem tenths_le (b : Nat) (h : b < far) : tenths b ≤ 2 ^ 50 ∧ R (V b * 10) < inf := by
  have h1 := V_lt b far h
  rw [far_eq, V_ofNat _ (by decide)] at h1
  have h2 := ten_lt _ _ h1
  have h4 := pow_parts 50 1074 1124 (by decide)
  rw [← h4] at h2
  have h5 := V_R_le _ 1124 h2 (by decide)
  refine ⟨?_, lt_inf_of_V _ _ h5 (by decide)⟩
  rw [h4] at h5
  exact le_of_parts _ _ _ h5
theorem toInt_tenths (b : Nat) (h : b < far) : (double.read (R (V b * 10))).toInt .zero = some ((tenths b : Nat) : Int) :=
  toInt_fin _ (tenths_le b h).2
theorem getD_at (l : List Nat) (k : Nat) (hk : k < l.length) : l.getD k 0 = l[k] := by simp [List.getD, hk]
/-- The sum of any words, as Sum tells it. -/
def sumW (l : List Nat) : Nat := if l.all right then total l else nan
theorem sumW_yes (l : List Nat) (h : l.all right = true) : sumW l = total l := if_pos h
theorem sumW_no (l : List Nat) (k : Nat) (hk : k < l.length) (h : right (l.getD k 0) = false) : sumW l = nan := by
  refine if_neg fun ha => ?_
  rw [List.all_eq_true] at ha
  have : l.getD k 0 ∈ l := by rw [getD_at _ _ hk]; exact List.getElem_mem hk
  rw [ha _ this] at h; cases h
theorem take_snoc (l : List Nat) (k : Nat) (hk : k < l.length) : l.take (k + 1) = l.take k ++ [l.getD k 0] := by
  rw [List.take_succ_eq_append_getElem hk, getD_at _ _ hk]
theorem all_snoc (l : List Nat) (k : Nat) (hk : k < l.length) (h : (l.take k).all right = true) (hr : right (l.getD k 0) = true) : (l.take (k + 1)).all right = true := by
  rw [take_snoc l k hk, List.all_append, h]; simpa using hr
theorem right_le {b : Nat} (h : right b = true) : b ≤ inf := of_decide_eq_true h
theorem mem_getD (l : List Nat) (k : Nat) (hk : k < l.length) : l.getD k 0 ∈ l := by rw [getD_at _ _ hk]; exact List.getElem_mem hk
/-- One round of Least, by its two tests. -/
theorem pick_step (l : List Nat) (k : Nat) (hk : k < l.length) : pick (l.take (k + 1)) = if right (l.getD k 0) && decide (l.getD k 0 < (pick (l.take k)).2) then ((k : Int), l.getD k 0) else pick (l.take k) := by
  rw [take_snoc l k hk, pick_snoc, List.length_take, Nat.min_eq_left (by omega)]
theorem order_lt (a b : Nat) (ha : a ≤ inf) (hb : b ≤ inf) : (double.order a b == some .lt) = decide (a < b) := by
  rw [order_le a b ha hb]
  rcases Nat.lt_trichotomy a b with h | h | h
  · rw [Nat.compare_eq_lt.2 h, decide_eq_true h]; rfl
  · subst h; simp
  · rw [Nat.compare_eq_gt.2 h, decide_eq_false (by omega)]; rfl
/-- Twice a cost that is neither nought nor endless is another. -/
theorem double_fin (r : Nat) (h : r < inf) (h0 : 0 < r) : ∃ c, double.mul 4611686018427387904 r = some c ∧ c ≤ inf ∧ r ≠ c := by
  have h2 : double.read 4611686018427387904 = .number false 4503599627370496 (-51) := by decide
  have hv : double.mul 4611686018427387904 r = some (R (V r * 2)) := by
    unfold Format.mul
    rw [read_eq r h, h2]
    simp only [Datum.product, Option.map_some, bne_self_eq_false]
    congr 1
    have e1 : 4503599627370496 * mag r = (mag r * 2) * 2 ^ 51 := by omega
    rw [e1]
    show double.nearest _ _ _ = _
    rw [nearest_shift, show (-51 + (-1074 + (up r : Int)) + ((51 : Nat) : Int)) = -1074 + up r by omega]
    rw [V_eq, show mag r * 2 ^ up r * 2 = mag r * 2 * 2 ^ up r by ac_rfl, ← nearest_units]
  refine ⟨_, hv, R_le _, ?_⟩
  have hbp : 0 < bin := by decide
  by_cases hb : r < bin
  · -- twice a small one is a word twice as great
    have h3 : V (2 * r) = V r * 2 := by
      unfold V
      rw [if_pos hb]
      by_cases hb2 : 2 * r < bin
      · rw [if_pos hb2]; omega
      · rw [if_neg hb2]
        have d1 : 2 * r / bin = 1 := Nat.div_eq_of_lt_le (by omega) (by omega)
        have d2 : 2 * r % bin = 2 * r - bin := by rw [Nat.mod_eq_sub_mod (by omega), Nat.mod_eq_of_lt (by omega)]
        rw [d1, d2]; omega
    rw [← h3, R_V _ (by unfold bin at hb; unfold inf; omega)]
    omega
  · have h4 : R (V r * 2) = min (r + bin) inf := by
      have m1 : mag (r + bin) = mag r := by
        unfold mag; rw [if_neg hb, if_neg (by omega), Nat.add_mod_right]
      have u1 : up (r + bin) = up r + 1 := by
        unfold up; rw [if_neg hb, if_neg (by omega), Nat.add_div_right _ hbp]
        have : 1 ≤ r / bin := (Nat.le_div_iff_mul_le hbp).2 (by omega)
        omega
      rw [← nearest_word (r + bin) (by omega), m1, u1, nearest_units, V_eq, Nat.pow_succ, Nat.mul_assoc]
    rw [h4]
    rcases Nat.le_total (r + bin) inf with h5 | h5
    · rw [Nat.min_eq_left h5]; omega
    · rw [Nat.min_eq_right h5]; omega
theorem div_minus (f : Nat) (h : f < inf) (h0 : 0 < f) : double.div 0 (f + 9223372036854775808) = some 9223372036854775808 := by
  have hz : double.read 0 = .number false 0 (-1074) := by decide
  have hr : double.read (f + 9223372036854775808) = .number true (mag f) (-1074 + up f) := by
    have e1 : (f + 9223372036854775808) / double.signWeight % 2 = 1 := by rw [sign_eq]; unfold inf at h; omega
    have e2 : (f + 9223372036854775808) % double.signWeight = f := by rw [sign_eq]; unfold inf at h; omega
    unfold Format.read
    simp only [e1, e2, binade_eq, infRung_eq, least_eq, mag, up]
    by_cases hb : f < bin
    · simp [hb]
    · simp [hb, h]
  unfold Format.div
  rw [hz, hr]
  simp only [Datum.quotient]
  rw [if_neg (mag_pos f h0)]
  simp only [Nat.zero_shiftLeft, Nat.zero_div, Nat.zero_mod, Option.map_some]
  congr 1
theorem div_zero_pos (f : Nat) (h : f < inf) (h0 : 0 < f) : double.div 0 f = some 0 := by
  have hz : double.read 0 = .number false 0 (-1074) := by decide
  unfold Format.div
  rw [hz, read_eq f h]
  simp only [Datum.quotient]
  rw [if_neg (mag_pos f h0)]
  simp only [Nat.zero_shiftLeft, Nat.zero_div, Nat.zero_mod, Option.map_some]
  congr 1
theorem same_parts : ∀ n : Fin 1001, 0 < n.val → double.div (ofNat n.val) (ofNat n.val) = some 4607182418800017408 := by decide +kernel
theorem three_fourths : ∀ n : Fin 1001, 0 < n.val → double.div (ofNat (3 * n.val)) (ofNat (4 * n.val)) = some 4604930618986332160 := by decide +kernel
end Go.Proofs.YtejjdfmobiegdaaDoor.Fl
