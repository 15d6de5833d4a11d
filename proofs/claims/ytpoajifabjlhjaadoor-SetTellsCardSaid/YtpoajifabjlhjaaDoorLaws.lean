/- SetLaws, walked. -/
import Derived.Test.YtpoajifabjlhjaaDoorFacts
namespace Go.Proofs.YtpoajifabjlhjaaDoor
open Go.RowKit
set_option maxHeartbeats 400000 in
theorem within_any (n m : Int) (hm0 : 1 ≤ m) (hm : m ≤ 1000000) (w : World) :
    Calls Tryd.prog 7 #[.int .i64 n, .int .i64 m] w fun e w' => e = .returned (.int .i64 (n % m)) ∧ w' = w := by
  have h1 := Int.tmod_lt_of_pos n (show 0 < m by omega)
  have h2 : -m < n.tmod m := Int.lt_tmod_of_pos n (show 0 < m by omega)
  have h3 : (m == 0) = false := by simp; omega
  have h5 : n.tmod m = n % m ∨ n.tmod m = n % m - m := by
    rw [Int.tmod_eq_emod]; split
    · exact .inl (by omega)
    · right; omega
  have h6 := Int.emod_nonneg n (show m ≠ 0 by omega)
  have h7 := Int.emod_lt_of_pos n (show 0 < m by omega)
  by_cases hneg : n.tmod m < 0
  · have h8 : n.tmod m + m = n % m := by omega
    have H8 := Lib.hid h8
    clear h5 h6 h7 h8
    go_enter Tryd.func7, Tryd.ntmps7
    go_wp2
    go_ret
    exact ⟨ret_int H8.out, rfl⟩
  · have h8 : n.tmod m = n % m := by omega
    have H8 := Lib.hid h8
    clear h5 h6 h7 h8
    go_enter Tryd.func7, Tryd.ntmps7
    go_wp2
    go_ret
    exact ⟨ret_int H8.out, rfl⟩
theorem below_cat {a b c : World} (h : Below a.heap.size a b) (k : Below b.heap.size b c) : Below a.heap.size a c := h.trans (k.mono h.size)
theorem nat_or (x y : Int) (hx : 0 ≤ x ∧ x < 18446744073709551616) (hy : 0 ≤ y ∧ y < 18446744073709551616) : ∃ A : Nat, bits .or .u64 x y = (A : Int) ∧ A < 18446744073709551616 :=
  ⟨_, u64_or x y hx.1 hx.2 hy.1 hy.2, or_lt _ _ (by omega) (by omega)⟩
theorem nat_xor (x y : Int) (hx : 0 ≤ x ∧ x < 18446744073709551616) (hy : 0 ≤ y ∧ y < 18446744073709551616) : ∃ A : Nat, bits .xor .u64 x y = (A : Int) ∧ A < 18446744073709551616 :=
  ⟨_, u64_xor x y hx.1 hx.2 hy.1 hy.2, Nat.xor_lt_two_pow (n := 64) (by omega) (by omega)⟩
theorem laws_count (a b : Nat) : (((Pop.items (a ||| b)).length : Nat) : Int) + ((Pop.items (a &&& b)).length : Nat) = ((Pop.items a).length : Nat) + ((Pop.items b).length : Nat) := by
  have := count_or_and a b; omega
set_option maxRecDepth 100000 in
set_option maxHeartbeats 8000000 in
theorem laws_walk (x y z n : Int) (w : World) (hx : 0 ≤ x ∧ x < 4294967296) (hy : 0 ≤ y ∧ y < 4294967296) (hz : 0 ≤ z ∧ z < 4294967296) (HT : Tab w) :
    Calls Tryd.prog 5 #[.int .u32 x, .int .u32 y, .int .u32 z, .int .i64 n] w fun e w' => e = .returned (.bool true) ∧ Below w.heap.size w w' := by
  obtain ⟨a, ha, a1⟩ := nat_or x (y * 4294967296) (by omega) (by omega)
  obtain ⟨b, hb, b1⟩ := nat_xor (y * 131072) z (by omega) (by omega)
  obtain ⟨c, hc⟩ : ∃ c : Nat, z * 2147483648 = (c : Int) := ⟨(z * 2147483648).toNat, by omega⟩
  have c1 : c < 18446744073709551616 := by omega
  have HA := Lib.hid ha
  have HB := Lib.hid hb
  have HC := Lib.hid hc
  have AB := or_lt a b a1 b1
  have AC := and_lt a c a1
  have BC := and_lt b c b1
  have ABA := and_lt a b a1
  have LAB := less_lt a b a1
  have SUM := Lib.hid (laws_count a b)
  have la := Pop.items_le a
  have lb := Pop.items_le b
  have l1 := Pop.items_le (a ||| b)
  have l2 := Pop.items_le (a &&& b)
  clear ha hb hc
  go_enter Tryd.func5, Tryd.ntmps5
  go_wp2_with fail
  refine (within_any n 64 (by omega) (by omega) _).mono ?_
  rintro e w1 ⟨rfl, rfl⟩
  have n0 := Int.emod_nonneg n (show (64 : Int) ≠ 0 by omega)
  have n1 := Int.emod_lt_of_pos n (show 0 < (64 : Int) by omega)
  generalize n % 64 = m at *
  go_wp2_with fail
  rw [HA.out, HB.out, HC.out]
  clear hx hy hz HA HB HC
  refine (join_any a b a1 b1 _).mono ?_
  rintro e w2 ⟨rfl, rfl⟩
  go_wp2_with fail
  refine (join_any b a b1 a1 _).mono ?_
  rintro e w3 ⟨rfl, rfl⟩
  rw [Nat.or_comm b a]
  go_wp2_with fail
  refine (both_any a b a1 b1 _).mono ?_
  rintro e w4 ⟨rfl, rfl⟩
  go_wp2_with fail
  refine (both_any b a b1 a1 _).mono ?_
  rintro e w5 ⟨rfl, rfl⟩
  rw [Nat.and_comm b a]
  go_wp2_with fail
  refine (join_any a b a1 b1 _).mono ?_
  rintro e w6 ⟨rfl, rfl⟩
  go_wp2_with fail
  refine (both_any (a ||| b) c AB c1 _).mono ?_
  rintro e w7 ⟨rfl, rfl⟩
  go_wp2_with fail
  refine (both_any a c a1 c1 _).mono ?_
  rintro e w8 ⟨rfl, rfl⟩
  go_wp2_with fail
  refine (both_any b c b1 c1 _).mono ?_
  rintro e w9 ⟨rfl, rfl⟩
  go_wp2_with fail
  refine (join_any (a &&& c) (b &&& c) AC BC _).mono ?_
  rintro e w10 ⟨rfl, rfl⟩
  rw [← Nat.and_or_distrib_right]
  go_wp2_with fail
  refine (less_any a b a1 b1 _).mono ?_
  rintro e w11 ⟨rfl, rfl⟩
  go_wp2_with fail
  refine (both_any a b a1 b1 _).mono ?_
  rintro e w12 ⟨rfl, rfl⟩
  go_wp2_with fail
  refine (join_any (less a b) (a &&& b) LAB ABA _).mono ?_
  rintro e w13 ⟨rfl, rfl⟩
  rw [less_join_both a b a1 b1]
  go_wp2_with fail
  refine (less_any a b a1 b1 _).mono ?_
  rintro e w14 ⟨rfl, rfl⟩
  go_wp2_with fail
  refine (both_any (less a b) b LAB b1 _).mono ?_
  rintro e w15 ⟨rfl, rfl⟩
  rw [less_both a b a1 b1]
  go_wp2_with fail
  refine (of_none _).mono ?_
  rintro e w16 ⟨rfl, rfl⟩
  go_wp2_with fail
  refine (join_any a b a1 b1 _).mono ?_
  rintro e w17 ⟨rfl, rfl⟩
  go_wp2_with fail
  refine (in_yes a (a ||| b) a1 AB (less_self_join a b a1 b1) _).mono ?_
  rintro e w18 ⟨rfl, rfl⟩
  go_wp2_with fail
  refine (both_any a b a1 b1 _).mono ?_
  rintro e w19 ⟨rfl, rfl⟩
  go_wp2_with fail
  refine (in_yes (a &&& b) a ABA a1 (less_and_self a b a1) _).mono ?_
  rintro e w20 ⟨rfl, rfl⟩
  go_wp2_with fail
  refine (list_ex a a1 _ HT).mono ?_
  rintro e w21 ⟨B, rfl, hB, hi, hb⟩
  have HBL := Lib.hid hb
  have HI := Lib.hid hi
  clear hb hi hB
  go_wp2_with fail
  refine (of_any _ _ _ _ _ HI.out).mono ?_
  rintro e w22 ⟨rfl, rfl⟩
  rw [ofL_items a a1]
  go_wp2_with fail
  refine (join_any a b a1 b1 _).mono ?_
  rintro e w23 ⟨rfl, rfl⟩
  go_wp2_with fail
  refine (count_any (a ||| b) AB _).mono ?_
  rintro e w24 ⟨rfl, rfl⟩
  go_wp2_with fail
  refine (both_any a b a1 b1 _).mono ?_
  rintro e w25 ⟨rfl, rfl⟩
  go_wp2_with fail
  refine (count_any (a &&& b) ABA _).mono ?_
  rintro e w26 ⟨rfl, rfl⟩
  go_wp2_with fail
  refine (count_any a a1 _).mono ?_
  rintro e w27 ⟨rfl, rfl⟩
  rw [SUM.out]
  go_wp2_with fail
  refine (count_any b b1 _).mono ?_
  rintro e w28 ⟨rfl, rfl⟩
  go_wp2_with fail
  refine (with_any a m a1 _).mono ?_
  rintro e w29 ⟨rfl, rfl⟩
  have WD := or_lt a (dig m) a1 (dig_lt m)
  have DM := dig_lt m
  go_wp2_with fail
  refine (has_any (a ||| dig m) m WD _).mono ?_
  rintro e w30 ⟨rfl, rfl⟩
  rw [has_with a m ⟨n0, n1⟩]
  go_wp2_with fail
  refine (with_any a m a1 _).mono ?_
  rintro e w31 ⟨rfl, rfl⟩
  go_wp2_with fail
  refine (of_any _ _ 1 [m] _ (ints_of_block (zs := [m]) (heap_alloc_new w31 _) rfl (by simp))).mono ?_
  rintro e w32 ⟨rfl, hw⟩
  have H32 : Hid (Below w31.heap.size w31 w32) := by rw [hw]; exact (Below.refl _ _).alloc (Nat.le_refl _) _
  clear hw
  rw [ofL_one]
  go_wp2_with fail
  refine (less_any (a ||| dig m) (dig m) WD DM _).mono ?_
  rintro e w33 ⟨rfl, rfl⟩
  rw [less_with a m a1]
  go_wp2_with fail
  refine (of_any _ _ 1 [m] _ (ints_of_block (zs := [m]) (heap_alloc_new w33 _) rfl (by simp))).mono ?_
  rintro e w34 ⟨rfl, hw⟩
  have H34 : Hid (Below w33.heap.size w33 w34) := by rw [hw]; exact (Below.refl _ _).alloc (Nat.le_refl _) _
  clear hw
  rw [ofL_one]
  go_wp2_with fail
  refine (less_any a (dig m) a1 DM _).mono ?_
  rintro e w35 ⟨rfl, rfl⟩
  go_wp2_with fail
  refine (of_none _).mono ?_
  rintro e w36 ⟨rfl, rfl⟩
  go_wp2_with fail
  refine (count_any 0 (by decide) _).mono ?_
  rintro e w37 ⟨rfl, rfl⟩
  rw [Pop.items_zero]
  go_wp2_with fail
  have G := Lib.hid (below_cat (below_cat HBL.out H32.out) H34.out)
  clear HBL H32 H34 HI
  refine (wakes_any _ (HT.below G.out)).mono ?_
  rintro e w38 ⟨rfl, hbw⟩
  have HBW := Lib.hid hbw
  clear hbw
  go_wp2
  go_ret
  exact ⟨rfl, below_cat G.out HBW.out⟩
end Go.Proofs.YtpoajifabjlhjaaDoor
