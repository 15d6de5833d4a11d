/- What the small functions of sets give: each a contract over any world. -/
import Derived.Test.YtpoajifabjlhjaaDoorChecked
import Derived.Test.YtpoajifabjlhjaaDoorPop
import Derived.WalkKit
import Derived.WalkLawsBesides
import Derived.Laws.BitsAll
import Derived.Laws.ShiftsVar
import Derived.Lib.Hide
import Derived.RowKit3
import Derived.Outline
namespace Go.Proofs.YtpoajifabjlhjaaDoor
open Go.RowKit

theorem ret_int {k : IntKind} {a b : Int} (h : a = b) : Ending.returned (.int k a) = .returned (.int k b) := by rw [h]
theorem ret_bool {a b : Bool} (h : a = b) : Ending.returned (.bool a) = .returned (.bool b) := by rw [h]

theorem digit_out (n : Int) (h : n < 0 ∨ 64 ≤ n) (w : World) :
    Calls Tryd.prog 20 #[.int .i64 n] w fun e w' => e = .returned (.int .u64 0) ∧ w' = w := by
  rcases h with h | h
  · go_enter Tryd.func20, Tryd.ntmps20
    go_wp2
    go_ret
    exact ⟨rfl, rfl⟩
  · have h0 : 0 ≤ n := by omega
    go_enter Tryd.func20, Tryd.ntmps20
    go_wp2
    go_ret
    exact ⟨rfl, rfl⟩
theorem or_nat (s t : Nat) (hs : s < 18446744073709551616) (ht : t < 18446744073709551616) : bits .or .u64 (s : Int) (t : Int) = ((s ||| t : Nat) : Int) := by
  rw [u64_or _ _ (by omega) (by omega) (by omega) (by omega)]; rfl
theorem and_nat (s t : Nat) (hs : s < 18446744073709551616) (ht : t < 18446744073709551616) : bits .and .u64 (s : Int) (t : Int) = ((s &&& t : Nat) : Int) := by
  rw [u64_and _ _ (by omega) (by omega) (by omega) (by omega)]; rfl
theorem andNot_nat (s t : Nat) (hs : s < 18446744073709551616) (ht : t < 18446744073709551616) : bits .andNot .u64 (s : Int) (t : Int) = ((s &&& (18446744073709551615 - t) : Nat) : Int) := by
  rw [u64_andNot _ _ (by omega) (by omega) (by omega) (by omega)]; rfl
theorem pow_lt (n : Nat) (h : n < 64) : 2 ^ n < 18446744073709551616 := Nat.pow_lt_pow_right (by omega) h
theorem pow_u64 (n : Nat) (h : n < 64) : IntKind.u64.wrap (2 ^ n) = ((2 ^ n : Nat) : Int) := by
  have h1 := pow_lt n h
  have e : (2 : Int) ^ n = ((2 ^ n : Nat) : Int) := by simp
  rw [IntKind.wrap_u64, e]
  generalize 2 ^ n = m at *
  omega
theorem mask127 (c : Nat) (h : c < 5208492444341520456) : bits .and .i64 (wrap64 (c : Int)) 127 = ((c % 128 : Nat) : Int) := by
  rw [IntWalk.wrap64_in _ (by omega)]
  have e := bits_mask .i64 63 (by decide) (fun n h0 h1 => by rw [IntKind.wrap_i64]; omega) 7 (by decide) (c : Int) (by omega) (by omega)
  rw [show (127 : Int) = 2 ^ 7 - 1 from rfl, e]; omega
theorem digit_in (n : Nat) (h : n < 64) (w : World) :
    Calls Tryd.prog 20 #[.int .i64 n] w fun e w' => e = .returned (.int .u64 (2 ^ n : Nat)) ∧ w' = w := by
  go_enter Tryd.func20, Tryd.ntmps20
  go_wp2
  go_ret
  exact ⟨ret_int (pow_u64 n h), rfl⟩
theorem ones_any (x : Nat) (h : x < 18446744073709551616) (w : World) :
    Calls Tryd.prog 21 #[.int .u64 x] w fun e w' => e = .returned (.int .i64 ((Pop.items x).length : Nat)) ∧ w' = w := by
  have B := Pop.S_bounds x h
  have k1 : IntKind.u64.wrap (bits .and .u64 (↑x / 2) 6148914691236517205 + bits .and .u64 ↑x 6148914691236517205) = ((Pop.S1 8 x : Nat) : Int) := by
    rw [show (x : Int) / 2 = ((x / 2 : Nat) : Int) by omega, show (6148914691236517205 : Int) = ((6148914691236517205 : Nat) : Int) from rfl, and_nat _ _ (by omega) (by omega), and_nat _ _ h (by omega), IntKind.wrap_u64]
    have e : Pop.S1 8 x = (x / 2 &&& 6148914691236517205) + (x &&& 6148914691236517205) := by unfold Pop.S1; rw [Pop.mask85]
    omega
  generalize hy1 : Pop.S1 8 x = y1 at *
  have k2 : IntKind.u64.wrap (bits .and .u64 (↑y1 / 4) 3689348814741910323 + bits .and .u64 ↑y1 3689348814741910323) = ((Pop.S2 8 y1 : Nat) : Int) := by
    rw [show (y1 : Int) / 4 = ((y1 / 4 : Nat) : Int) by omega, show (3689348814741910323 : Int) = ((3689348814741910323 : Nat) : Int) from rfl, and_nat _ _ (by omega) (by omega), and_nat _ _ B.1 (by omega), IntKind.wrap_u64]
    have e : Pop.S2 8 y1 = (y1 / 4 &&& 3689348814741910323) + (y1 &&& 3689348814741910323) := by unfold Pop.S2; rw [Pop.mask51]
    omega
  generalize hy2 : Pop.S2 8 y1 = y2 at *
  have k3 : bits .and .u64 (IntKind.u64.wrap (↑y2 / 16 + ↑y2)) 1085102592571150095 = ((Pop.S3 8 y2 : Nat) : Int) := by
    rw [IntKind.wrap_u64, show ((y2 : Int) / 16 + (y2 : Int)) % 18446744073709551616 = ((y2 / 16 + y2 : Nat) : Int) by omega, show (1085102592571150095 : Int) = ((1085102592571150095 : Nat) : Int) from rfl, and_nat _ _ (by omega) (by omega)]
    unfold Pop.S3; rw [Pop.mask15]
  generalize hy3 : Pop.S3 8 y2 = y3 at *
  have S := Pop.swar x h y3 _ _ _ (by rw [hy1, hy2, hy3]) rfl rfl rfl
  have k4 : IntKind.u64.wrap ((y3 : Int) + ↑y3 / 256) = ((y3 + y3 / 256 : Nat) : Int) := by rw [IntKind.wrap_u64]; omega
  generalize ha : y3 + y3 / 256 = a at *
  have k5 : IntKind.u64.wrap ((a : Int) + ↑a / 65536) = ((a + a / 65536 : Nat) : Int) := by rw [IntKind.wrap_u64]; omega
  generalize hb : a + a / 65536 = b at *
  have k6 : IntKind.u64.wrap ((b : Int) + ↑b / 4294967296) = ((b + b / 4294967296 : Nat) : Int) := by rw [IntKind.wrap_u64]; omega
  generalize hc : b + b / 4294967296 = c at *
  have K1 := Lib.hid k1
  have K2 := Lib.hid k2
  have K3 := Lib.hid k3
  have K4 := Lib.hid k4
  have K5 := Lib.hid k5
  have K6 := Lib.hid k6
  have SS := Lib.hid S
  clear k1 k2 k3 k4 k5 k6 S hc hb ha hy3 hy2 hy1 B
  go_enter Tryd.func21, Tryd.ntmps21
  go_wp2
  go_ret
  refine ⟨ret_int ?_, rfl⟩
  rw [K1.out, K2.out, K3.out, K4.out, K5.out, K6.out]
  rw [mask127 c SS.out.2.2.2.2, SS.out.1]
theorem join_any (s t : Nat) (hs : s < 18446744073709551616) (ht : t < 18446744073709551616) (w : World) :
    Calls Tryd.prog 16 #[.int .u64 s, .int .u64 t] w fun e w' => e = .returned (.int .u64 (s ||| t : Nat)) ∧ w' = w := by
  go_enter Tryd.func16, Tryd.ntmps16
  go_wp2
  go_ret
  exact ⟨ret_int (or_nat s t hs ht), rfl⟩
theorem both_any (s t : Nat) (hs : s < 18446744073709551616) (ht : t < 18446744073709551616) (w : World) :
    Calls Tryd.prog 17 #[.int .u64 s, .int .u64 t] w fun e w' => e = .returned (.int .u64 (s &&& t : Nat)) ∧ w' = w := by
  go_enter Tryd.func17, Tryd.ntmps17
  go_wp2
  go_ret
  exact ⟨ret_int (and_nat s t hs ht), rfl⟩
/-- What is in s alone. -/
def less (s t : Nat) : Nat := s &&& (18446744073709551615 - t)
theorem less_any (s t : Nat) (hs : s < 18446744073709551616) (ht : t < 18446744073709551616) (w : World) :
    Calls Tryd.prog 14 #[.int .u64 s, .int .u64 t] w fun e w' => e = .returned (.int .u64 (less s t : Nat)) ∧ w' = w := by
  go_enter Tryd.func14, Tryd.ntmps14
  go_wp2
  go_ret
  exact ⟨ret_int (andNot_nat s t hs ht), rfl⟩
theorem count_any (s : Nat) (hs : s < 18446744073709551616) (w : World) :
    Calls Tryd.prog 12 #[.int .u64 s] w fun e w' => e = .returned (.int .i64 ((Pop.items s).length : Nat)) ∧ w' = w := by
  go_enter Tryd.func12, Tryd.ntmps12
  go_wp2_with (go_at_call 21; refine (ones_any s hs _).mono ?_; rintro e w' ⟨rfl, rfl⟩)
  go_ret
  exact ⟨rfl, rfl⟩
/-- The set of n alone; none, if n can't be in one. -/
def dig (n : Int) : Nat := if 0 ≤ n ∧ n < 64 then 2 ^ n.toNat else 0
theorem dig_lt (n : Int) : dig n < 18446744073709551616 := by
  unfold dig; split
  · exact pow_lt _ (by omega)
  · decide
theorem digit_any (n : Int) (w : World) :
    Calls Tryd.prog 20 #[.int .i64 n] w fun e w' => e = .returned (.int .u64 (dig n : Nat)) ∧ w' = w := by
  by_cases h : 0 ≤ n ∧ n < 64
  · obtain ⟨k, rfl⟩ := Int.eq_ofNat_of_zero_le h.1
    rw [show dig (k : Int) = 2 ^ k by unfold dig; rw [if_pos h, Int.toNat_natCast]]
    exact digit_in k (by omega) w
  · rw [show dig n = 0 by unfold dig; rw [if_neg h]]
    exact digit_out n (by omega) w
theorem and_lt (s t : Nat) (hs : s < 18446744073709551616) : s &&& t < 18446744073709551616 := Nat.lt_of_le_of_lt Nat.and_le_left hs
theorem or_lt (s t : Nat) (hs : s < 18446744073709551616) (ht : t < 18446744073709551616) : s ||| t < 18446744073709551616 := Nat.or_lt_two_pow (n := 64) hs ht
theorem with_any (s : Nat) (n : Int) (hs : s < 18446744073709551616) (w : World) :
    Calls Tryd.prog 11 #[.int .u64 s, .int .i64 n] w fun e w' => e = .returned (.int .u64 (s ||| dig n : Nat)) ∧ w' = w := by
  have hd := dig_lt n
  go_enter Tryd.func11, Tryd.ntmps11
  go_wp2_with (go_at_call 20; refine (digit_any n _).mono ?_; rintro e w' ⟨rfl, rfl⟩)
  go_ret
  exact ⟨ret_int (or_nat s _ hs hd), rfl⟩
/-- Is n in s? -/
def has (s : Nat) (n : Int) : Bool := decide (s &&& dig n ≠ 0)
theorem has_any (s : Nat) (n : Int) (hs : s < 18446744073709551616) (w : World) :
    Calls Tryd.prog 10 #[.int .u64 s, .int .i64 n] w fun e w' => e = .returned (.bool (has s n)) ∧ w' = w := by
  have hd := dig_lt n
  go_enter Tryd.func10, Tryd.ntmps10
  go_wp2_with (go_at_call 20; refine (digit_any n _).mono ?_; rintro e w' ⟨rfl, rfl⟩)
  go_ret
  refine ⟨ret_bool ?_, rfl⟩
  rw [and_nat s _ hs hd, Bool.eq_iff_iff]; unfold has; simp
theorem in_any (s t : Nat) (hs : s < 18446744073709551616) (ht : t < 18446744073709551616) (w : World) :
    Calls Tryd.prog 13 #[.int .u64 s, .int .u64 t] w fun e w' => e = .returned (.bool (decide (less s t = 0))) ∧ w' = w := by
  go_enter Tryd.func13, Tryd.ntmps13
  go_wp2_with (go_at_call 14; refine (less_any s t hs ht _).mono ?_; rintro e w' ⟨rfl, rfl⟩)
  go_ret
  refine ⟨ret_bool ?_, rfl⟩
  rw [Bool.eq_iff_iff]; simp
end Go.Proofs.YtpoajifabjlhjaaDoor
