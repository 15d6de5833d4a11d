/- What the small functions of scan, and of the document's own answers, give: each a contract over any world. -/
import Derived.Test.YtdnlbmdmaiacaaaChecked
import Derived.Test.YtdnlbmdmaiacaaaSpec
import Derived.WalkKit
import Derived.Lib.Hide
import Derived.Lib.Strings
namespace Go.Proofs.Ytdnlbmdmaiacaaa
open Go.RowKit
open Doc

theorem ret_int {k : IntKind} {a b : Int} (h : a = b) : Ending.returned (.int k a) = .returned (.int k b) := by rw [h]
theorem ret_bool {a b : Bool} (h : a = b) : Ending.returned (.bool a) = .returned (.bool b) := by rw [h]

theorem upper_any (c : UInt8) (w : World) :
    Calls Try.prog 122 #[.int .u8 c.toNat] w fun e w' => e = .returned (.bool (up c)) ∧ w' = w := by
  go_enter Try.func122, Try.ntmps122
  go_wp2
  all_goals
    go_ret
    refine ⟨ret_bool ?_, rfl⟩
    unfold up
    rw [Bool.eq_iff_iff]
    simp
    try omega

theorem digit_any (c : UInt8) (w : World) :
    Calls Try.prog 123 #[.int .u8 c.toNat] w fun e w' => e = .returned (.bool (dig c)) ∧ w' = w := by
  go_enter Try.func123, Try.ntmps123
  go_wp2
  all_goals
    go_ret
    refine ⟨ret_bool ?_, rfl⟩
    unfold dig
    rw [Bool.eq_iff_iff]
    simp
    try omega

theorem letter_any (c : UInt8) (w : World) :
    Calls Try.prog 113 #[.int .u8 c.toNat] w fun e w' => e = .returned (.bool (lett c)) ∧ w' = w := by
  cases hU : up c with
  | true =>
    go_enter Try.func113, Try.ntmps113
    go_wp2_with (go_at_call 122; refine (upper_any c _).mono ?_; rintro e w' ⟨rfl, rfl⟩; simp only [hU])
    go_ret
    exact ⟨ret_bool (by simp [lett, hU]), rfl⟩
  | false =>
    go_enter Try.func113, Try.ntmps113
    go_wp2_with (go_at_call 122; refine (upper_any c _).mono ?_; rintro e w' ⟨rfl, rfl⟩; simp only [hU])
    all_goals
      go_ret
      refine ⟨ret_bool ?_, rfl⟩
      unfold lett
      rw [hU, Bool.eq_iff_iff]
      unfold low
      simp
      try omega

theorem rletter_any (c : UInt8) (w : World) :
    Calls Try.prog 100 #[.int .u8 c.toNat] w fun e w' => e = .returned (.bool (lett c)) ∧ w' = w := by
  go_enter Try.func100, Try.ntmps100
  go_wp2
  all_goals
    go_ret
    refine ⟨ret_bool ?_, rfl⟩
    unfold lett low up
    rw [Bool.eq_iff_iff]
    simp
    try omega

theorem rdigit_any (c : UInt8) (w : World) :
    Calls Try.prog 101 #[.int .u8 c.toNat] w fun e w' => e = .returned (.bool (dig c)) ∧ w' = w := by
  go_enter Try.func101, Try.ntmps101
  go_wp2
  all_goals
    go_ret
    refine ⟨ret_bool ?_, rfl⟩
    unfold dig
    rw [Bool.eq_iff_iff]
    simp
    try omega

theorem within_any (n m : Int) (hm0 : 1 ≤ m) (hm : m ≤ 1000000) (w : World) :
    Calls Try.prog 15 #[.int .i64 n, .int .i64 m] w fun e w' => e = .returned (.int .i64 (n % m)) ∧ w' = w := by
  have h1 := Int.tmod_lt_of_pos n (show 0 < m by omega)
  have h2 : -m < n.tmod m := Int.lt_tmod_of_pos n (show 0 < m by omega)
  have h3 : (m == 0) = false := by simp; omega
  have h5 : n.tmod m = n % m ∨ n.tmod m = n % m - m := by
    rw [Int.tmod_eq_emod]; split
    · exact .inl (by omega)
    · right; omega
  have h6 := Int.emod_nonneg n (show m ≠ 0 by omega)
  have h7 := Int.emod_lt_of_pos n (show 0 < m by omega)
  by_cases hneg : n.tmod m < 0
  · have h8 : n.tmod m + m = n % m := by omega
    have H8 := Lib.hid h8
    clear h5 h6 h7 h8
    go_enter Try.func15, Try.ntmps15
    go_wp2
    go_ret
    exact ⟨ret_int H8.out, rfl⟩
  · have h8 : n.tmod m = n % m := by omega
    have H8 := Lib.hid h8
    clear h5 h6 h7 h8
    go_enter Try.func15, Try.ntmps15
    go_wp2
    go_ret
    exact ⟨ret_int H8.out, rfl⟩

end Go.Proofs.Ytdnlbmdmaiacaaa
