/- cost: what is told of floats that are costs, walked. -/
import Derived.Test.YtflfmcikfiaoiaaLeafs
import Derived.Test.YtflfmcikfiaoiaaFloat
import Derived.WalkLawsBesides
import Derived.Laws.Externs
import Derived.LoopTactic
import Derived.Below
import Derived.WalkSmall
import Derived.IntWalk
set_option linter.unusedVariables false
namespace Go.Proofs.Ytflfmcikfiaoiaa
open Go.RowKit

theorem ret_float {a b : Nat} (h : a = b) : Ending.returned (.float .f64 a) = .returned (.float .f64 b) := by rw [h]
theorem neg_top (b : Nat) (hb : b < 18446744073709551616) : decide (wrap64 (b : Int) < 0) = (b / 9223372036854775808 == 1) := by
  have h1 : wrap64 (b : Int) < 0 ↔ 9223372036854775808 ≤ b := by unfold wrap64; omega
  have h2 : b / 9223372036854775808 = 1 ↔ 9223372036854775808 ≤ b := by omega
  rw [Bool.eq_iff_iff, decide_eq_true_iff, beq_iff_eq, h1, h2]

theorem guard_no {b : Nat} {x y c : Bool} (h : ((x || y) && c) = Fl.right b) (hn : ¬ (x = true ∨ y = true)) : false = Fl.right b := by
  rw [← h]; cases x <;> cases y <;> simp_all

theorem frombits_run (n : Int) (w : World) : (callFunc 139 #[.int .u64 n]).run Try.prog w = .ok (.value (.float .f64 n.toNat)) w := by
  rw [run_callFunc_extern (e := Extern.MathFloatBits.float64frombits) Try.func139 (by kernel_rfl) (by kernel_rfl) (by kernel_rfl) (by kernel_rfl)]
  rfl

theorem bits_run (b : Nat) (w : World) : (callFunc 177 #[.float .f64 b]).run Try.prog w = .ok (.value (.int .u64 b)) w := by
  rw [run_callFunc_extern (e := Extern.MathFloatBits.float64bits) Try.func177 (by kernel_rfl) (by kernel_rfl) (by kernel_rfl) (by kernel_rfl)]
  rfl

theorem nan_any (w : World) : Calls Try.prog 164 #[] w fun e w' => e = .returned (.float .f64 9221120237041090561) ∧ w' = w := by
  have hf := frombits_run
  go_enter Try.func164, Try.ntmps164
  go_wp2
  go_ret
  exact ⟨rfl, rfl⟩

theorem inf_any (w : World) : Calls Try.prog 109 #[.int .i64 1] w fun e w' => e = .returned (.float .f64 9218868437227405312) ∧ w' = w := by
  have hf := frombits_run
  go_enter Try.func109, Try.ntmps109
  go_wp2
  go_ret
  exact ⟨rfl, rfl⟩

theorem endless_any (w : World) : Calls Try.prog 78 #[] w fun e w' => e = .returned (.float .f64 9218868437227405312) ∧ w' = w := by
  have hf := frombits_run
  go_enter Try.func78, Try.ntmps78
  go_wp2_with (go_at_call 109; refine (inf_any _).mono ?_; rintro e w' ⟨rfl, rfl⟩)
  go_ret
  exact ⟨rfl, rfl⟩

theorem signbit_any (b : Nat) (hb : b < 18446744073709551616) (w : World) : Calls Try.prog 165 #[.float .f64 b] w fun e w' => e = .returned (.bool (b / 9223372036854775808 == 1)) ∧ w' = w := by
  have hf := bits_run
  go_enter Try.func165, Try.ntmps165
  go_wp2
  go_ret
  exact ⟨ret_bool (neg_top b hb), rfl⟩

theorem cright_any (b : Nat) (hb : b < 18446744073709551616) (w : World) : Calls Try.prog 141 #[.float .f64 b] w fun e w' => e = .returned (.bool (Fl.right b)) ∧ w' = w := by
  have hr := Fl.right_code b hb
  have HR := Lib.hid hr
  clear hr
  go_enter Try.func141, Try.ntmps141
  go_wp2_with (go_at_call 165; refine (signbit_any _ hb _).mono ?_; rintro e w' ⟨rfl, rfl⟩)
  all_goals go_ret
  · exact ⟨ret_bool HR.out, rfl⟩
  · refine ⟨ret_bool (guard_no HR.out ?_), rfl⟩
    simpa using ‹¬ (_ ∨ _)›

set_option maxHeartbeats 400000 in
theorem csum_some (b off cap len : Nat) (bs : List Nat) (w : World) (hz : Hid (len = bs.length)) (hbig : len ≤ 9223372036854775807) (hbs : Hid (∀ x ∈ bs, x < 18446744073709551616))
    (hc : ∀ j, j < len → w.cell? ⟨b, off + j, none⟩ = some (.float .f64 (bs.getD j 0))) :
    Calls Try.prog 140 #[.slice (some ⟨b, off, none⟩) len cap] w fun e w' => e = .returned (.float .f64 (Fl.sumW bs)) ∧ w' = w := by
  go_enter Try.func140, Try.ntmps140
  go_wp2
  go_loop [3, 8] (fun t i => ∃ k : Nat, k ≤ len ∧ i = .int .i64 k ∧ t = .float .f64 (Fl.total (bs.take k)) ∧ Hid ((bs.take k).all Fl.right = true)) (fun _ i => len - (intOf i).toNat)
  case atStart => exact ⟨0, Nat.zero_le _, rfl, rfl, rfl⟩
  case round =>
    obtain ⟨k, hk, rfl, rfl, ha⟩ := hrel
    by_cases hlt : k < len
    · have hk' : k < bs.length := by have := hz.out; omega
      have hcell := hc k hlt
      have hx := hbs.out _ (Fl.mem_getD bs k hk')
      have hts := Fl.take_snoc bs k hk'
      have hno := Fl.sumW_no bs k hk'
      have hal := Fl.all_snoc bs k hk' ha.out
      have hle := Fl.total_le (bs.take k)
      generalize bs.getD k 0 = x at *
      cases hr : Fl.right x
      · have hno := hno hr
        have HNO := Lib.hid hno
        clear hno hal hts hc hle
        go_wp2_with (first | (go_at_call 141; refine (cright_any _ hx _).mono ?_; rintro e w' ⟨rfl, rfl⟩) | (go_at_call 164; refine (nan_any _).mono ?_; rintro e w' ⟨rfl, rfl⟩))
        go_ret
        exact ⟨ret_float HNO.out.symm, rfl⟩
      · have hadd : ∀ t w, (binOp .add t (.float .f64 (Fl.total (bs.take k))) (.float .f64 x)).run Try.prog w = .ok (.float .f64 (Fl.plus (Fl.total (bs.take k)) x)) w := fun t w =>
          run_float_arith w .add t .f64 _ _ _ (Fl.add_le _ _ hle (Fl.right_le hr))
        have hal := hal hr
        have HA := Lib.hid hal
        have HP : Hid (Fl.plus (Fl.total (bs.take k)) x = Fl.total (bs.take (k + 1))) := Lib.hid (by rw [hts, Fl.total_snoc])
        clear hno hal hts hle hc
        go_wp2_with (first | (go_at_call 141; refine (cright_any _ hx _).mono ?_; rintro e w' ⟨rfl, rfl⟩) | (go_at_call 164; refine (nan_any _).mono ?_; rintro e w' ⟨rfl, rfl⟩))
        go_round
        case rel =>

          exact ⟨k + 1, by omega, by go_num, congrArg (Value.float .f64) HP.out, HA⟩
        case measure => simp [intOf]; omega
    · have hk2 : bs.take k = bs := List.take_of_length_le (by have := hz.out; omega)
      have HK := Lib.hid hk2
      clear hk2 hc
      go_wp2
      go_ret
      exact ⟨ret_float (by rw [HK.out]; exact (Fl.sumW_yes bs (by rw [← HK.out]; exact ha.out)).symm), rfl⟩

theorem csum_empty (a : Option Addr) (cap : Nat) (w : World) : Calls Try.prog 140 #[.slice a 0 cap] w fun e w' => e = .returned (.float .f64 0) ∧ w' = w := by
  go_enter Try.func140, Try.ntmps140
  go_wp2
  go_loop [3, 8] (fun t i => i = .int .i64 0 ∧ t = .float .f64 0) (fun _ _ => 0)
  case atStart => exact ⟨rfl, rfl⟩
  case round =>
    obtain ⟨rfl, rfl⟩ := hrel
    go_wp2
    go_ret
    exact ⟨rfl, rfl⟩

set_option maxHeartbeats 400000 in
theorem cleast_some (b off cap len : Nat) (bs : List Nat) (w : World) (hz : Hid (len = bs.length)) (hbig : len ≤ 9223372036854775807) (hbs : Hid (∀ x ∈ bs, x < 18446744073709551616))
    (hc : ∀ j, j < len → w.cell? ⟨b, off + j, none⟩ = some (.float .f64 (bs.getD j 0))) :
    Calls Try.prog 111 #[.slice (some ⟨b, off, none⟩) len cap] w fun e w' => e = .returned (.int .i64 (Fl.pick bs).1) ∧ w' = w := by
  go_enter Try.func111, Try.ntmps111
  go_wp2_with (go_at_call 78; refine (endless_any _).mono ?_; rintro e w' ⟨rfl, rfl⟩)
  go_loop [3, 4, 10] (fun p t i => ∃ k q : Nat, ∃ z : Int, k ≤ len ∧ i = .int .i64 k ∧ p = .int .i64 z ∧ t = .float .f64 q ∧ Hid (Fl.pick (bs.take k) = (z, q))) (fun _ _ i => len - (intOf i).toNat)
  case atStart => exact ⟨0, 9218868437227405312, -1, Nat.zero_le _, rfl, rfl, rfl, rfl⟩
  case round =>
    obtain ⟨k, q, z, hk, rfl, rfl, rfl, hp⟩ := hrel
    by_cases hlt : k < len
    · have hk' : k < bs.length := by have := hz.out; omega
      have hcell := hc k hlt
      have hx := hbs.out _ (Fl.mem_getD bs k hk')
      have hst := Fl.pick_step bs k hk'
      have hle := Fl.pick_le (bs.take k)
      rw [hp.out] at hst hle
      generalize bs.getD k 0 = x at *
      cases hr : Fl.right x
      · rw [hr, Bool.false_and, if_neg (by decide)] at hst
        have HST := Lib.hid hst
        clear hst hc hle
        go_wp2_with (go_at_call 141; refine (cright_any _ hx _).mono ?_; rintro e w' ⟨rfl, rfl⟩)
        go_round
        case rel => exact ⟨k + 1, q, z, by omega, by go_num, rfl, rfl, HST⟩
        case measure => simp [intOf]; omega
      · have ho : (FloatKind.f64.format.order x q == some .lt) = decide (x < q) := Fl.order_lt x q (Fl.right_le hr) hle
        rw [hr, Bool.true_and] at hst
        cases hd : decide (x < q)
        · rw [hd] at ho hst
          rw [if_neg (by decide)] at hst
          have HST := Lib.hid hst
          clear hst hc hle hd
          go_wp2_with (go_at_call 141; refine (cright_any _ hx _).mono ?_; rintro e w' ⟨rfl, rfl⟩)
          go_round
          case rel => exact ⟨k + 1, q, z, by omega, by go_num, rfl, rfl, HST⟩
          case measure => simp [intOf]; omega
        · rw [hd] at ho hst
          rw [if_pos rfl] at hst
          have HST := Lib.hid hst
          clear hst hc hle hd
          go_wp2_with (go_at_call 141; refine (cright_any _ hx _).mono ?_; rintro e w' ⟨rfl, rfl⟩)
          go_round
          case rel => exact ⟨k + 1, x, k, by omega, by go_num, rfl, rfl, HST⟩
          case measure => simp [intOf]; omega
    · have hk2 : bs.take k = bs := List.take_of_length_le (by have := hz.out; omega)
      have HK := Lib.hid hk2
      clear hk2 hc
      go_wp2
      go_ret
      exact ⟨ret_int (by rw [← HK.out, hp.out]), rfl⟩

end Go.Proofs.Ytflfmcikfiaoiaa
