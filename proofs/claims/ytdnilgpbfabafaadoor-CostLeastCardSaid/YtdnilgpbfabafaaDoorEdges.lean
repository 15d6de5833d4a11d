/- CostEdges, walked. -/
import Derived.Test.YtdnilgpbfabafaaDoorRef
namespace Go.Proofs.YtdnilgpbfabafaaDoor
open Go.RowKit

theorem neg_eq (b : Nat) (hb : b < 9223372036854775808) : Op.negFloat .f64 b = b + 9223372036854775808 := by
  show b ^^^ 2 ^ 63 = b + 2 ^ 63
  have hb' : b < 2 ^ 63 := hb
  have h2 := Nat.two_pow_add_eq_or_of_lt hb' 1
  rw [Nat.mul_one] at h2
  rw [Nat.add_comm, h2]
  refine Nat.eq_of_testBit_eq fun i => ?_
  rw [Nat.testBit_xor, Nat.testBit_or, Nat.testBit_two_pow]
  by_cases h : 63 = i
  · subst h; rw [Nat.testBit_lt_two_pow hb']; simp
  · simp [h]

theorem neg_run (b : Nat) (hb : b < 9223372036854775808) (w : World) : (Op.unary .neg (.float .f64 b)).run Tryd.prog w = .ok (.float .f64 (b + 9223372036854775808)) w := by
  rw [← neg_eq b hb]; rfl

/-- A slice of floats that is written out. -/
theorem floats_new (w : World) (bs : List Nat) (t : TypeId) : ∀ j, j < bs.length → (w.alloc (.cells (bs.map (Value.float .f64)).toArray t)).cell? ⟨w.heap.size, 0 + j, none⟩ = some (.float .f64 (bs.getD j 0)) := by
  intro j hj
  have hb : (w.alloc (.cells (bs.map (Value.float .f64)).toArray t)).heap[w.heap.size]? = some (.cells (bs.map (Value.float .f64)).toArray t) := (MapKept.heap_alloc w _).1
  have he : (bs.map (Value.float .f64))[j]? = some (.float .f64 (bs.getD j 0)) := by
    rw [List.getElem?_map, List.getElem?_eq_getElem hj, Fl.getD_at bs j hj]; rfl
  unfold World.cell?
  simp only [hb]
  rw [Nat.zero_add]
  simpa using he

theorem right_no_sum (x : Nat) (h : Fl.right x = false) : Fl.sumW [4607182418800017408, x, 4611686018427387904] = 9221120237041090561 := Fl.sumW_no _ 1 (by simp) h
theorem right_no_least1 (x : Nat) (h : Fl.right x = false) : (Fl.pick [x]).1 = -1 := by
  simp [Fl.pick, h]
theorem right_no_least4 (x : Nat) (h : Fl.right x = false) : (Fl.pick [x, 4619567317775286272, x, 4619567317775286272]).1 = 1 := by
  have h2 : Fl.right 4619567317775286272 = true := by decide
  simp [Fl.pick, h, h2, Fl.inf]

theorem text_seven : text (Fl.tenths 4604930618986332160) = [48, 46, 55] := by
  rw [show Fl.tenths 4604930618986332160 = 7 by decide +kernel]
  simp [text, Lib.decDigits]

set_option maxRecDepth 100000 in
set_option maxHeartbeats 1000000 in
theorem edges_walk (a0 : Int) (w : World) (HT : Tab w) :
    Calls Tryd.prog 6 #[.int .i64 a0] w fun e w' => e = .returned (.bool true) ∧ Below w.heap.size w w' := by
  go_enter Tryd.func6, Tryd.ntmps6
  go_wp2_with fail
  refine (within_any a0 1000 (by omega) (by omega) _).mono ?_
  rintro e w1 ⟨rfl, rfl⟩
  have h0 := Int.emod_nonneg a0 (show (1000 : Int) ≠ 0 by omega)
  have h1 := Int.emod_lt_of_pos a0 (show 0 < (1000 : Int) by omega)
  generalize a0 % 1000 = m at *
  obtain ⟨n, hn⟩ : ∃ n : Nat, 1 + m = n := ⟨(1 + m).toNat, by omega⟩
  have hn1 : 1 ≤ n := by omega
  have hn2 : n ≤ 1000 := by omega
  clear h0 h1
  have hcv : ∀ w, (convert 3 24 (.int .i64 (n : Int))).run Tryd.prog w = .ok (.float .f64 (Fl.ofNat n)) w := fun w => by
    rw [run_convert_int_float w 3 24 .i64 .f64 n (by kernel_rfl) Tryd.underlying24, ofInt_nat]
  have hF := Fl.ofNat_lt n (by omega)
  have hF0 := Fl.ofNat_pos n hn1 (by omega)
  have hd := Fl.div_minus _ hF hF0
  have hq : ∀ t w, (binOp .quo t (.float .f64 0) (.float .f64 (Fl.ofNat n + 9223372036854775808))).run Tryd.prog w = .ok (.float .f64 9223372036854775808) w := fun t w => run_float_arith w .quo t .f64 _ _ _ hd
  have hng := neg_run (Fl.ofNat n) (by unfold Fl.inf at hF; omega)
  have hni : ∀ w, (Op.unary .neg (.float .f64 9218868437227405312)).run Tryd.prog w = .ok (.float .f64 18442240474082181120) w := neg_run 9218868437227405312 (by omega)
  obtain ⟨nn, hnn, hn3, hn4⟩ : ∃ nn, (∀ t, (binOp .quo t (.float .f64 0) (.float .f64 0)).run Tryd.prog w1 = .ok (.float .f64 nn) w1.drew) ∧ nn < 2 ^ 64 ∧ isNan nn :=
    ⟨nanOf w1 0 0, fun t => quo_none_run t 0 0 (by kernel_rfl) w1, nanOf_nan w1 0 0⟩
  generalize Fl.ofNat n = F at *
  clear hd
  go_wp2_with (go_at_call 16; refine (endless_any _).mono ?_; rintro e w' ⟨rfl, rfl⟩)
  have hcells := floats_new w1 [nn, 9223372036854775808, F + 9223372036854775808, 18442240474082181120] 24
  have hb0 : Below w1.heap.size w1 (w1.alloc (.cells #[.float .f64 nn, .float .f64 9223372036854775808, .float .f64 (F + 9223372036854775808), .float .f64 18442240474082181120] 24)).drew :=
    ((Below.refl _ _).alloc (Nat.le_refl _) _).drew
  have hsz : (w1.alloc (.cells #[.float .f64 nn, .float .f64 9223372036854775808, .float .f64 (F + 9223372036854775808), .float .f64 18442240474082181120] 24)).drew.heap.size = w1.heap.size + 1 := by simp
  have hcells' : ∀ j, j < 4 → (w1.alloc (.cells #[.float .f64 nn, .float .f64 9223372036854775808, .float .f64 (F + 9223372036854775808), .float .f64 18442240474082181120] 24)).drew.cell? ⟨w1.heap.size, 0 + j, none⟩ = some (.float .f64 ([nn, 9223372036854775808, F + 9223372036854775808, 18442240474082181120].getD j 0)) := hcells
  have hxs : ∀ j, j < 4 → [nn, 9223372036854775808, F + 9223372036854775808, 18442240474082181120].getD j 0 < 18446744073709551616 ∧ Fl.right ([nn, 9223372036854775808, F + 9223372036854775808, 18442240474082181120].getD j 0) = false := by
    intro j hj
    have : j = 0 ∨ j = 1 ∨ j = 2 ∨ j = 3 := by omega
    have r1 : Fl.right 9223372036854775808 = false := by decide
    have l1 : (9223372036854775808 : Nat) < 18446744073709551616 := by decide
    have l3 : (18442240474082181120 : Nat) < 18446744073709551616 := by decide
    have r3 : Fl.right 18442240474082181120 = false := by decide
    have r0 : Fl.right nn = false := decide_eq_false (by unfold isNan Fl.inf at hn4; unfold Fl.inf; omega)
    have r2 : Fl.right (F + 9223372036854775808) = false := decide_eq_false (by unfold Fl.inf; omega)
    have l2 : F + 9223372036854775808 < 18446744073709551616 := by unfold Fl.inf at hF; omega
    rcases this with rfl | rfl | rfl | rfl
    · exact ⟨hn3, r0⟩
    · exact ⟨l1, r1⟩
    · exact ⟨l2, r2⟩
    · exact ⟨l3, r3⟩
  clear hcells
  generalize [nn, 9223372036854775808, F + 9223372036854775808, 18442240474082181120] = xs at hcells' hxs
  generalize (w1.alloc (.cells #[.float .f64 nn, .float .f64 9223372036854775808, .float .f64 (F + 9223372036854775808), .float .f64 18442240474082181120] 24)).drew = W0 at *
  have HT0 := HT.below hb0
  have HC := Lib.hid hcells'
  have HX := Lib.hid hxs
  have HS := Lib.hid hsz
  clear hcells' hxs hsz hnn hng hni hq hcv
  go_loopw [32] (fun i wr => ∃ k : Nat, k ≤ 4 ∧ i = .int .i64 k ∧ Below (w1.heap.size + 1) W0 wr) (fun i _ => 4 - (intOf i).toNat)
  case atStart => exact ⟨0, by omega, rfl, Below.refl _ _⟩
  case round =>
    obtain ⟨k, hk, rfl, hbr⟩ := hrel
    by_cases hlt : k < 4
    · have hcell : wr.cell? ⟨w1.heap.size, 0 + k, none⟩ = _ := (hbr.cell (by show w1.heap.size < _; omega)).trans (HC.out k hlt)
      obtain ⟨hx, hr⟩ := HX.out k hlt
      generalize xs.getD k 0 = x at *
      rw [Nat.zero_add] at hcell
      have hnn2 : FloatKind.f64.format.order 9221120237041090561 9221120237041090561 = none := by kernel_rfl
      have HR := Lib.hid hr
      go_wp2_with fail
      refine (sum_some wr.heap.size 0 3 3 [4607182418800017408, x, 4611686018427387904] _ rfl (by omega) (by intro y hy; simp at hy; rcases hy with rfl | rfl | rfl <;> omega) (floats_new wr [4607182418800017408, x, 4611686018427387904] 24)).mono ?_
      rw [right_no_sum x HR.out]
      rintro e w2 ⟨rfl, hw2⟩
      have hb2 : Below (w1.heap.size + 1) W0 w2 := by rw [hw2]; exact hbr.alloc (by have := hbr.size; have := HS.out; omega) _
      clear hw2 hbr hcell
      go_wp2_with fail
      refine (right_any x hx _).mono ?_
      rintro e w3 ⟨rfl, rfl⟩
      go_wp2_with fail
      refine (print_none x hx HR.out _).mono ?_
      rintro e w4 ⟨rfl, rfl⟩
      go_wp2_with fail
      refine (least_some w4.heap.size 0 1 1 [x] _ rfl (by omega) (by intro y hy; simp at hy; omega) (floats_new w4 [x] 24)).mono ?_
      rw [right_no_least1 x HR.out]
      rintro e w5 ⟨rfl, hw5⟩
      have hb5 : Below (w1.heap.size + 1) W0 w5 := by rw [hw5]; exact hb2.alloc (by have := hb2.size; have := HS.out; omega) _
      clear hw5 hb2
      go_wp2_with fail
      refine (least_some w5.heap.size 0 4 4 [x, 4619567317775286272, x, 4619567317775286272] _ rfl (by omega) (by intro y hy; simp at hy; rcases hy with rfl | rfl | rfl | rfl <;> omega) (floats_new w5 [x, 4619567317775286272, x, 4619567317775286272] 24)).mono ?_
      rw [right_no_least4 x HR.out]
      rintro e w6 ⟨rfl, hw6⟩
      have hb6 : Below (w1.heap.size + 1) W0 w6 := by rw [hw6]; exact hb5.alloc (by have := hb5.size; have := HS.out; omega) _
      clear hw6 hb5
      go_wp2
      go_roundw
      case rel => exact ⟨k + 1, by omega, by go_num, hb6⟩
      case measure => simp [intOf]; omega
    · have hbw : Below w1.heap.size w1 wr := hb0.trans (hbr.mono (by omega))
      have HTr := HT.below hbw
      have HN := Lib.hid (show 1 ≤ n ∧ n ≤ 1000 from ⟨hn1, hn2⟩)
      have o1 : FloatKind.f64.format.order 9218868437227405312 9214871658872686752 = some .gt := by kernel_rfl
      have o2 : FloatKind.f64.format.order 9218868437227405312 9218868437227405312 = some .eq := by kernel_rfl
      have o3 : FloatKind.f64.format.order 0 0 = some .eq := by kernel_rfl
      have o4 : FloatKind.f64.format.order 4607182418800017408 4607182418800017408 = some .eq := by kernel_rfl
      have o5 : FloatKind.f64.format.order 9221120237041090561 9221120237041090561 = none := by kernel_rfl
      have r1 : Fl.right 9218868437227405312 = true := by decide
      clear hbr hb0 HX HC HS hF hF0
      go_wp2_with fail
      refine (part_whole _).mono ?_
      rintro e w2 ⟨rfl, rfl⟩
      go_wp2_with fail
      refine (right_any _ (by decide) _).mono ?_
      rintro e w3 ⟨rfl, rfl⟩
      go_wp2_with fail
      refine (sum_some w3.heap.size 0 2 2 [9218868437227405312, 4607182418800017408] _ rfl (by omega) (by intro y hy; simp at hy; omega) (floats_new w3 [9218868437227405312, 4607182418800017408] 24)).mono ?_
      rw [show Fl.sumW [9218868437227405312, 4607182418800017408] = 9218868437227405312 by decide +kernel]
      rintro e w4 ⟨rfl, hw⟩
      have hb4 : Below w1.heap.size w1 w4 := by rw [hw]; exact hbw.alloc hbw.size _
      clear hw hbw HTr
      go_wp2_with fail
      refine (sum_empty none 0 _).mono ?_
      rintro e w5 ⟨rfl, rfl⟩
      go_wp2_with fail
      refine (least_some w5.heap.size 0 2 2 [9218868437227405312, 9218868437227405312] _ rfl (by omega) (by intro y hy; simp at hy; omega) (floats_new w5 [9218868437227405312, 9218868437227405312] 24)).mono ?_
      rw [show (Fl.pick [9218868437227405312, 9218868437227405312]).1 = -1 by decide +kernel]
      rintro e w6 ⟨rfl, hw⟩
      have hb6 : Below w1.heap.size w1 w6 := by rw [hw]; exact hb4.alloc hb4.size _
      clear hw hb4
      go_wp2_with fail
      refine (least_some w6.heap.size 0 4 4 [9218868437227405312, 4613937818241073152, 4611686018427387904, 4611686018427387904] _ rfl (by omega) (by intro y hy; simp at hy; omega) (floats_new w6 [9218868437227405312, 4613937818241073152, 4611686018427387904, 4611686018427387904] 24)).mono ?_
      rw [show (Fl.pick [9218868437227405312, 4613937818241073152, 4611686018427387904, 4611686018427387904]).1 = 2 by decide +kernel]
      rintro e w7 ⟨rfl, hw⟩
      have hb7 : Below w1.heap.size w1 w7 := by rw [hw]; exact hb6.alloc hb6.size _
      clear hw hb6
      go_wp2_with fail
      refine (print_endless _).mono ?_
      rintro e w8 ⟨rfl, rfl⟩
      go_wp2_with fail
      refine (part_endless _ (by omega) (by omega) _).mono ?_
      rintro e w9 ⟨rfl, rfl⟩
      go_wp2_with fail
      refine (part_fin 0 n (by decide) (by omega) (by omega) 0 (Fl.div_zero_pos _ (Fl.ofNat_lt n (by omega)) (Fl.ofNat_pos n hn1 (by omega))) _).mono ?_
      rintro e w10 ⟨rfl, rfl⟩
      go_wp2_with fail
      refine (part_fin n n (by omega) (by omega) (by omega) 4607182418800017408 (Fl.same_parts ⟨n, by omega⟩ hn1) _).mono ?_
      rintro e w11 ⟨rfl, rfl⟩
      go_wp2_with fail
      rw [show 3 * (n : Int) = ((3 * n : Nat) : Int) by omega, show 4 * (n : Int) = ((4 * n : Nat) : Int) by omega]
      refine (part_fin (3 * n) (4 * n) (by omega) (by omega) (by omega) 4604930618986332160 (Fl.three_fourths ⟨n, by omega⟩ hn1) _).mono ?_
      rintro e w12 ⟨rfl, rfl⟩
      go_wp2_with fail
      refine (print_fin 4604930618986332160 (by decide) _ (HT.below hb7)).mono ?_
      rintro e w13 ⟨rfl, hbb⟩
      have hb13 : Below w1.heap.size w1 w13 := hb7.trans (hbb.mono hb7.size)
      clear hbb hb7
      rw [text_seven]
      go_wp2_with fail
      refine (print_big 4816244402031689728 (by decide) (by decide) _).mono ?_
      rintro e w14 ⟨rfl, rfl⟩
      go_wp2_with fail
      refine (part_bad _ 1 (.inl (.inl (by omega))) _).mono ?_
      rintro e w15 ⟨rfl, rfl⟩
      go_wp2_with fail
      refine (part_bad _ 1 (.inl (.inl (by omega))) _).mono ?_
      rintro e w16 ⟨rfl, rfl⟩
      go_wp2_with fail
      refine (wakes_any _ (HT.below hb13)).mono ?_
      rintro e w17 ⟨rfl, hbb⟩
      have hb17 : Below w1.heap.size w1 w17 := hb13.trans (hbb.mono hb13.size)
      go_wp2
      go_ret
      exact ⟨rfl, hb17⟩
end Go.Proofs.YtdnilgpbfabafaaDoor
