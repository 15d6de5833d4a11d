/- What package cost's calls give: each a contract over any world. -/
import Derived.Test.YtdnilgpbfabafaaDoorLeafs
import Derived.Test.YtdnilgpbfabafaaDoorShelf
import Derived.LoopTactic
import Derived.Below
import Derived.WalkSmall
import Derived.IntWalk
import Derived.Lib.ItoaLen
import Derived.Lib.LaidTab
import Derived.Stop.LaidErr
import Derived.LaidMore
namespace Go.Proofs.YtdnilgpbfabafaaDoor
open Go.RowKit

theorem ofInt_nat (n : Nat) : floatOfInt .f64 (n : Int) = Fl.ofNat n := by
  show Ieee.double.nearest (decide ((n : Int) < 0)) (n : Int).natAbs 0 = _
  rw [decide_eq_false (by omega), Int.natAbs_natCast]; rfl

theorem gTab : Tryd.prog.globalNamed "internal/strconv.uint64pow10" = some 1 := by kernel_rfl

/-! ### A part -/
theorem part_bad (s a : Int) (h : (s < 0 ∨ 1073741824 < s) ∨ (a < 0 ∨ 1073741824 < a)) (w : World) :
    Calls Tryd.prog 9 #[.int .i64 s, .int .i64 a] w fun e w' => e = .returned (.float .f64 9221120237041090561) ∧ w' = w := by
  by_cases c : s < 0 ∨ 1073741824 < s
  · have C := Lib.hid c
    clear h c
    go_enter Tryd.func9, Tryd.ntmps9
    go_wp2_with (first | (go_at_call 23; refine (counted_no _ C.out _).mono ?_; rintro e w' ⟨rfl, rfl⟩) | (go_at_call 24; refine (nan_any _).mono ?_; rintro e w' ⟨rfl, rfl⟩))
    go_ret
    exact ⟨rfl, rfl⟩
  · have d : a < 0 ∨ 1073741824 < a := h.resolve_left c
    have c1 : 0 ≤ s := by omega
    have c2 : s ≤ 1073741824 := by omega
    have D := Lib.hid d
    clear h c d
    go_enter Tryd.func9, Tryd.ntmps9
    go_wp2_with fail
    refine (counted_yes _ c1 c2 _).mono ?_; rintro e w' ⟨rfl, rfl⟩
    go_wp2_with fail
    refine (counted_no _ D.out _).mono ?_; rintro e w' ⟨rfl, rfl⟩
    go_wp2_with (go_at_call 24; refine (nan_any _).mono ?_; rintro e w' ⟨rfl, rfl⟩)
    go_ret
    exact ⟨rfl, rfl⟩
theorem part_fin (s a : Nat) (hs : s ≤ 1073741824) (ha : a ≤ 1073741824) (h0 : 0 < a) (r : Nat) (hr : Ieee.double.div (Fl.ofNat s) (Fl.ofNat a) = some r) (w : World) :
    Calls Tryd.prog 9 #[.int .i64 s, .int .i64 a] w fun e w' => e = .returned (.float .f64 r) ∧ w' = w := by
  have hq : ∀ t w, (binOp .quo t (.float .f64 (floatOfInt .f64 (s : Int))) (.float .f64 (floatOfInt .f64 (a : Int)))).run Tryd.prog w = .ok (.float .f64 r) w := fun t w => by
    rw [ofInt_nat, ofInt_nat]; exact run_float_arith w .quo t .f64 _ _ _ hr
  clear hr
  go_enter Tryd.func9, Tryd.ntmps9
  go_wp2_with (go_at_call 23; refine (counted_yes _ (by omega) (by omega) _).mono ?_; rintro e w' ⟨rfl, rfl⟩)
  go_ret
  exact ⟨rfl, rfl⟩
theorem part_whole (w : World) : Calls Tryd.prog 9 #[.int .i64 0, .int .i64 0] w fun e w' => e = .returned (.float .f64 4607182418800017408) ∧ w' = w := by
  go_enter Tryd.func9, Tryd.ntmps9
  go_wp2_with (go_at_call 23; refine (counted_yes _ (by omega) (by omega) _).mono ?_; rintro e w' ⟨rfl, rfl⟩)
  go_ret
  exact ⟨rfl, rfl⟩
theorem part_endless (s : Int) (h0 : 0 < s) (hs : s ≤ 1073741824) (w : World) :
    Calls Tryd.prog 9 #[.int .i64 s, .int .i64 0] w fun e w' => e = .returned (.float .f64 9218868437227405312) ∧ w' = w := by
  have h1 : (s == 0) = false := by simp; omega
  go_enter Tryd.func9, Tryd.ntmps9
  go_wp2_with (first | (go_at_call 23; refine (counted_yes _ (by omega) (by omega) _).mono ?_; rintro e w' ⟨rfl, rfl⟩) | (go_at_call 16; refine (endless_any _).mono ?_; rintro e w' ⟨rfl, rfl⟩))
  go_ret
  exact ⟨rfl, rfl⟩

/-! ### A cost as a text -/
theorem isinf_yes (w : World) : Calls Tryd.prog 25 #[.float .f64 9218868437227405312, .int .i64 1] w fun e w' => e = .returned (.bool true) ∧ w' = w := by
  have ho : FloatKind.f64.format.order 9218868437227405312 9218868437227405311 = some .gt := by kernel_rfl
  go_enter Tryd.func25, Tryd.ntmps25
  go_wp2
  go_ret
  exact ⟨rfl, rfl⟩
theorem isinf_no (b : Nat) (h : b < 9218868437227405312) (w : World) : Calls Tryd.prog 25 #[.float .f64 b, .int .i64 1] w fun e w' => e = .returned (.bool false) ∧ w' = w := by
  have ho : (FloatKind.f64.format.order b 9218868437227405311 == some .gt) = false := by
    show (Ieee.double.order b 9218868437227405311 == some .gt) = false
    rw [Fl.order_le b _ (by unfold Fl.inf; omega) (by decide)]
    rcases Nat.eq_or_lt_of_le (show b ≤ 9218868437227405311 by omega) with rfl | h2
    · decide
    · rw [Nat.compare_eq_lt.2 h2]; rfl
  clear h
  go_enter Tryd.func25, Tryd.ntmps25
  go_wp2
  go_ret
  exact ⟨rfl, rfl⟩

theorem print_none (b : Nat) (hb : b < 18446744073709551616) (h : Fl.right b = false) (w : World) : Calls Tryd.prog 10 #[.float .f64 b] w fun e w' => e = .returned (.string ⟨#[110, 111, 110, 101]⟩) ∧ w' = w := by
  go_enter Tryd.func10, Tryd.ntmps10
  go_wp2_with (go_at_call 11; refine (right_any _ hb _).mono ?_; rintro e w' ⟨rfl, rfl⟩)
  go_ret
  exact ⟨rfl, rfl⟩
theorem print_endless (w : World) : Calls Tryd.prog 10 #[.float .f64 9218868437227405312] w fun e w' => e = .returned (.string ⟨#[101, 110, 100, 108, 101, 115, 115]⟩) ∧ w' = w := by
  have hr : Fl.right 9218868437227405312 = true := by decide
  go_enter Tryd.func10, Tryd.ntmps10
  go_wp2_with (first | (go_at_call 11; refine (right_any _ (by omega) _).mono ?_; rintro e w' ⟨rfl, rfl⟩) | (go_at_call 25; refine (isinf_yes _).mono ?_; rintro e w' ⟨rfl, rfl⟩))
  go_ret
  exact ⟨rfl, rfl⟩
theorem print_big (b : Nat) (h1 : 4816244402031689728 ≤ b) (h2 : b < 9218868437227405312) (w : World) : Calls Tryd.prog 10 #[.float .f64 b] w fun e w' => e = .returned (.string ⟨#[98, 105, 103]⟩) ∧ w' = w := by
  have hr : Fl.right b = true := decide_eq_true (by unfold Fl.inf; omega)
  have ho : (FloatKind.f64.format.order b 4816244402031689728 == some .gt || FloatKind.f64.format.order b 4816244402031689728 == some .eq) = true := by
    show (Ieee.double.order b 4816244402031689728 == some .gt || Ieee.double.order b 4816244402031689728 == some .eq) = true
    rw [Fl.order_le b _ (by unfold Fl.inf; omega) (by decide)]
    rcases Nat.eq_or_lt_of_le h1 with rfl | h3
    · decide
    · rw [Nat.compare_eq_gt.2 h3]; rfl
  have H1 := Lib.hid h1
  have H2 := Lib.hid h2
  clear h1 h2
  go_enter Tryd.func10, Tryd.ntmps10
  go_wp2_with (first | (go_at_call 11; refine (right_any _ (by have := H2.out; omega) _).mono ?_; rintro e w' ⟨rfl, rfl⟩) | (go_at_call 25; refine (isinf_no _ H2.out _).mono ?_; rintro e w' ⟨rfl, rfl⟩))
  go_ret
  exact ⟨rfl, rfl⟩

theorem below_grow (w : World) (k : Nat) (os : Array Obj) : Below w.heap.size w (Sort.grow (w.drewN k) os) :=
  ⟨rfl, rfl, rfl, by show w.heap.size ≤ (w.heap ++ os).size; simp, fun i hi => by
    show (w.heap ++ os)[i]? = _
    rw [Array.getElem?_append_left hi]⟩

/-- The text of a number of tenths. -/
def text (t : Nat) : List UInt8 := Lib.decDigits (t / 10) ++ [46] ++ Lib.decDigits (t % 10)
theorem conv_tenths (b : Nat) (h : b < 4816244402031689728) (t : TypeId) (ht : Tryd.prog.underlying t = some (.int .i64)) (w : World) : (convert 24 t (.float .f64 (Fl.R (Fl.V b * 10)))).run Tryd.prog w = .ok (.int .i64 (Fl.tenths b : Nat)) w := by
  refine run_convert_float_int w 24 t .f64 .i64 _ _ (by kernel_rfl) ht ?_
  have h1 := (Fl.tenths_le b h).1
  have h2 := Fl.toInt_tenths b h
  unfold floatToIntVal
  show (match (Ieee.double.read (Fl.R (Fl.V b * 10))).toInt .zero with | some n => if _ then some n else none | none => none) = _
  rw [h2]
  generalize Fl.tenths b = q at *
  show (if _ then some (q : Int) else none) = _
  rw [if_pos]
  exact ⟨by show (-9223372036854775808 : Int) ≤ _; omega, by show _ ≤ (9223372036854775807 : Int); omega⟩
theorem cat (a b : Array UInt8) : (⟨a⟩ ++ ⟨b⟩ : ByteArray) = ⟨a ++ b⟩ := ByteArray.ext (by simp [ByteArray.data_append])
theorem ret_string {a b : ByteArray} (h : a = b) : Ending.returned (.string a) = .returned (.string b) := by rw [h]

/-- The table of the powers of ten is as its initialiser lays it. -/
def Tab (w : World) : Prop := Lib.TabIs Tryd.prog w "internal/strconv.uint64pow10" .u64 Lib.pow10Tab
theorem Tab.below {w w' : World} (h : Tab w) (hb : Below w.heap.size w w') : Tab w' := by
  have hc : w.cell? ⟨1, 0, none⟩ = some _ := Lib.TabIs.cell h gTab 0 (by decide)
  have hlt : 1 < w.heap.size := by
    rcases Nat.lt_or_ge 1 w.heap.size with h1 | h1
    · exact h1
    · have : w.heap[1]? = none := Array.getElem?_eq_none h1
      simp [World.cell?, this] at hc
  exact var?_below hb gTab hlt h

/-- From the row's list to the table's fact. -/
theorem tab_of {W : World} {D1 D2 : DataW Unit} (h : laidMetH Tryd.prog [("math/bits.deBruijn32tab", D1), ("math/bits.deBruijn64tab", D2), ("internal/strconv.uint64pow10", Lib.tabData .u64 Lib.pow10Tab)] W) (hp : (∀ W, laidMetH Tryd.prog [("math/bits.deBruijn32tab", D1), ("math/bits.deBruijn64tab", D2), ("internal/strconv.uint64pow10", Lib.tabData .u64 Lib.pow10Tab)] W → laidMet Tryd.prog [("math/bits.deBruijn32tab", D1), ("math/bits.deBruijn64tab", D2), ("internal/strconv.uint64pow10", Lib.tabData .u64 Lib.pow10Tab)] W)) : Tab W :=
  Lib.tabIs_of_head gTab (by kernel_rfl) Tryd.underlying58 Tryd.underlying48 (by kernel_rfl) (by kernel_rfl) (hp W h).tail.tail

theorem print_core (b r : Nat) (T : Int) (H : Hid (b < 4816244402031689728)) (h0 : 0 ≤ T) (h1 : T ≤ 1125899906842624) (w : World) (HT : Tab w)
    (hm : ∀ t w, (binOp .mul t (.float .f64 b) (.float .f64 4621819117588971520)).run Tryd.prog w = .ok (.float .f64 r) w) (hc : ∀ w, (convert 24 2 (.float .f64 r)).run Tryd.prog w = .ok (.int .i64 T) w) :
    Calls Tryd.prog 10 #[.float .f64 b] w fun e w' => e = .returned (.string ⟨(Lib.itoa (T / 10) ++ [46] ++ Lib.itoa (T % 10)).toArray⟩) ∧ Below w.heap.size w w' := by
  have hr : Fl.right b = true := decide_eq_true (by have := H.out; unfold Fl.inf; omega)
  have ho : (FloatKind.f64.format.order b 4816244402031689728 == some .gt || FloatKind.f64.format.order b 4816244402031689728 == some .eq) = false := by
    show (Ieee.double.order b 4816244402031689728 == some .gt || Ieee.double.order b 4816244402031689728 == some .eq) = false
    rw [Fl.order_le b _ (by have := H.out; unfold Fl.inf; omega) (by decide), Nat.compare_eq_lt.2 H.out]; rfl
  go_enter Tryd.func10, Tryd.ntmps10
  go_wp2_with (first | (go_at_call 11; refine (right_any _ (by have := H.out; omega) _).mono ?_; rintro e w' ⟨rfl, rfl⟩) | (go_at_call 25; refine (isinf_no _ (by have := H.out; omega) _).mono ?_; rintro e w' ⟨rfl, rfl⟩))
  refine (Tryd.strconv_FormatInt_10 (T / 10) (by omega) (by omega) _ HT).mono ?_
  rintro e w1 ⟨rfl, k1, os1, hw1⟩
  have hb1 : Below w'.heap.size w' w1 := by rw [hw1]; exact below_grow _ _ _
  clear hw1
  have HT1 := HT.below hb1
  have hl1 := Lib.itoa_length_le (T / 10) (by omega) (by omega)
  generalize e1 : Lib.itoa (T / 10) = l1 at *
  have E1 := Lib.hid e1
  clear e1
  go_wp2_with fail
  refine (Tryd.strconv_FormatInt_10 (T % 10) (by omega) (by omega) _ HT1).mono ?_
  rintro e w2 ⟨rfl, k2, os2, hw2⟩
  have hb2 : Below w1.heap.size w1 w2 := by rw [hw2]; exact below_grow _ _ _
  clear hw2
  have hl2 := Lib.itoa_length_le (T % 10) (by omega) (by omega)
  generalize e2 : Lib.itoa (T % 10) = l2 at *
  have E2 := Lib.hid e2
  clear e2
  go_wp2
  go_ret
  refine ⟨ret_string ?_, hb1.trans (hb2.mono hb1.size)⟩
  rw [E1.out, E2.out]
  show (_ ++ _ ++ _ : ByteArray) = _
  rw [cat, cat]
  simp

theorem itoa_nat (n : Nat) : Lib.itoa (n : Int) = Lib.decDigits n := by
  unfold Lib.itoa; rw [if_neg (by omega)]; simp
theorem print_fin (b : Nat) (h : b < 4816244402031689728) (w : World) (HT : Tab w) :
    Calls Tryd.prog 10 #[.float .f64 b] w fun e w' => e = .returned (.string ⟨(text (Fl.tenths b)).toArray⟩) ∧ Below w.heap.size w w' := by
  obtain ⟨ht, hf⟩ := Fl.tenths_le b h
  refine (print_core b (Fl.R (Fl.V b * 10)) (Fl.tenths b : Nat) h (by omega) (by omega) w HT (fun t w => run_float_arith w .mul t .f64 _ _ _ (Fl.mul_ten b (by unfold Fl.inf; omega))) (conv_tenths b h 2 Tryd.underlying2)).mono ?_
  rintro e w' ⟨rfl, hb⟩
  refine ⟨ret_string ?_, hb⟩
  generalize Fl.tenths b = t
  rw [show (t : Int) / 10 = ((t / 10 : Nat) : Int) by omega, show (t : Int) % 10 = ((t % 10 : Nat) : Int) by omega, itoa_nat, itoa_nat]
  rfl

/-! ### Sums, and the least -/
set_option maxHeartbeats 400000 in
theorem sum_some (b off cap len : Nat) (bs : List Nat) (w : World) (hz : Hid (len = bs.length)) (hbig : len ≤ 9223372036854775807) (hbs : Hid (∀ x ∈ bs, x < 18446744073709551616))
    (hc : ∀ j, j < len → w.cell? ⟨b, off + j, none⟩ = some (.float .f64 (bs.getD j 0))) :
    Calls Tryd.prog 12 #[.slice (some ⟨b, off, none⟩) len cap] w fun e w' => e = .returned (.float .f64 (Fl.sumW bs)) ∧ w' = w := by
  go_enter Tryd.func12, Tryd.ntmps12
  go_wp2
  go_loop [3, 8] (fun t i => ∃ k : Nat, k ≤ len ∧ i = .int .i64 k ∧ t = .float .f64 (Fl.total (bs.take k)) ∧ Hid ((bs.take k).all Fl.right = true)) (fun _ i => len - (intOf i).toNat)
  case atStart => exact ⟨0, Nat.zero_le _, rfl, rfl, rfl⟩
  case round =>
    obtain ⟨k, hk, rfl, rfl, ha⟩ := hrel
    by_cases hlt : k < len
    · have hk' : k < bs.length := by have := hz.out; omega
      have hcell := hc k hlt
      have hx := hbs.out _ (Fl.mem_getD bs k hk')
      have hts := Fl.take_snoc bs k hk'
      have hno := Fl.sumW_no bs k hk'
      have hal := Fl.all_snoc bs k hk' ha.out
      have hle := Fl.total_le (bs.take k)
      generalize bs.getD k 0 = x at *
      cases hr : Fl.right x
      · have hno := hno hr
        have HNO := Lib.hid hno
        clear hno hal hts hc hle
        go_wp2_with (first | (go_at_call 11; refine (right_any _ hx _).mono ?_; rintro e w' ⟨rfl, rfl⟩) | (go_at_call 24; refine (nan_any _).mono ?_; rintro e w' ⟨rfl, rfl⟩))
        go_ret
        exact ⟨ret_float HNO.out.symm, rfl⟩
      · have hadd : ∀ t w, (binOp .add t (.float .f64 (Fl.total (bs.take k))) (.float .f64 x)).run Tryd.prog w = .ok (.float .f64 (Fl.plus (Fl.total (bs.take k)) x)) w := fun t w =>
          run_float_arith w .add t .f64 _ _ _ (Fl.add_le _ _ hle (Fl.right_le hr))
        have hal := hal hr
        have HA := Lib.hid hal
        have HP : Hid (Fl.plus (Fl.total (bs.take k)) x = Fl.total (bs.take (k + 1))) := Lib.hid (by rw [hts, Fl.total_snoc])
        clear hno hal hts hle hc
        go_wp2_with (first | (go_at_call 11; refine (right_any _ hx _).mono ?_; rintro e w' ⟨rfl, rfl⟩) | (go_at_call 24; refine (nan_any _).mono ?_; rintro e w' ⟨rfl, rfl⟩))
        go_round
        case rel =>

          exact ⟨k + 1, by omega, by go_num, congrArg (Value.float .f64) HP.out, HA⟩
        case measure => simp [intOf]; omega
    · have hk2 : bs.take k = bs := List.take_of_length_le (by have := hz.out; omega)
      have HK := Lib.hid hk2
      clear hk2 hc
      go_wp2
      go_ret
      exact ⟨ret_float (by rw [HK.out]; exact (Fl.sumW_yes bs (by rw [← HK.out]; exact ha.out)).symm), rfl⟩
theorem sum_empty (a : Option Addr) (cap : Nat) (w : World) : Calls Tryd.prog 12 #[.slice a 0 cap] w fun e w' => e = .returned (.float .f64 0) ∧ w' = w := by
  go_enter Tryd.func12, Tryd.ntmps12
  go_wp2
  go_loop [3, 8] (fun t i => i = .int .i64 0 ∧ t = .float .f64 0) (fun _ _ => 0)
  case atStart => exact ⟨rfl, rfl⟩
  case round =>
    obtain ⟨rfl, rfl⟩ := hrel
    go_wp2
    go_ret
    exact ⟨rfl, rfl⟩

theorem least_empty (a : Option Addr) (cap : Nat) (w : World) : Calls Tryd.prog 15 #[.slice a 0 cap] w fun e w' => e = .returned (.int .i64 (-1)) ∧ w' = w := by
  go_enter Tryd.func15, Tryd.ntmps15
  go_wp2_with (go_at_call 16; refine (endless_any _).mono ?_; rintro e w' ⟨rfl, rfl⟩)
  go_loop [3, 10] (fun t i => i = .int .i64 0 ∧ t = .int .i64 (-1)) (fun _ _ => 0)
  case atStart => exact ⟨rfl, rfl⟩
  case round =>
    obtain ⟨rfl, rfl⟩ := hrel
    go_wp2
    go_ret
    exact ⟨rfl, rfl⟩

set_option maxHeartbeats 400000 in
theorem least_some (b off cap len : Nat) (bs : List Nat) (w : World) (hz : Hid (len = bs.length)) (hbig : len ≤ 9223372036854775807) (hbs : Hid (∀ x ∈ bs, x < 18446744073709551616))
    (hc : ∀ j, j < len → w.cell? ⟨b, off + j, none⟩ = some (.float .f64 (bs.getD j 0))) :
    Calls Tryd.prog 15 #[.slice (some ⟨b, off, none⟩) len cap] w fun e w' => e = .returned (.int .i64 (Fl.pick bs).1) ∧ w' = w := by
  go_enter Tryd.func15, Tryd.ntmps15
  go_wp2_with (go_at_call 16; refine (endless_any _).mono ?_; rintro e w' ⟨rfl, rfl⟩)
  go_loop [3, 4, 10] (fun p t i => ∃ k q : Nat, ∃ z : Int, k ≤ len ∧ i = .int .i64 k ∧ p = .int .i64 z ∧ t = .float .f64 q ∧ Hid (Fl.pick (bs.take k) = (z, q))) (fun _ _ i => len - (intOf i).toNat)
  case atStart => exact ⟨0, 9218868437227405312, -1, Nat.zero_le _, rfl, rfl, rfl, rfl⟩
  case round =>
    obtain ⟨k, q, z, hk, rfl, rfl, rfl, hp⟩ := hrel
    by_cases hlt : k < len
    · have hk' : k < bs.length := by have := hz.out; omega
      have hcell := hc k hlt
      have hx := hbs.out _ (Fl.mem_getD bs k hk')
      have hst := Fl.pick_step bs k hk'
      have hle := Fl.pick_le (bs.take k)
      rw [hp.out] at hst hle
      generalize bs.getD k 0 = x at *
      cases hr : Fl.right x
      · rw [hr, Bool.false_and, if_neg (by decide)] at hst
        have HST := Lib.hid hst
        clear hst hc hle
        go_wp2_with (go_at_call 11; refine (right_any _ hx _).mono ?_; rintro e w' ⟨rfl, rfl⟩)
        go_round
        case rel => exact ⟨k + 1, q, z, by omega, by go_num, rfl, rfl, HST⟩
        case measure => simp [intOf]; omega
      · have ho : (FloatKind.f64.format.order x q == some .lt) = decide (x < q) := Fl.order_lt x q (Fl.right_le hr) hle
        rw [hr, Bool.true_and] at hst
        cases hd : decide (x < q)
        · rw [hd] at ho hst
          rw [if_neg (by decide)] at hst
          have HST := Lib.hid hst
          clear hst hc hle hd
          go_wp2_with (go_at_call 11; refine (right_any _ hx _).mono ?_; rintro e w' ⟨rfl, rfl⟩)
          go_round
          case rel => exact ⟨k + 1, q, z, by omega, by go_num, rfl, rfl, HST⟩
          case measure => simp [intOf]; omega
        · rw [hd] at ho hst
          rw [if_pos rfl] at hst
          have HST := Lib.hid hst
          clear hst hc hle hd
          go_wp2_with (go_at_call 11; refine (right_any _ hx _).mono ?_; rintro e w' ⟨rfl, rfl⟩)
          go_round
          case rel => exact ⟨k + 1, x, k, by omega, by go_num, rfl, rfl, HST⟩
          case measure => simp [intOf]; omega
    · have hk2 : bs.take k = bs := List.take_of_length_le (by have := hz.out; omega)
      have HK := Lib.hid hk2
      clear hk2 hc
      go_wp2
      go_ret
      exact ⟨ret_int (by rw [← HK.out, hp.out]), rfl⟩

/-- The document's example. -/
theorem text_half : text (Fl.tenths 4602678819172646912) = [48, 46, 53] := by
  rw [show Fl.tenths 4602678819172646912 = 5 by decide +kernel]
  simp [text, Lib.decDigits]
theorem wakes_any (w : World) (HT : Tab w) : Calls Tryd.prog 13 #[] w fun e w' => e = .returned (.bool true) ∧ Below w.heap.size w w' := by
  go_enter Tryd.func13, Tryd.ntmps13
  go_wp2_with fail
  refine (part_fin 1 2 (by decide) (by decide) (by decide) 4602678819172646912 (by decide +kernel) _).mono ?_
  rintro e w1 ⟨rfl, rfl⟩
  go_wp2_with fail
  refine (print_fin 4602678819172646912 (by decide) _ HT).mono ?_
  rintro e w2 ⟨rfl, hb⟩
  rw [text_half]
  go_wp2_with fail
  refine (right_any 0 (by decide) _).mono ?_
  rintro e w3 ⟨rfl, rfl⟩
  have hr : Fl.right 0 = true := by decide
  go_wp2
  go_ret
  exact ⟨rfl, hb⟩

end Go.Proofs.YtdnilgpbfabafaaDoor
