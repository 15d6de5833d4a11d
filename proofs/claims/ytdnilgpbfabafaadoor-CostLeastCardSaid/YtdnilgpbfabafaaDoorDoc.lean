/- What the document's own sums, least ones, parts give: each a contract over any world. -/
import Derived.Test.YtdnilgpbfabafaaDoorRef
import Derived.Test.YtdnilgpbfabafaaDoorEdges
namespace Go.Proofs.YtdnilgpbfabafaaDoor
open Go.RowKit

/-- What a sum is: that of costs; or no number, if one is no cost. -/
def SumIs (bs : List Nat) (b : Nat) : Prop := (bs.all Fl.right = true ∧ b = Fl.total bs) ∨ (bs.all Fl.right = false ∧ b < 18446744073709551616 ∧ isNan b)
def SumPost (bs : List Nat) (w : World) (e : Ending) (w' : World) : Prop := ∃ b, e = .returned (.float .f64 b) ∧ SumIs bs b ∧ Below w.heap.size w w'
theorem sumIs_no (bs : List Nat) (k : Nat) (hk : k < bs.length) (h : Fl.right (bs.getD k 0) = false) (b : Nat) (hb : b < 18446744073709551616) (hn : isNan b) : SumIs bs b := by
  refine .inr ⟨?_, hb, hn⟩
  rw [Bool.eq_false_iff]
  intro ha
  rw [List.all_eq_true] at ha
  rw [ha _ (Fl.mem_getD bs k hk)] at h; cases h

set_option maxHeartbeats 400000 in
theorem ref_sum_some (b off cap len : Nat) (bs : List Nat) (w : World) (hz : Hid (len = bs.length)) (hbig : len ≤ 9223372036854775807) (hbs : Hid (∀ x ∈ bs, x < 18446744073709551616))
    (hc : ∀ j, j < len → w.cell? ⟨b, off + j, none⟩ = some (.float .f64 (bs.getD j 0))) :
    Calls Tryd.prog 20 #[.slice (some ⟨b, off, none⟩) len cap] w (SumPost bs w) := by
  go_enter Tryd.func20, Tryd.ntmps20
  go_wp2
  go_loop [3, 9] (fun t i => ∃ k : Nat, k ≤ len ∧ i = .int .i64 k ∧ t = .float .f64 (Fl.total (bs.take k)) ∧ Hid ((bs.take k).all Fl.right = true)) (fun _ i => len - (intOf i).toNat)
  case atStart => exact ⟨0, Nat.zero_le _, rfl, rfl, rfl⟩
  case round =>
    obtain ⟨k, hk, rfl, rfl, ha⟩ := hrel
    by_cases hlt : k < len
    · have hk' : k < bs.length := by have := hz.out; omega
      have hcell := hc k hlt
      have hx := hbs.out _ (Fl.mem_getD bs k hk')
      have hts := Fl.take_snoc bs k hk'
      have hno := sumIs_no bs k hk'
      have hal := Fl.all_snoc bs k hk' ha.out
      have hle := Fl.total_le (bs.take k)
      generalize bs.getD k 0 = x at *
      cases hr : Fl.right x
      · have HNO := Lib.hid (hno hr)
        obtain ⟨nn, hnn, hn3, hn4⟩ : ∃ nn, (∀ t, (binOp .quo t (.float .f64 0) (.float .f64 0)).run Tryd.prog w = .ok (.float .f64 nn) w.drew) ∧ nn < 18446744073709551616 ∧ isNan nn :=
          ⟨nanOf w 0 0, fun t => quo_none_run t 0 0 (by kernel_rfl) w, nanOf_nan w 0 0⟩
        have HN := Lib.hid (HNO.out nn hn3 hn4)
        clear hno hal hts hc hle hn3 hn4 HNO
        go_wp2_with (go_at_call 17; refine (ref_right_any _ hx _).mono ?_; rintro e w' ⟨rfl, rfl⟩)
        go_ret
        exact ⟨nn, rfl, HN.out, (Below.refl _ _).drew⟩
      · have hadd : ∀ t w, (binOp .add t (.float .f64 (Fl.total (bs.take k))) (.float .f64 x)).run Tryd.prog w = .ok (.float .f64 (Fl.plus (Fl.total (bs.take k)) x)) w := fun t w =>
          run_float_arith w .add t .f64 _ _ _ (Fl.add_le _ _ hle (Fl.right_le hr))
        have HA := Lib.hid (hal hr)
        have HP : Hid (Fl.plus (Fl.total (bs.take k)) x = Fl.total (bs.take (k + 1))) := Lib.hid (by rw [hts, Fl.total_snoc])
        clear hno hal hts hle hc
        go_wp2_with (go_at_call 17; refine (ref_right_any _ hx _).mono ?_; rintro e w' ⟨rfl, rfl⟩)
        go_round
        case rel => exact ⟨k + 1, by omega, by go_num, congrArg (Value.float .f64) HP.out, HA⟩
        case measure => simp [intOf]; omega
    · have hk2 : bs.take k = bs := List.take_of_length_le (by have := hz.out; omega)
      have HK := Lib.hid hk2
      clear hk2 hc
      go_wp2
      go_ret
      exact ⟨_, rfl, .inl ⟨by rw [← HK.out]; exact ha.out, by rw [HK.out]⟩, Below.refl _ _⟩

theorem ref_sum_empty (a : Option Addr) (cap : Nat) (w : World) : Calls Tryd.prog 20 #[.slice a 0 cap] w (SumPost [] w) := by
  go_enter Tryd.func20, Tryd.ntmps20
  go_wp2
  go_loop [3, 9] (fun t i => i = .int .i64 0 ∧ t = .float .f64 0) (fun _ _ => 0)
  case atStart => exact ⟨rfl, rfl⟩
  case round =>
    obtain ⟨rfl, rfl⟩ := hrel
    go_wp2
    go_ret
    exact ⟨0, rfl, .inl ⟨rfl, rfl⟩, Below.refl _ _⟩

/-! ### The least -/
/-- What the least so far is: none, and endless; or one of the list's. -/
theorem pick_is (l : List Nat) : ∀ k, k ≤ l.length → (Fl.pick (l.take k) = (-1, Fl.inf)) ∨ ∃ j, j < k ∧ Fl.pick (l.take k) = ((j : Int), l.getD j 0) ∧ l.getD j 0 ≤ Fl.inf := by
  intro k
  induction k with
  | zero => intro _; exact .inl rfl
  | succ k ih =>
    intro hk
    rw [Fl.pick_step l k (by omega)]
    split
    · rename_i h
      simp only [Bool.and_eq_true] at h
      exact .inr ⟨k, by omega, rfl, Fl.right_le h.1⟩
    · rcases ih (by omega) with h | ⟨j, hj, h, hle⟩
      · exact .inl h
      · exact .inr ⟨j, by omega, h, hle⟩

set_option maxHeartbeats 1000000 in
theorem ref_least_some (b off cap len : Nat) (bs : List Nat) (w : World) (hz : Hid (len = bs.length)) (hbig : len ≤ 9223372036854775807) (hbs : Hid (∀ x ∈ bs, x < 18446744073709551616))
    (hc : ∀ j, j < len → w.cell? ⟨b, off + j, none⟩ = some (.float .f64 (bs.getD j 0))) :
    Calls Tryd.prog 21 #[.slice (some ⟨b, off, none⟩) len cap] w fun e w' => e = .returned (.int .i64 (Fl.pick bs).1) ∧ w' = w := by
  have HC := Lib.hid hc
  clear hc
  go_enter Tryd.func21, Tryd.ntmps21
  go_wp2
  go_loop [3, 8] (fun p i => ∃ k : Nat, ∃ z : Int, k ≤ len ∧ i = .int .i64 k ∧ p = .int .i64 z ∧ Hid ((Fl.pick (bs.take k)).1 = z)) (fun _ i => len - (intOf i).toNat)
  case atStart => exact ⟨0, -1, Nat.zero_le _, rfl, rfl, rfl⟩
  case round =>
    obtain ⟨k, z, hk, rfl, rfl, hp⟩ := hrel
    by_cases hlt : k < len
    · have hk' : k < bs.length := by have := hz.out; omega
      have hcell := HC.out k hlt
      have hx := hbs.out _ (Fl.mem_getD bs k hk')
      have hst := Fl.pick_step bs k hk'
      have hq := pick_is bs k (by omega)
      have hpk := hp.out
      generalize bs.getD k 0 = x at *
      cases hr : Fl.right x
      · rw [hr, Bool.false_and, if_neg (by decide)] at hst
        have HST := Lib.hid (show (Fl.pick (bs.take (k + 1))).1 = z by rw [hst, hpk])
        clear hst hq hpk
        go_wp2_with (go_at_call 17; refine (ref_right_any _ hx _).mono ?_; rintro e w' ⟨rfl, rfl⟩)
        go_round
        case rel => exact ⟨k + 1, z, by omega, by go_num, rfl, HST⟩
        case measure => simp [intOf]; omega
      · have hxi := Fl.right_le hr
        rw [hr, Bool.true_and] at hst
        by_cases hinf : x = 9218868437227405312
        · have hqle := Fl.pick_le (bs.take k)
          rw [if_neg (by rw [hinf]; simp; exact hqle)] at hst
          have HST := Lib.hid (show (Fl.pick (bs.take (k + 1))).1 = z by rw [hst, hpk])
          subst hinf
          clear hst hq hpk hqle hxi
          go_wp2_with (first | (go_at_call 17; refine (ref_right_any _ hx _).mono ?_; rintro e w' ⟨rfl, rfl⟩) | (go_at_call 29; refine (ref_endless_yes _).mono ?_; rintro e w' ⟨rfl, rfl⟩))
          go_round
          case rel => exact ⟨k + 1, z, by omega, by go_num, rfl, HST⟩
          case measure => simp [intOf]; omega
        · have hxl : x < 9218868437227405312 := by unfold Fl.inf at hxi; omega
          have HXL := Lib.hid hxl
          rcases hq with hq | ⟨j, hj, hq, hjle⟩
          · have hz1 : z = -1 := by rw [← hpk, hq]
            rw [hq] at hst
            dsimp only at hst
            rw [if_pos (decide_eq_true (show x < Fl.inf from hxl))] at hst
            have HST := Lib.hid (show (Fl.pick (bs.take (k + 1))).1 = (k : Int) by rw [hst])
            subst hz1
            clear hst hq hpk hxi hxl hinf
            go_wp2_with (first | (go_at_call 17; refine (ref_right_any _ hx _).mono ?_; rintro e w' ⟨rfl, rfl⟩) | (go_at_call 29; refine (ref_endless_no _ HXL.out _).mono ?_; rintro e w' ⟨rfl, rfl⟩))
            go_round
            case rel => exact ⟨k + 1, k, by omega, by go_num, rfl, HST⟩
            case measure => simp [intOf]; omega
          · have hz1 : z = (j : Int) := by rw [← hpk, hq]
            have hcj := HC.out j (by omega)
            rw [hq] at hst
            have ho : (FloatKind.f64.format.order x (bs.getD j 0) == some .lt) = decide (x < bs.getD j 0) := Fl.order_lt x _ hxi hjle
            generalize bs.getD j 0 = y at *
            subst hz1
            have hjl : j < len := by omega
            cases hd : decide (x < y)
            · rw [hd] at ho hst
              rw [if_neg (by decide)] at hst
              have HST := Lib.hid (show (Fl.pick (bs.take (k + 1))).1 = (j : Int) by rw [hst])
              clear hst hq hpk hxi hxl hinf hd hjle
              go_wp2_with (first | (go_at_call 17; refine (ref_right_any _ hx _).mono ?_; rintro e w' ⟨rfl, rfl⟩) | (go_at_call 29; refine (ref_endless_no _ HXL.out _).mono ?_; rintro e w' ⟨rfl, rfl⟩))
              go_round
              case rel => exact ⟨k + 1, j, by omega, by go_num, rfl, HST⟩
              case measure => simp [intOf]; omega
            · rw [hd] at ho hst
              rw [if_pos rfl] at hst
              have HST := Lib.hid (show (Fl.pick (bs.take (k + 1))).1 = (k : Int) by rw [hst])
              clear hst hq hpk hxi hxl hinf hd hjle
              go_wp2_with (first | (go_at_call 17; refine (ref_right_any _ hx _).mono ?_; rintro e w' ⟨rfl, rfl⟩) | (go_at_call 29; refine (ref_endless_no _ HXL.out _).mono ?_; rintro e w' ⟨rfl, rfl⟩))
              go_round
              case rel => exact ⟨k + 1, k, by omega, by go_num, rfl, HST⟩
              case measure => simp [intOf]; omega
    · have hk2 : bs.take k = bs := List.take_of_length_le (by have := hz.out; omega)
      have HK := Lib.hid hk2
      clear hk2
      go_wp2
      go_ret
      exact ⟨ret_int (by rw [← hp.out, HK.out]), rfl⟩

/-! ### A part -/
def NanPost (w : World) (e : Ending) (w' : World) : Prop := ∃ b, e = .returned (.float .f64 b) ∧ b < 18446744073709551616 ∧ isNan b ∧ Below w.heap.size w w'
theorem ref_part_bad (s a : Int) (h : (s < 0 ∨ 1073741824 < s) ∨ (a < 0 ∨ 1073741824 < a)) (w : World) :
    Calls Tryd.prog 22 #[.int .i64 s, .int .i64 a] w (NanPost w) := by
  obtain ⟨nn, hnn, hn3, hn4⟩ : ∃ nn, (∀ t, (binOp .quo t (.float .f64 0) (.float .f64 0)).run Tryd.prog w = .ok (.float .f64 nn) w.drew) ∧ nn < 18446744073709551616 ∧ isNan nn :=
    ⟨nanOf w 0 0, fun t => quo_none_run t 0 0 (by kernel_rfl) w, nanOf_nan w 0 0⟩
  have HN := Lib.hid hn4
  clear hn4
  have split : (s < 0) ∨ (0 ≤ s ∧ 1073741824 < s) ∨ (0 ≤ s ∧ s ≤ 1073741824 ∧ a < 0) ∨ (0 ≤ s ∧ s ≤ 1073741824 ∧ 0 ≤ a ∧ 1073741824 < a) := by omega
  clear h
  rcases split with h | ⟨h1, h⟩ | ⟨h1, h2, h⟩ | ⟨h1, h2, h3, h⟩
  all_goals
    go_enter Tryd.func22, Tryd.ntmps22
    go_wp2
    go_ret
    exact ⟨nn, rfl, hn3, HN.out, (Below.refl _ _).drew⟩
theorem ref_part_whole (w : World) : Calls Tryd.prog 22 #[.int .i64 0, .int .i64 0] w fun e w' => e = .returned (.float .f64 4607182418800017408) ∧ w' = w := by
  go_enter Tryd.func22, Tryd.ntmps22
  go_wp2
  go_ret
  exact ⟨rfl, rfl⟩
theorem ref_part_fin (s a : Nat) (hs : s ≤ 1073741824) (ha : a ≤ 1073741824) (h0 : 0 < s ∨ 0 < a) (r : Nat) (hr : Ieee.double.div (Fl.ofNat s) (Fl.ofNat a) = some r) (w : World) :
    Calls Tryd.prog 22 #[.int .i64 s, .int .i64 a] w fun e w' => e = .returned (.float .f64 r) ∧ w' = w := by
  have hq : ∀ t w, (binOp .quo t (.float .f64 (floatOfInt .f64 (s : Int))) (.float .f64 (floatOfInt .f64 (a : Int)))).run Tryd.prog w = .ok (.float .f64 r) w := fun t w => by
    rw [ofInt_nat, ofInt_nat]; exact run_float_arith w .quo t .f64 _ _ _ hr
  clear hr
  by_cases c : a = 0
  · have hs0 : ((s : Int) == 0) = false := by simp; omega
    subst c
    have hq' : ∀ t w, (binOp .quo t (.float .f64 (floatOfInt .f64 (s : Int))) (.float .f64 (floatOfInt .f64 0))).run Tryd.prog w = .ok (.float .f64 r) w := hq
    show Calls Tryd.prog 22 #[.int .i64 s, .int .i64 0] w _
    clear h0 hq
    go_enter Tryd.func22, Tryd.ntmps22
    go_wp2
    go_ret
    exact ⟨rfl, rfl⟩
  · have ha0 : ((a : Int) == 0) = false := by simp; omega
    clear h0
    go_enter Tryd.func22, Tryd.ntmps22
    go_wp2
    go_ret
    exact ⟨rfl, rfl⟩

/-! ### Digits -/
theorem digit_cut : ∀ i : Fin 10, ((⟨#[48, 49, 50, 51, 52, 53, 54, 55, 56, 57]⟩ : ByteArray).extract i.val 10).extract 0 1 = ⟨#[UInt8.ofNat (48 + i.val)]⟩ := by decide +kernel
set_option maxHeartbeats 400000 in
theorem digits_small (n : Nat) (h : n < 10) (w : World) : Calls Tryd.prog 30 #[.int .i64 n] w fun e w' => e = .returned (.string ⟨(Lib.decDigits n).toArray⟩) ∧ w' = w := by
  go_enter Tryd.func30, Tryd.ntmps30
  go_wp2
  go_ret
  exact ⟨ret_string (by rw [Lib.decDigits_one h]; exact digit_cut ⟨n, h⟩), rfl⟩
set_option maxHeartbeats 1000000 in
theorem digits_any (n : Nat) (h : n ≤ 1125899906842624) (w : World) : Calls Tryd.prog 30 #[.int .i64 n] w fun e w' => e = .returned (.string ⟨(Lib.decDigits n).toArray⟩) ∧ ∃ k, w' = w.drewN k := by
  induction n using Nat.strongRecOn generalizing w with
  | _ n ih =>
    by_cases h10 : n < 10
    · exact (digits_small n h10 w).mono fun e w' h => ⟨h.1, 0, h.2⟩
    · have hih := ih (n / 10) (by omega) (by omega)
      have HIH := Lib.hid hih
      have hdd : Lib.decDigits n = Lib.decDigits (n / 10) ++ [UInt8.ofNat (48 + n % 10)] := by rw [Lib.decDigits]; simp [h10]
      have hlen := Lib.itoa_length_le ((n / 10 : Nat) : Int) (by omega) (by omega)
      rw [itoa_nat] at hlen
      have HDD := Lib.hid hdd
      have HCUT := Lib.hid (digit_cut ⟨n % 10, Nat.mod_lt _ (by decide)⟩)
      clear hdd hih ih
      go_enter Tryd.func30, Tryd.ntmps30
      go_wp2_with fail
      obtain ⟨d, hd⟩ : ∃ d : Nat, d = n / 10 := ⟨_, rfl⟩
      obtain ⟨r, hr⟩ : ∃ r : Nat, r = n % 10 := ⟨_, rfl⟩
      have e1 : IntKind.i64.wrap ((n : Int).tdiv 10) = (d : Int) := by
        rw [Int.tdiv_eq_ediv_of_nonneg (by omega), IntWalk.i64_in _ (by omega)]; omega
      have e5 : IntKind.i64.wrap (d : Int) = (d : Int) := IntWalk.i64_in _ (by omega)
      have HW : Hid (wrap64 (d : Int) = (d : Int)) := by show wrap64 (d : Int) = (d : Int); unfold wrap64; omega
      have e2 : (n : Int).tmod 10 = (r : Int) := by rw [Int.tmod_eq_emod_of_nonneg (by omega)]; omega
      have e3 : (n : Int) / 10 = (d : Int) := by omega
      have e4 : (n : Int) % 10 = (r : Int) := by omega
      have b1 : (0 : Int) ≤ (r : Int) := by omega
      have b2 : (r : Int) ≤ 10 := by omega
      have b3 : r ≤ 10 := by omega
      rw [← hd] at HIH hlen HDD
      rw [← hr] at HDD HCUT
      clear h h10 hd hr
      go_quiet ((go_at_call 30; (try rw [HW.out]); exact Calls.quiet_of (HIH.out _)))
      clear e1 e5 e2 e3 e4 HW HIH
      have hsz : (Lib.decDigits n).toArray = (Lib.decDigits d).toArray ++ #[UInt8.ofNat (48 + r)] := by rw [HDD.out]; simp
      have HSZ := Lib.hid hsz
      clear hsz
      go_wp2
      go_ret
      exact ⟨ret_string (by rw [HCUT.out, cat, HSZ.out]), nq, rfl⟩

/-! ### A cost as a text, as the document has it -/
theorem ref_cost_none (b : Nat) (hb : b < 18446744073709551616) (h : Fl.right b = false) (w : World) : Calls Tryd.prog 18 #[.float .f64 b] w fun e w' => e = .returned (.string ⟨#[110, 111, 110, 101]⟩) ∧ w' = w := by
  go_enter Tryd.func18, Tryd.ntmps18
  go_wp2_with (go_at_call 17; refine (ref_right_any _ hb _).mono ?_; rintro e w' ⟨rfl, rfl⟩)
  go_ret
  exact ⟨rfl, rfl⟩
theorem ref_cost_endless (w : World) : Calls Tryd.prog 18 #[.float .f64 9218868437227405312] w fun e w' => e = .returned (.string ⟨#[101, 110, 100, 108, 101, 115, 115]⟩) ∧ w' = w := by
  have hr : Fl.right 9218868437227405312 = true := by decide
  go_enter Tryd.func18, Tryd.ntmps18
  go_wp2_with (first | (go_at_call 17; refine (ref_right_any _ (by omega) _).mono ?_; rintro e w' ⟨rfl, rfl⟩) | (go_at_call 29; refine (ref_endless_yes _).mono ?_; rintro e w' ⟨rfl, rfl⟩))
  go_ret
  exact ⟨rfl, rfl⟩
theorem ref_cost_big (b : Nat) (h1 : 4816244402031689728 ≤ b) (h2 : b < 9218868437227405312) (w : World) : Calls Tryd.prog 18 #[.float .f64 b] w fun e w' => e = .returned (.string ⟨#[98, 105, 103]⟩) ∧ w' = w := by
  have hr : Fl.right b = true := decide_eq_true (by unfold Fl.inf; omega)
  have ho : (FloatKind.f64.format.order b 4816244402031689728 == some .gt || FloatKind.f64.format.order b 4816244402031689728 == some .eq) = true := by
    show (Ieee.double.order b 4816244402031689728 == some .gt || Ieee.double.order b 4816244402031689728 == some .eq) = true
    rw [Fl.order_le b _ (by unfold Fl.inf; omega) (by decide)]
    rcases Nat.eq_or_lt_of_le h1 with rfl | h3
    · decide
    · rw [Nat.compare_eq_gt.2 h3]; rfl
  have H2 := Lib.hid h2
  clear h1 h2
  go_enter Tryd.func18, Tryd.ntmps18
  go_wp2_with (first | (go_at_call 17; refine (ref_right_any _ (by have := H2.out; omega) _).mono ?_; rintro e w' ⟨rfl, rfl⟩) | (go_at_call 29; refine (ref_endless_no _ H2.out _).mono ?_; rintro e w' ⟨rfl, rfl⟩))
  go_ret
  exact ⟨rfl, rfl⟩

theorem ref_cost_core (b r : Nat) (T q u : Nat) (H : Hid (b < 4816244402031689728)) (hT : T ≤ 1125899906842624) (hq : (T : Int) / 10 = (q : Int)) (hu : (T : Int) % 10 = (u : Int)) (w : World)
    (hm : ∀ t w, (binOp .mul t (.float .f64 b) (.float .f64 4621819117588971520)).run Tryd.prog w = .ok (.float .f64 r) w) (hc : ∀ w, (convert 24 3 (.float .f64 r)).run Tryd.prog w = .ok (.int .i64 T) w) :
    Calls Tryd.prog 18 #[.float .f64 b] w fun e w' => e = .returned (.string ⟨(Lib.decDigits q ++ [46] ++ Lib.decDigits u).toArray⟩) ∧ Below w.heap.size w w' := by
  have hr : Fl.right b = true := decide_eq_true (by have := H.out; unfold Fl.inf; omega)
  have ho : (FloatKind.f64.format.order b 4816244402031689728 == some .gt || FloatKind.f64.format.order b 4816244402031689728 == some .eq) = false := by
    show (Ieee.double.order b 4816244402031689728 == some .gt || Ieee.double.order b 4816244402031689728 == some .eq) = false
    rw [Fl.order_le b _ (by have := H.out; unfold Fl.inf; omega) (by decide), Nat.compare_eq_lt.2 H.out]; rfl
  have hq1 : q ≤ 1125899906842624 := by omega
  have hu1 : u ≤ 1125899906842624 := by omega
  have l1 := Lib.itoa_length_le (q : Int) (by omega) (by omega)
  have l2 := Lib.itoa_length_le (u : Int) (by omega) (by omega)
  rw [itoa_nat] at l1 l2
  have HQ := Lib.hid hq1
  have HU := Lib.hid hu1
  clear hq1 hu1
  go_enter Tryd.func18, Tryd.ntmps18
  go_wp2_with (first | (go_at_call 17; refine (ref_right_any _ (by have := H.out; omega) _).mono ?_; rintro e w' ⟨rfl, rfl⟩) | (go_at_call 29; refine (ref_endless_no _ (by have := H.out; omega) _).mono ?_; rintro e w' ⟨rfl, rfl⟩))
  refine (digits_any q HQ.out _).mono ?_
  rintro e w1 ⟨rfl, k1, hw1⟩
  have hb1 : Below w'.heap.size w' w1 := by rw [hw1]; exact below_drewN (Below.refl _ _) _
  clear hw1
  generalize hl1 : Lib.decDigits q = s1 at *
  have E1 := Lib.hid hl1
  clear hl1
  go_wp2_with fail
  refine (digits_any u HU.out _).mono ?_
  rintro e w2 ⟨rfl, k2, hw2⟩
  have hb2 : Below w1.heap.size w1 w2 := by rw [hw2]; exact below_drewN (Below.refl _ _) _
  clear hw2
  generalize hl2 : Lib.decDigits u = s2 at *
  have E2 := Lib.hid hl2
  clear hl2
  go_wp2
  go_ret
  refine ⟨ret_string ?_, hb1.trans (hb2.mono hb1.size)⟩
  rw [E1.out, E2.out]
  show (_ ++ _ ++ _ : ByteArray) = _
  rw [cat, cat]
  simp
theorem ref_cost_fin (b : Nat) (h : b < 4816244402031689728) (w : World) :
    Calls Tryd.prog 18 #[.float .f64 b] w fun e w' => e = .returned (.string ⟨(text (Fl.tenths b)).toArray⟩) ∧ Below w.heap.size w w' := by
  obtain ⟨ht, hf⟩ := Fl.tenths_le b h
  exact ref_cost_core b (Fl.R (Fl.V b * 10)) (Fl.tenths b) (Fl.tenths b / 10) (Fl.tenths b % 10) h (by omega) (by omega) (by omega) w
    (fun t w => run_float_arith w .mul t .f64 _ _ _ (Fl.mul_ten b (by unfold Fl.inf; omega))) (conv_tenths b h 3 Tryd.underlying3)
end Go.Proofs.YtdnilgpbfabafaaDoor
