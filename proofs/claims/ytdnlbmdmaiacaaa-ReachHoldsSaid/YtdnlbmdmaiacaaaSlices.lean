/- slices' functions at texts and numbers, and gram's small functions that only read: walked. -/
import Derived.Test.YtdnlbmdmaiacaaaSyms
namespace Go.Proofs.Ytdnlbmdmaiacaaa
open Go.RowKit
open Doc

set_option maxHeartbeats 1000000 in
theorem index_any (a : Option Addr) (cap : Nat) (l : List (List UInt8)) (s : List UInt8) (w : World) (h : Cells w a (strs l)) (hl : l.length ≤ 1000000) :
    Calls Try.prog 68 #[.slice a l.length cap, .string ⟨s.toArray⟩] w fun e w' => e = .returned (.int .i64 (oint (idx l s))) ∧ w' = w := by
  have HH := Lib.hid h
  clear h
  go_enter Try.func68, Try.ntmps68
  go_wp2
  go_loop [8] (fun i => ∃ k : Nat, k ≤ l.length ∧ i = .int .i64 k ∧ Hid (∀ j, j < k → l[j]? ≠ some s)) (fun i => l.length - (intOf i).toNat)
  case atStart => exact ⟨0, Nat.zero_le _, rfl, Lib.hid (by intro j hj; omega)⟩
  case round =>
    obtain ⟨k, hk, rfl, HB⟩ := hrel
    by_cases hlt : k < l.length
    · obtain ⟨x, hx⟩ : ∃ x, l[k]? = some x := ⟨_, List.getElem?_eq_getElem hlt⟩
      obtain ⟨b, off, rfl, hb, hc⟩ := HH.out.get (by unfold strs; intro e; rw [List.map_eq_nil_iff] at e; rw [e] at hlt; simp at hlt)
      have c0 := hc k _ (strs_at hx)
      have e1 : (k : Int) < l.length := by omega
      clear hc
      by_cases hxs : x = s
      · subst hxs
        have hres := Lib.hid (idx_first hx HB.out)
        go_wp2
        go_ret
        exact ⟨ret_int (by rw [hres.out]; rfl), rfl⟩
      · have hbs : (s == x) = false := by simpa using fun e : s = x => hxs e.symm
        have HB2 : Hid (∀ j, j < k + 1 → l[j]? ≠ some s) := Lib.hid fun j hj => by
          by_cases hjk : j = k
          · subst hjk; rw [hx]; simpa using hxs
          · exact HB.out j (by omega)
        go_wp2
        exact ⟨⟨k + 1, by omega, by go_num, HB2⟩, by simp [intOf]; omega⟩
    · have hres := Lib.hid (idx_never (l := l) (s := s) fun j hj => HB.out j (by omega))
      go_wp2
      go_ret
      exact ⟨ret_int (by rw [hres.out]; rfl), rfl⟩


theorem contains_any (a : Option Addr) (cap : Nat) (l : List (List UInt8)) (s : List UInt8) (w : World) (h : Cells w a (strs l)) (hl : l.length ≤ 1000000) :
    Calls Try.prog 94 #[.slice a l.length cap, .string ⟨s.toArray⟩] w fun e w' => e = .returned (.bool (idx l s).isSome) ∧ w' = w := by
  have HI := Lib.hid (index_any a cap l s w h hl)
  cases hi : idx l s with
  | none =>
    go_enter Try.func94, Try.ntmps94
    go_wp2_with (go_at_call 68; refine HI.out.mono ?_; rintro e w2 ⟨rfl, rfl⟩; rw [hi]; simp only [oint])
    go_ret
    exact ⟨rfl, rfl⟩
  | some k =>
    go_enter Try.func94, Try.ntmps94
    go_wp2_with (go_at_call 68; refine HI.out.mono ?_; rintro e w2 ⟨rfl, rfl⟩; rw [hi]; simp only [oint])
    go_ret
    exact ⟨ret_bool (by simp), rfl⟩

set_option maxHeartbeats 1000000 in
theorem equalI_any (a b : Option Addr) (ca cb : Nat) (x y : List Int) (w : World) (hx : Cells w a (nums x)) (hy : Cells w b (nums y)) (hxl : x.length ≤ 1000000) (hyl : y.length ≤ 1000000) :
    Calls Try.prog 102 #[.slice a x.length ca, .slice b y.length cb] w fun e w' => e = .returned (.bool (decide (x = y))) ∧ ∃ n, w' = w.drewN n := by
  have HX := Lib.hid hx
  have HY := Lib.hid hy
  clear hx hy
  have mixed : Try.prog.follows Departure.mixedOrders = true := by kernel_rfl
  by_cases hl : x.length = y.length
  · have hlb : ((x.length : Int) != (y.length : Int)) = false := by simp [hl]
    go_enter Try.func102, Try.ntmps102
    go_wp2
    go_loopw [13] (fun i wr => ∃ k n : Nat, k ≤ x.length ∧ i = .int .i64 k ∧ wr = w.drewN n ∧ Hid (∀ j, j < k → x[j]? = y[j]?)) (fun i _ => x.length - (intOf i).toNat)
    case atStart => exact ⟨0, 0, Nat.zero_le _, rfl, rfl, Lib.hid (by intro j hj; omega)⟩
    case round =>
      obtain ⟨k, n, hk, rfl, rfl, HB⟩ := hrel
      by_cases hlt : k < x.length
      · obtain ⟨u, hu⟩ : ∃ u, x[k]? = some u := ⟨_, List.getElem?_eq_getElem hlt⟩
        obtain ⟨v, hv⟩ : ∃ v, y[k]? = some v := ⟨_, List.getElem?_eq_getElem (by omega)⟩
        obtain ⟨b1, o1, rfl, hb1, hc1⟩ := HX.out.get (by unfold nums; intro e; rw [List.map_eq_nil_iff] at e; rw [e] at hlt; simp at hlt)
        obtain ⟨b2, o2, rfl, hb2, hc2⟩ := HY.out.get (by unfold nums; intro e; rw [List.map_eq_nil_iff] at e; rw [e] at hl; simp only [List.length_nil] at hl; omega)
        have c1 := hc1 k _ (nums_at hu)
        have c2 := hc2 k _ (nums_at hv)
        have e1 : (k : Int) < x.length := by omega
        have e2 : (k : Int) < y.length := by omega
        clear hc1 hc2
        by_cases huv : u = v
        · subst huv
          have HB2 : Hid (∀ j, j < k + 1 → x[j]? = y[j]?) := Lib.hid fun j hj => by
            by_cases hjk : j = k
            · subst hjk; rw [hu, hv]
            · exact HB.out j (by omega)
          go_wp2
          go_region
          go_wp2
          go_roundw
          case rel => exact ⟨k + 1, n + 1, by omega, by go_num, by simp, HB2⟩
          case measure => simp [intOf]; omega
        · have hres : decide (x = y) = false := by
            rw [decide_eq_false_iff_not]
            rintro rfl
            rw [hu] at hv
            exact huv (Option.some.inj hv)
          have hbs : (u == v) = false := by simpa using huv
          have HR := Lib.hid hres
          clear hres
          go_wp2
          go_region
          go_wp2
          go_ret
          exact ⟨ret_bool HR.out.symm, n + 1, by simp⟩
      · have hres : decide (x = y) = true := by
          rw [decide_eq_true_iff]
          apply List.ext_getElem?
          intro j
          by_cases hj : j < k
          · exact HB.out j hj
          · rw [List.getElem?_eq_none (by omega), List.getElem?_eq_none (by omega)]
        have e1 : ¬ (k : Int) < x.length := by omega
        have HR := Lib.hid hres
        clear hres
        go_wp2
        go_ret
        exact ⟨ret_bool HR.out.symm, n, rfl⟩
  · have hlb : ((x.length : Int) != (y.length : Int)) = true := by simp; omega
    have hres : decide (x = y) = false := by
      rw [decide_eq_false_iff_not]
      rintro rfl
      exact hl rfl
    have HR := Lib.hid hres
    clear hres
    go_enter Try.func102, Try.ntmps102
    go_wp2
    go_ret
    exact ⟨ret_bool HR.out.symm, 0, rfl⟩

set_option maxHeartbeats 1000000 in
theorem equalS_any (a b : Option Addr) (ca cb : Nat) (x y : List (List UInt8)) (w : World) (hx : Cells w a (strs x)) (hy : Cells w b (strs y)) (hxl : x.length ≤ 1000000) (hyl : y.length ≤ 1000000) :
    Calls Try.prog 65 #[.slice a x.length ca, .slice b y.length cb] w fun e w' => e = .returned (.bool (decide (x = y))) ∧ ∃ n, w' = w.drewN n := by
  have HX := Lib.hid hx
  have HY := Lib.hid hy
  clear hx hy
  have mixed : Try.prog.follows Departure.mixedOrders = true := by kernel_rfl
  by_cases hl : x.length = y.length
  · have hlb : ((x.length : Int) != (y.length : Int)) = false := by simp [hl]
    go_enter Try.func65, Try.ntmps65
    go_wp2
    go_loopw [13] (fun i wr => ∃ k n : Nat, k ≤ x.length ∧ i = .int .i64 k ∧ wr = w.drewN n ∧ Hid (∀ j, j < k → x[j]? = y[j]?)) (fun i _ => x.length - (intOf i).toNat)
    case atStart => exact ⟨0, 0, Nat.zero_le _, rfl, rfl, Lib.hid (by intro j hj; omega)⟩
    case round =>
      obtain ⟨k, n, hk, rfl, rfl, HB⟩ := hrel
      by_cases hlt : k < x.length
      · obtain ⟨u, hu⟩ : ∃ u, x[k]? = some u := ⟨_, List.getElem?_eq_getElem hlt⟩
        obtain ⟨v, hv⟩ : ∃ v, y[k]? = some v := ⟨_, List.getElem?_eq_getElem (by omega)⟩
        obtain ⟨b1, o1, rfl, hb1, hc1⟩ := HX.out.get (by unfold strs; intro e; rw [List.map_eq_nil_iff] at e; rw [e] at hlt; simp at hlt)
        obtain ⟨b2, o2, rfl, hb2, hc2⟩ := HY.out.get (by unfold strs; intro e; rw [List.map_eq_nil_iff] at e; rw [e] at hl; simp only [List.length_nil] at hl; omega)
        have c1 := hc1 k _ (strs_at hu)
        have c2 := hc2 k _ (strs_at hv)
        have e1 : (k : Int) < x.length := by omega
        have e2 : (k : Int) < y.length := by omega
        clear hc1 hc2
        by_cases huv : u = v
        · subst huv
          have HB2 : Hid (∀ j, j < k + 1 → x[j]? = y[j]?) := Lib.hid fun j hj => by
            by_cases hjk : j = k
            · subst hjk; rw [hu, hv]
            · exact HB.out j (by omega)
          go_wp2
          go_region
          go_wp2
          go_roundw
          case rel => exact ⟨k + 1, n + 1, by omega, by go_num, by simp, HB2⟩
          case measure => simp [intOf]; omega
        · have hres : decide (x = y) = false := by
            rw [decide_eq_false_iff_not]
            rintro rfl
            rw [hu] at hv
            exact huv (Option.some.inj hv)
          have hbs : (u == v) = false := by simpa using huv
          have HR := Lib.hid hres
          clear hres
          go_wp2
          go_region
          go_wp2
          go_ret
          exact ⟨ret_bool HR.out.symm, n + 1, by simp⟩
      · have hres : decide (x = y) = true := by
          rw [decide_eq_true_iff]
          apply List.ext_getElem?
          intro j
          by_cases hj : j < k
          · exact HB.out j hj
          · rw [List.getElem?_eq_none (by omega), List.getElem?_eq_none (by omega)]
        have e1 : ¬ (k : Int) < x.length := by omega
        have HR := Lib.hid hres
        clear hres
        go_wp2
        go_ret
        exact ⟨ret_bool HR.out.symm, n, rfl⟩
  · have hlb : ((x.length : Int) != (y.length : Int)) = true := by simp; omega
    have hres : decide (x = y) = false := by
      rw [decide_eq_false_iff_not]
      rintro rfl
      exact hl rfl
    have HR := Lib.hid hres
    clear hres
    go_enter Try.func65, Try.ntmps65
    go_wp2
    go_ret
    exact ⟨ret_bool HR.out.symm, 0, rfl⟩

end Go.Proofs.Ytdnlbmdmaiacaaa
