/- states: the same items, by the laws' own and the document's: walked. -/
import Derived.Test.YtejjdfmobiegdaaDoorItU
set_option linter.unusedVariables false
namespace Go.Proofs.YtejjdfmobiegdaaDoor
open Go.RowKit
open Doc

set_option maxHeartbeats 4000000 in
theorem keepSameI_any (a b : Option Addr) (ca cb : Nat) (x y : List It) (w : World) (hx : ItsAt w a x) (hy : ItsAt w b y) (hxl : x.length ≤ 1000000) (hyl : y.length ≤ 1000000) :
    Calls Tryd.prog 30 #[.slice a x.length ca, .slice b y.length cb] w fun e w' => e = .returned (.bool (decide (x = y))) ∧ ∃ n, w' = w.drewN n := by
  have HX := Lib.hid hx
  have HY := Lib.hid hy
  clear hx hy
  by_cases hl : x.length = y.length
  · have hlb : ((x.length : Int) != (y.length : Int)) = false := by simp [hl]
    go_enter Tryd.func30, Tryd.ntmps30
    go_wp2
    go_loopw [5] (fun i wr => ∃ k n : Nat, k ≤ x.length ∧ i = .int .i64 k ∧ wr = w.drewN n ∧ Hid (∀ j, j < k → x[j]? = y[j]?)) (fun i _ => x.length - (intOf i).toNat)
    case atStart => exact ⟨0, 0, Nat.zero_le _, rfl, rfl, Lib.hid (by intro j hj; omega)⟩
    case round =>
      obtain ⟨k, n, hk, rfl, rfl, HB⟩ := hrel
      by_cases hlt : k < x.length
      · obtain ⟨u, hu⟩ : ∃ u, x[k]? = some u := ⟨_, List.getElem?_eq_getElem hlt⟩
        obtain ⟨v, hv⟩ : ∃ v, y[k]? = some v := ⟨_, List.getElem?_eq_getElem (by omega)⟩
        obtain ⟨b1, o1, rfl⟩ := HX.out.some (by intro e; rw [e] at hlt; simp at hlt)
        obtain ⟨b2, o2, rfl⟩ := HY.out.some (by intro e; rw [e] at hv; simp at hv)
        obtain ⟨c0, c1, c2, c3⟩ := HX.out.cell hu
        obtain ⟨d0, d1, d2, d3⟩ := HY.out.cell hv
        have e1 : (k : Int) < x.length := by omega
        have e2 : (k : Int) < y.length := by omega
        have hne := ineq_run u v
        have hie := fun W => ieq_in u.1 u.2.1 u.2.2 v.1 v.2.1 v.2.2 W
        by_cases huv : u = v
        · subst huv
          have HB2 : Hid (∀ j, j < k + 1 → x[j]? = y[j]?) := Lib.hid fun j hj => by
            by_cases hjk : j = k
            · subst hjk; rw [hu, hv]
            · exact HB.out j (by omega)
          rw [decide_eq_true (rfl : u = u)] at hne
          simp only [decide_true] at hie
          clear hu hv
          obtain ⟨p, d, aa⟩ := u
          simp only at *
          go_wp2
          go_region
          go_wp2
          go_roundw
          case rel => exact ⟨k + 1, n + 1, by omega, by go_num, by simp, HB2⟩
          case measure => simp [intOf]; omega
        · have hres : decide (x = y) = false := by
            rw [decide_eq_false_iff_not]
            rintro rfl
            rw [hu] at hv
            exact huv (Option.some.inj hv)
          have HR := Lib.hid hres
          rw [decide_eq_false huv] at hne
          have hie2 : ∀ W, (Op.equalIn 10000 53 (.agg #[.int .i64 u.1, .int .i64 u.2.1, .int .i64 u.2.2]) (.agg #[.int .i64 v.1, .int .i64 v.2.1, .int .i64 v.2.2])).run Tryd.prog W = .ok false W := fun W => by rw [hie W, decide_eq_false (by exact huv)]
          clear hres hu hv hie huv
          obtain ⟨p, d, aa⟩ := u
          obtain ⟨q, e, bb⟩ := v
          simp only at *
          go_wp2
          go_region
          go_wp2
          go_ret
          exact ⟨ret_bool HR.out.symm, n + 1, by simp⟩
      · have hres : decide (x = y) = true := by
          rw [decide_eq_true_iff]
          apply List.ext_getElem?
          intro j
          by_cases hj : j < k
          · exact HB.out j hj
          · rw [List.getElem?_eq_none (by omega), List.getElem?_eq_none (by omega)]
        have HR := Lib.hid hres
        have e1 : ¬ (k : Int) < x.length := by omega
        clear hres
        go_wp2
        go_ret
        exact ⟨ret_bool HR.out.symm, n, rfl⟩
  · have hlb : ((x.length : Int) != (y.length : Int)) = true := by simp; omega
    have hres : decide (x = y) = false := by
      rw [decide_eq_false_iff_not]
      rintro rfl
      exact hl rfl
    have HR := Lib.hid hres
    clear hres
    go_enter Tryd.func30, Tryd.ntmps30
    go_wp2
    go_ret
    exact ⟨ret_bool HR.out.symm, 0, rfl⟩
set_option maxHeartbeats 4000000 in
theorem rsame_any (a b : Option Addr) (ca cb : Nat) (x y : List It) (w : World) (hx : ItsAt w a x) (hy : ItsAt w b y) (hxl : x.length ≤ 1000000) (hyl : y.length ≤ 1000000) :
    Calls Tryd.prog 35 #[.slice a x.length ca, .slice b y.length cb] w fun e w' => e = .returned (.bool (decide (x = y))) ∧ ∃ n, w' = w.drewN n := by
  have HX := Lib.hid hx
  have HY := Lib.hid hy
  clear hx hy
  by_cases hl : x.length = y.length
  · have hlb : ((x.length : Int) != (y.length : Int)) = false := by simp [hl]
    go_enter Tryd.func35, Tryd.ntmps35
    go_wp2
    go_loopw [13] (fun i wr => ∃ k n : Nat, k ≤ x.length ∧ i = .int .i64 k ∧ wr = w.drewN n ∧ Hid (∀ j, j < k → x[j]? = y[j]?)) (fun i _ => x.length - (intOf i).toNat)
    case atStart => exact ⟨0, 0, Nat.zero_le _, rfl, rfl, Lib.hid (by intro j hj; omega)⟩
    case round =>
      obtain ⟨k, n, hk, rfl, rfl, HB⟩ := hrel
      by_cases hlt : k < x.length
      · obtain ⟨u, hu⟩ : ∃ u, x[k]? = some u := ⟨_, List.getElem?_eq_getElem hlt⟩
        obtain ⟨v, hv⟩ : ∃ v, y[k]? = some v := ⟨_, List.getElem?_eq_getElem (by omega)⟩
        obtain ⟨b1, o1, rfl⟩ := HX.out.some (by intro e; rw [e] at hlt; simp at hlt)
        obtain ⟨b2, o2, rfl⟩ := HY.out.some (by intro e; rw [e] at hv; simp at hv)
        obtain ⟨c0, c1, c2, c3⟩ := HX.out.cell hu
        obtain ⟨d0, d1, d2, d3⟩ := HY.out.cell hv
        have e1 : (k : Int) < x.length := by omega
        have e2 : (k : Int) < y.length := by omega
        have hne := ineq_run u v
        have hie := fun W => ieq_in u.1 u.2.1 u.2.2 v.1 v.2.1 v.2.2 W
        by_cases huv : u = v
        · subst huv
          have HB2 : Hid (∀ j, j < k + 1 → x[j]? = y[j]?) := Lib.hid fun j hj => by
            by_cases hjk : j = k
            · subst hjk; rw [hu, hv]
            · exact HB.out j (by omega)
          rw [decide_eq_true (rfl : u = u)] at hne
          simp only [decide_true] at hie
          clear hu hv
          obtain ⟨p, d, aa⟩ := u
          simp only at *
          go_wp2
          go_region
          go_wp2
          go_roundw
          case rel => exact ⟨k + 1, n + 1, by omega, by go_num, by simp, HB2⟩
          case measure => simp [intOf]; omega
        · have hres : decide (x = y) = false := by
            rw [decide_eq_false_iff_not]
            rintro rfl
            rw [hu] at hv
            exact huv (Option.some.inj hv)
          have HR := Lib.hid hres
          rw [decide_eq_false huv] at hne
          have hie2 : ∀ W, (Op.equalIn 10000 53 (.agg #[.int .i64 u.1, .int .i64 u.2.1, .int .i64 u.2.2]) (.agg #[.int .i64 v.1, .int .i64 v.2.1, .int .i64 v.2.2])).run Tryd.prog W = .ok false W := fun W => by rw [hie W, decide_eq_false (by exact huv)]
          clear hres hu hv hie huv
          obtain ⟨p, d, aa⟩ := u
          obtain ⟨q, e, bb⟩ := v
          simp only at *
          go_wp2
          go_region
          go_wp2
          go_ret
          exact ⟨ret_bool HR.out.symm, n + 1, by simp⟩
      · have hres : decide (x = y) = true := by
          rw [decide_eq_true_iff]
          apply List.ext_getElem?
          intro j
          by_cases hj : j < k
          · exact HB.out j hj
          · rw [List.getElem?_eq_none (by omega), List.getElem?_eq_none (by omega)]
        have HR := Lib.hid hres
        have e1 : ¬ (k : Int) < x.length := by omega
        clear hres
        go_wp2
        go_ret
        exact ⟨ret_bool HR.out.symm, n, rfl⟩
  · have hlb : ((x.length : Int) != (y.length : Int)) = true := by simp; omega
    have hres : decide (x = y) = false := by
      rw [decide_eq_false_iff_not]
      rintro rfl
      exact hl rfl
    have HR := Lib.hid hres
    clear hres
    go_enter Tryd.func35, Tryd.ntmps35
    go_wp2
    go_ret
    exact ⟨ret_bool HR.out.symm, 0, rfl⟩
end Go.Proofs.YtejjdfmobiegdaaDoor
