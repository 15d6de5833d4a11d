/- The document's own Less: walked. -/
import Derived.Test.YtejjdfmobiegdaaDoorWordA
import Derived.Deep.CutRange
import Derived.Deep.QuietTactic
import Derived.BigQuiet
set_option linter.unusedVariables false
namespace Go.Proofs.YtejjdfmobiegdaaDoor
open Go.RowKit
open Doc

theorem lexI_drop {x y : List Int} {k : Nat} {u v : Int} (hu : x[k]? = some u) (hv : y[k]? = some v) : Wd.lexI (x.drop k) (y.drop k) = if u = v then Wd.lexI (x.drop (k + 1)) (y.drop (k + 1)) else decide (u < v) := by
  rw [List.drop_eq_getElem_cons (List.getElem?_eq_some_iff.1 hu).1, List.drop_eq_getElem_cons (List.getElem?_eq_some_iff.1 hv).1, (List.getElem?_eq_some_iff.1 hu).2, (List.getElem?_eq_some_iff.1 hv).2]
  rfl
set_option maxHeartbeats 1000000 in
theorem rless_any (a b : Option Addr) (ca cb : Nat) (x y : List Int) (w : World) (hx : Cells w a (nums x)) (hy : Cells w b (nums y)) (hxl : x.length ≤ 100000000000000) (hyl : y.length ≤ 100000000000000) :
    Calls Tryd.prog 24 #[.slice a x.length ca, .slice b y.length cb] w fun e w' => e = .returned (.bool (Wd.lessI x y)) ∧ ∃ n, w' = w.drewN n := by
  have HX := Lib.hid hx
  have HY := Lib.hid hy
  clear hx hy
  by_cases hl : x.length = y.length
  · have hlb : ((x.length : Int) != (y.length : Int)) = false := by simp [hl]
    have HR0 := Lib.hid (show Wd.lessI x y = Wd.lexI x y by unfold Wd.lessI; rw [if_pos hl])
    go_enter Tryd.func24, Tryd.ntmps24
    go_wp2
    go_loopw [18] (fun i wr => ∃ k n : Nat, k ≤ x.length ∧ i = .int .i64 k ∧ wr = w.drewN n ∧ Hid (Wd.lexI (x.drop k) (y.drop k) = Wd.lexI x y)) (fun i _ => x.length - (intOf i).toNat)
    case atStart => exact ⟨0, 0, Nat.zero_le _, rfl, rfl, Lib.hid rfl⟩
    case round =>
      obtain ⟨k, n, hk, rfl, rfl, HB⟩ := hrel
      by_cases hlt : k < x.length
      · obtain ⟨u, hu⟩ : ∃ u, x[k]? = some u := ⟨_, List.getElem?_eq_getElem hlt⟩
        obtain ⟨v, hv⟩ : ∃ v, y[k]? = some v := ⟨_, List.getElem?_eq_getElem (by omega)⟩
        obtain ⟨b1, o1, rfl, hb1, hc1⟩ := HX.out.get (by unfold nums; intro e; rw [List.map_eq_nil_iff] at e; rw [e] at hlt; simp at hlt)
        obtain ⟨b2, o2, rfl, hb2, hc2⟩ := HY.out.get (by unfold nums; intro e; rw [List.map_eq_nil_iff] at e; rw [e] at hl; simp only [List.length_nil] at hl; omega)
        have c1 := hc1 k _ (nums_at hu)
        have c2 := hc2 k _ (nums_at hv)
        have e1 : (k : Int) < x.length := by omega
        have e2 : (k : Int) < y.length := by omega
        have HN := HB.out
        rw [lexI_drop hu hv] at HN
        clear hc1 hc2 hu hv
        by_cases huv : u = v
        · subst huv
          rw [if_pos rfl] at HN
          have HN := Lib.hid HN
          go_upto_region 6 with fail
          go_quiet (fail)
          go_wp2
          go_roundw
          case rel => exact ⟨k + 1, n + nq, by omega, by go_num, by first | rfl | simp, HN⟩
          case measure => simp [intOf]; omega
        · rw [if_neg huv] at HN
          have hbs : (u == v) = false := by simpa using huv
          have hbs2 : (u != v) = true := by simp [bne, hbs]
          have HN := Lib.hid HN
          go_upto_region 6 with fail
          go_quiet (fail)
          go_upto_region 7 with fail
          go_quiet (fail)
          go_wp2
          go_ret
          refine ⟨ret_bool (by rw [HR0.out, ← HN.out]), ?_⟩
          simp only [World.drewN_drewN]
          exact ⟨_, rfl⟩
      · have e1 : ¬ (k : Int) < x.length := by omega
        have HN := HB.out
        rw [List.drop_eq_nil_of_le (by omega), List.drop_eq_nil_of_le (by omega)] at HN
        have HN : Hid (false = Wd.lexI x y) := Lib.hid HN
        go_wp2
        go_ret
        exact ⟨ret_bool (by rw [HR0.out, ← HN.out]), n, rfl⟩
  · have hlb : ((x.length : Int) != (y.length : Int)) = true := by simp; omega
    have HR := Lib.hid (show decide (x.length < y.length) = Wd.lessI x y by unfold Wd.lessI; rw [if_neg hl])
    clear hl
    go_enter Tryd.func24, Tryd.ntmps24
    go_wp2
    go_ret
    exact ⟨ret_bool HR.out, 0, rfl⟩

end Go.Proofs.YtejjdfmobiegdaaDoor
