/- Rows of numbers appended, whether or not there are any; a copy. -/
import Derived.Test.YtejjdfmobiegdaaDoorWordR
import Derived.Test.YtejjdfmobiegdaaDoorWake
set_option linter.unusedVariables false
namespace Go.Proofs.YtejjdfmobiegdaaDoor
open Go.RowKit
open Doc

theorem wpList_app {w : World} {ops : Array Oper} {rest : List Oper} {o : Oper} {a : Act} {Q : Exit → Act → World → Prop} (hgd : o.guard = none) (s x : Operand)
    (ho : o.op = .call { callee := .builtin .append, args := #[s, x], argTypes := #[25, 25] })
    (base : Nat) (va : Option Addr) (n vc : Nat) (xs : List Int) (hs : a.eval s = .slice va n vc) (hown : w.ownsRow base 3 1 (.slice va n vc) n (nums xs)) (hb : base ≤ w.heap.size)
    (xa : Option Addr) (l : List Int) (xc : Nat) (hx : a.eval x = .slice xa l.length xc) (hc : Cells w xa (nums l)) (hn : n + l.length ≤ 1000000000000)
    (h : ∀ va' vc' w', w'.ownsRow base 3 1 (.slice va' (n + l.length) vc') (n + l.length) (nums (xs ++ l)) → w.grownBy w' (Value.slice va n vc).ownBlock → wpList Tryd.prog ops Q rest (a.put o.dst (.slice va' (n + l.length) vc')) w') : wpList Tryd.prog ops Q (o :: rest) a w := by
  obtain ⟨i0, hi0, hz0, hz1, hz2⟩ := info_of infoI
  by_cases hl : l = []
  · subst hl
    have hnc := (own_cells hown).2
    refine wpList_nothing hgd s x 25 ho 3 i0 Tryd.underlying25 hi0 va n vc hs hnc xa xc hx ?_
    have := h va vc w (by simpa using hown) ⟨rfl, rfl, rfl, Nat.le_refl _, fun _ _ _ => rfl⟩
    simpa using this
  · obtain ⟨g, off, rfl, hn5⟩ := own_news0 (b := 0) hc hl
    have hm1 : 0 < l.length := List.length_pos_iff.2 hl
    refine wpList_append_lies _ hgd s x 25 ho base 3 i0 (.int .i64 0) 1 8 Tryd.underlying25 hi0 hz0 hz1 hz2 rfl (by decide) _ n (nums xs) hs hown ⟨g, off, none⟩ l.length xc (nums l) hx (by simp [nums]) hn5 (fun u hu => by obtain ⟨z, _, rfl⟩ := List.mem_map.1 hu; rfl) hm1 (by unfold maxLen; omega) (by omega) hb _ rfl ?_
    intro g4 cap4 w4 hown4 hgrow4 _ _
    exact h _ _ _ (by rw [nums_app]; exact hown4) hgrow4

set_option maxHeartbeats 1000000 in
theorem keepSame2_any (a b : Option Addr) (ca cb : Nat) (x y : List Int) (w : World) (hx : Cells w a (nums x)) (hy : Cells w b (nums y)) (hxl : x.length ≤ 4000000) (hyl : y.length ≤ 4000000) :
    Calls Tryd.prog 17 #[.slice a x.length ca, .slice b y.length cb] w fun e w' => e = .returned (.bool (decide (x = y))) ∧ ∃ n, w' = w.drewN n := by
  have HX := Lib.hid hx
  have HY := Lib.hid hy
  clear hx hy
  have mixed : Tryd.prog.follows Departure.mixedOrders = true := by kernel_rfl
  by_cases hl : x.length = y.length
  · have hlb : ((x.length : Int) != (y.length : Int)) = false := by simp [hl]
    go_enter Tryd.func17, Tryd.ntmps17
    go_wp2
    go_loopw [5] (fun i wr => ∃ k n : Nat, k ≤ x.length ∧ i = .int .i64 k ∧ wr = w.drewN n ∧ Hid (∀ j, j < k → x[j]? = y[j]?)) (fun i _ => x.length - (intOf i).toNat)
    case atStart => exact ⟨0, 0, Nat.zero_le _, rfl, rfl, Lib.hid (by intro j hj; omega)⟩
    case round =>
      obtain ⟨k, n, hk, rfl, rfl, HB⟩ := hrel
      by_cases hlt : k < x.length
      · obtain ⟨u, hu⟩ : ∃ u, x[k]? = some u := ⟨_, List.getElem?_eq_getElem hlt⟩
        obtain ⟨v, hv⟩ : ∃ v, y[k]? = some v := ⟨_, List.getElem?_eq_getElem (by omega)⟩
        obtain ⟨b1, o1, rfl, hb1, hc1⟩ := HX.out.get (by unfold nums; intro e; rw [List.map_eq_nil_iff] at e; rw [e] at hlt; simp at hlt)
        obtain ⟨b2, o2, rfl, hb2, hc2⟩ := HY.out.get (by unfold nums; intro e; rw [List.map_eq_nil_iff] at e; rw [e] at hl; simp only [List.length_nil] at hl; omega)
        have c1 := hc1 k _ (nums_at hu)
        have c2 := hc2 k _ (nums_at hv)
        have e1 : (k : Int) < x.length := by omega
        have e2 : (k : Int) < y.length := by omega
        clear hc1 hc2
        by_cases huv : u = v
        · subst huv
          have HB2 : Hid (∀ j, j < k + 1 → x[j]? = y[j]?) := Lib.hid fun j hj => by
            by_cases hjk : j = k
            · subst hjk; rw [hu, hv]
            · exact HB.out j (by omega)
          go_wp2
          go_region
          go_wp2
          go_roundw
          case rel => exact ⟨k + 1, n + 1, by omega, by go_num, by simp, HB2⟩
          case measure => simp [intOf]; omega
        · have hres : decide (x = y) = false := by
            rw [decide_eq_false_iff_not]
            rintro rfl
            rw [hu] at hv
            exact huv (Option.some.inj hv)
          have hbs : (u == v) = false := by simpa using huv
          have HR := Lib.hid hres
          clear hres
          go_wp2
          go_region
          go_wp2
          go_ret
          exact ⟨ret_bool HR.out.symm, n + 1, by simp⟩
      · have hres : decide (x = y) = true := by
          rw [decide_eq_true_iff]
          apply List.ext_getElem?
          intro j
          by_cases hj : j < k
          · exact HB.out j hj
          · rw [List.getElem?_eq_none (by omega), List.getElem?_eq_none (by omega)]
        have e1 : ¬ (k : Int) < x.length := by omega
        have HR := Lib.hid hres
        clear hres
        go_wp2
        go_ret
        exact ⟨ret_bool HR.out.symm, n, rfl⟩
  · have hlb : ((x.length : Int) != (y.length : Int)) = true := by simp; omega
    have hres : decide (x = y) = false := by
      rw [decide_eq_false_iff_not]
      rintro rfl
      exact hl rfl
    have HR := Lib.hid hres
    clear hres
    go_enter Tryd.func17, Tryd.ntmps17
    go_wp2
    go_ret
    exact ⟨ret_bool HR.out.symm, 0, rfl⟩

end Go.Proofs.YtejjdfmobiegdaaDoor
