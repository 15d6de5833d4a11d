/- Same: two grammars alike. The document's example. -/
import Derived.Test.YtejjdfmobiegdaaDoorForm
import Derived.Test.YtejjdfmobiegdaaDoorParse
namespace Go.Proofs.YtejjdfmobiegdaaDoor
open Go.RowKit
open Doc

/-- Grammars of which no list is too long for a walk. -/
def Fits (g : Gr) : Prop := g.terms.length ≤ 1000000 ∧ g.nons.length ≤ 1000000 ∧ g.prods.length ≤ 1000000 ∧ ∀ p ∈ g.prods, p.2.length ≤ 1000000

end Go.Proofs.YtejjdfmobiegdaaDoor

namespace Go.Proofs.YtejjdfmobiegdaaDoor
open Go.RowKit
open Doc

set_option maxHeartbeats 1000000 in
theorem keepSame_any (a b : Option Addr) (ca cb : Nat) (x y : List Int) (w : World) (hx : Cells w a (nums x)) (hy : Cells w b (nums y)) (hxl : x.length ≤ 1000000) (hyl : y.length ≤ 1000000) :
    Calls Tryd.prog 17 #[.slice a x.length ca, .slice b y.length cb] w fun e w' => e = .returned (.bool (decide (x = y))) ∧ ∃ n, w' = w.drewN n := by
  have HX := Lib.hid hx
  have HY := Lib.hid hy
  clear hx hy
  have mixed : Tryd.prog.follows Departure.mixedOrders = true := by kernel_rfl
  by_cases hl : x.length = y.length
  · have hlb : ((x.length : Int) != (y.length : Int)) = false := by simp [hl]
    go_enter Tryd.func17, Tryd.ntmps17
    go_wp2
    go_loopw [5] (fun i wr => ∃ k n : Nat, k ≤ x.length ∧ i = .int .i64 k ∧ wr = w.drewN n ∧ Hid (∀ j, j < k → x[j]? = y[j]?)) (fun i _ => x.length - (intOf i).toNat)
    case atStart => exact ⟨0, 0, Nat.zero_le _, rfl, rfl, Lib.hid (by intro j hj; omega)⟩
    case round =>
      obtain ⟨k, n, hk, rfl, rfl, HB⟩ := hrel
      by_cases hlt : k < x.length
      · obtain ⟨u, hu⟩ : ∃ u, x[k]? = some u := ⟨_, List.getElem?_eq_getElem hlt⟩
        obtain ⟨v, hv⟩ : ∃ v, y[k]? = some v := ⟨_, List.getElem?_eq_getElem (by omega)⟩
        obtain ⟨b1, o1, rfl, hb1, hc1⟩ := HX.out.get (by unfold nums; intro e; rw [List.map_eq_nil_iff] at e; rw [e] at hlt; simp at hlt)
        obtain ⟨b2, o2, rfl, hb2, hc2⟩ := HY.out.get (by unfold nums; intro e; rw [List.map_eq_nil_iff] at e; rw [e] at hl; simp only [List.length_nil] at hl; omega)
        have c1 := hc1 k _ (nums_at hu)
        have c2 := hc2 k _ (nums_at hv)
        have e1 : (k : Int) < x.length := by omega
        have e2 : (k : Int) < y.length := by omega
        clear hc1 hc2
        by_cases huv : u = v
        · subst huv
          have HB2 : Hid (∀ j, j < k + 1 → x[j]? = y[j]?) := Lib.hid fun j hj => by
            by_cases hjk : j = k
            · subst hjk; rw [hu, hv]
            · exact HB.out j (by omega)
          go_wp2
          go_region
          go_wp2
          go_roundw
          case rel => exact ⟨k + 1, n + 1, by omega, by go_num, by simp, HB2⟩
          case measure => simp [intOf]; omega
        · have hres : decide (x = y) = false := by
            rw [decide_eq_false_iff_not]
            rintro rfl
            rw [hu] at hv
            exact huv (Option.some.inj hv)
          have hbs : (u == v) = false := by simpa using huv
          have HR := Lib.hid hres
          clear hres
          go_wp2
          go_region
          go_wp2
          go_ret
          exact ⟨ret_bool HR.out.symm, n + 1, by simp⟩
      · have hres : decide (x = y) = true := by
          rw [decide_eq_true_iff]
          apply List.ext_getElem?
          intro j
          by_cases hj : j < k
          · exact HB.out j hj
          · rw [List.getElem?_eq_none (by omega), List.getElem?_eq_none (by omega)]
        have e1 : ¬ (k : Int) < x.length := by omega
        have HR := Lib.hid hres
        clear hres
        go_wp2
        go_ret
        exact ⟨ret_bool HR.out.symm, n, rfl⟩
  · have hlb : ((x.length : Int) != (y.length : Int)) = true := by simp; omega
    have hres : decide (x = y) = false := by
      rw [decide_eq_false_iff_not]
      rintro rfl
      exact hl rfl
    have HR := Lib.hid hres
    clear hres
    go_enter Tryd.func17, Tryd.ntmps17
    go_wp2
    go_ret
    exact ⟨ret_bool HR.out.symm, 0, rfl⟩


theorem wakes_gram : parse [83, 58, 32, 97, 32, 83, 32, 124, 32, 98] = .ok ⟨[[97], [98]], [[83]], [(100, [1, 100]), (100, [2])]⟩ := by decide +kernel

theorem cells_new (w : World) (cs : Array Value) (T : TypeId) : Cells (w.alloc (.cells cs T)) (some ⟨w.heap.size, 0, none⟩) cs.toList := by
  refine .inr ⟨_, _, rfl, by simp, fun j u hj => ?_⟩
  rw [Nat.zero_add]
  exact (blk_cell (heap_alloc_new w (.cells cs T)) (by simpa using hj)).1
theorem cells_new2 (w : World) (o : Obj) (cs : Array Value) (T : TypeId) : Cells ((w.alloc o).alloc (.cells cs T)) (some ⟨w.heap.size + 1, 0, none⟩) cs.toList := by
  have h := cells_new (w.alloc o) cs T
  rw [show (w.alloc o).heap.size = w.heap.size + 1 by simp] at h
  exact h

theorem gram_two {w : World} {v : Value} {ts ns : List (List UInt8)} {l0 l1 : Int} {r0 r1 : List Int} (h : GramAt w v ⟨ts, ns, [(l0, r0), (l1, r1)]⟩) :
    ∃ a1 a2 b o c1 c2 c3 ra rc, v = .agg #[.slice a1 ts.length c1, .slice a2 ns.length c2, .slice (some ⟨b, o, none⟩) 2 c3] ∧ b < w.heap.size ∧ w.cell? ⟨b, o + 1, none⟩ = some (.slice ra r0.length rc) ∧ Cells w ra (nums r0) := by
  obtain ⟨a1, a2, a3, c1, c2, c3, ls, rfl, hp, h1, h2, h3, h4, _⟩ := h
  match ls, hp with
  | [p0, p1], hp =>
    simp only [List.map_cons, List.map_nil, Lay.plain, List.cons.injEq, Prod.mk.injEq, and_true] at hp
    obtain ⟨b, o, rfl, hb, hc⟩ := h3.get (by simp [lays])
    have hc1 := hc 1 _ (lays_at _ 0 p0 rfl).2
    have hr := h4 p0 (by simp)
    obtain ⟨⟨rfl, rfl⟩, _⟩ := hp
    exact ⟨a1, a2, b, o, c1, c2, c3, p0.addr, p0.cap, rfl, hb, hc1, hr⟩

end Go.Proofs.YtejjdfmobiegdaaDoor
