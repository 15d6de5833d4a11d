/- Two grammars alike: the document's own answer, walked. -/
import Derived.Test.YtdnlbmdmaiacaaaFind
import Derived.Deep.Draws
namespace Go.Proofs.Ytdnlbmdmaiacaaa
open Go.RowKit
open Doc

theorem below_drews {B : Nat} {a w : World} (h : Below B a w) (n : Nat) : Below B a (w.drewN n) := ⟨h.os, h.tape, h.output, h.size, h.block⟩

set_option maxRecDepth 100000 in
set_option maxHeartbeats 4000000 in
theorem sameG_any (v1 v2 : Value) (g h : Gr) (w : World) (hg : GramAt w v1 g) (hh : GramAt w v2 h) (hl1 : g.terms.length ≤ 1000000 ∧ g.nons.length ≤ 1000000 ∧ g.prods.length ≤ 1000000 ∧ ∀ p ∈ g.prods, p.2.length ≤ 1000000)
    (hl2 : h.terms.length ≤ 1000000 ∧ h.nons.length ≤ 1000000 ∧ h.prods.length ≤ 1000000 ∧ ∀ p ∈ h.prods, p.2.length ≤ 1000000) :
    Calls Try.prog 22 #[v1, v2] w fun e w' => e = .returned (.bool (decide (g = h))) ∧ Below w.heap.size w w' := by
  obtain ⟨a1, a2, a3, c1, c2, c3, ls, rfl, hp, h1, h2, h3, h4, _⟩ := hg
  obtain ⟨b1, b2, b3, d1, d2, d3, ms, rfl, hq, k1, k2, k3, k4, _⟩ := hh
  have mixed : Try.prog.follows Departure.mixedOrders = true := by kernel_rfl
  by_cases e0 : g.terms.length = h.terms.length ∧ g.nons.length = h.nons.length ∧ ls.length = ms.length
  · obtain ⟨e1, e2, e3⟩ := e0
    have f1 : ((g.terms.length : Int) != (h.terms.length : Int)) = false := by simp [e1]
    have f2 : ((g.nons.length : Int) != (h.nons.length : Int)) = false := by simp [e2]
    have f3 : ((ls.length : Int) != (ms.length : Int)) = false := by simp [e3]
    have E1 := Lib.hid e1
    have E2 := Lib.hid e2
    have E3 := Lib.hid e3
    clear e1 e2 e3
    go_enter Try.func22, Try.ntmps22
    have hlsl : ls.length ≤ 1000000 := by have := hl1.2.2.1; rw [← hp, List.length_map] at this; exact this
    go_wp2
    have hS : Below w.heap.size w ((w.alloc (.cells #[.slice a1 g.terms.length c1, .slice a2 g.nons.length c2, .slice a3 ls.length c3] 26)).alloc (.cells #[.slice b1 h.terms.length d1, .slice b2 h.nons.length d2, .slice b3 ms.length d3] 26)) := ((Below.refl _ _).alloc (Nat.le_refl _) _).alloc (by simp) _
    have s10 : ((w.alloc (.cells #[.slice a1 g.terms.length c1, .slice a2 g.nons.length c2, .slice a3 ls.length c3] 26)).alloc (.cells #[.slice b1 h.terms.length d1, .slice b2 h.nons.length d2, .slice b3 ms.length d3] 26)).cell? ⟨w.heap.size, 0, none⟩ = some (.slice a1 g.terms.length c1) := by go_simp
    have s11 : ((w.alloc (.cells #[.slice a1 g.terms.length c1, .slice a2 g.nons.length c2, .slice a3 ls.length c3] 26)).alloc (.cells #[.slice b1 h.terms.length d1, .slice b2 h.nons.length d2, .slice b3 ms.length d3] 26)).cell? ⟨w.heap.size, 1, none⟩ = some (.slice a2 g.nons.length c2) := by go_simp
    have s12 : ((w.alloc (.cells #[.slice a1 g.terms.length c1, .slice a2 g.nons.length c2, .slice a3 ls.length c3] 26)).alloc (.cells #[.slice b1 h.terms.length d1, .slice b2 h.nons.length d2, .slice b3 ms.length d3] 26)).cell? ⟨w.heap.size, 2, none⟩ = some (.slice a3 ls.length c3) := by go_simp
    have s20 : ((w.alloc (.cells #[.slice a1 g.terms.length c1, .slice a2 g.nons.length c2, .slice a3 ls.length c3] 26)).alloc (.cells #[.slice b1 h.terms.length d1, .slice b2 h.nons.length d2, .slice b3 ms.length d3] 26)).cell? ⟨w.heap.size + 1, 0, none⟩ = some (.slice b1 h.terms.length d1) := by go_simp
    have s21 : ((w.alloc (.cells #[.slice a1 g.terms.length c1, .slice a2 g.nons.length c2, .slice a3 ls.length c3] 26)).alloc (.cells #[.slice b1 h.terms.length d1, .slice b2 h.nons.length d2, .slice b3 ms.length d3] 26)).cell? ⟨w.heap.size + 1, 1, none⟩ = some (.slice b2 h.nons.length d2) := by go_simp
    have s22 : ((w.alloc (.cells #[.slice a1 g.terms.length c1, .slice a2 g.nons.length c2, .slice a3 ls.length c3] 26)).alloc (.cells #[.slice b1 h.terms.length d1, .slice b2 h.nons.length d2, .slice b3 ms.length d3] 26)).cell? ⟨w.heap.size + 1, 2, none⟩ = some (.slice b3 ms.length d3) := by go_simp
    have C1 := Lib.hid (h1.below hS)
    have C2 := Lib.hid (h2.below hS)
    have C3 := Lib.hid (h3.below hS)
    have C4 := Lib.hid (fun p (hp : p ∈ ls) => (h4 p hp).below hS)
    have D1 := Lib.hid (k1.below hS)
    have D2 := Lib.hid (k2.below hS)
    have D3 := Lib.hid (k3.below hS)
    have D4 := Lib.hid (fun p (hp : p ∈ ms) => (k4 p hp).below hS)
    clear h1 h2 h3 h4 k1 k2 k3 k4
    generalize ((w.alloc (.cells #[.slice a1 g.terms.length c1, .slice a2 g.nons.length c2, .slice a3 ls.length c3] 26)).alloc (.cells #[.slice b1 h.terms.length d1, .slice b2 h.nons.length d2, .slice b3 ms.length d3] 26)) = S at *
    go_loopw [36] (fun i wr => ∃ k n : Nat, k ≤ g.terms.length ∧ i = .int .i64 k ∧ wr = S.drewN n ∧ Hid (∀ j, j < k → g.terms[j]? = h.terms[j]?)) (fun i _ => g.terms.length - (intOf i).toNat)
    case atStart => exact ⟨0, 0, Nat.zero_le _, rfl, rfl, Lib.hid (by intro j hj; omega)⟩
    case round =>
      obtain ⟨k, n, hk, rfl, rfl, HB⟩ := hrel
      by_cases hlt : k < g.terms.length
      · have hlt2 : k < h.terms.length := by have := E1.out; omega
        obtain ⟨u, hu⟩ : ∃ u, g.terms[k]? = some u := ⟨_, List.getElem?_eq_getElem hlt⟩
        obtain ⟨v, hv⟩ : ∃ v, h.terms[k]? = some v := ⟨_, List.getElem?_eq_getElem hlt2⟩
        obtain ⟨q1, o1, rfl, hq1, hc1⟩ := C1.out.get (by unfold strs; intro e; rw [List.map_eq_nil_iff] at e; rw [e] at hlt; simp at hlt)
        obtain ⟨q2, o2, rfl, hq2, hc2⟩ := D1.out.get (by unfold strs; intro e; rw [List.map_eq_nil_iff] at e; rw [e] at hlt2; simp at hlt2)
        have x1 := hc1 k _ (strs_at hu)
        have x2 := hc2 k _ (strs_at hv)
        have y1 : (k : Int) < g.terms.length := by omega
        have y2 : (k : Int) < h.terms.length := by omega
        clear hc1 hc2
        by_cases huv : u = v
        · subst huv
          have HB2 : Hid (∀ j, j < k + 1 → g.terms[j]? = h.terms[j]?) := Lib.hid fun j hj => by
            by_cases hjk : j = k
            · subst hjk; rw [hu, hv]
            · exact HB.out j (by omega)
          go_wp2
          go_region
          go_wp2
          go_roundw
          case rel => exact ⟨k + 1, n + 1, by omega, by go_num, by simp, HB2⟩
          case measure => simp [intOf]; omega
        · have hres := Lib.hid (show decide (g = h) = false by
            rw [decide_eq_false_iff_not]
            rintro rfl
            rw [hu] at hv
            exact huv (Option.some.inj hv))
          have hbs : (u == v) = false := by simpa using huv
          go_wp2
          go_region
          go_wp2
          go_ret
          exact ⟨ret_bool hres.out.symm, by first | exact below_drews hS _ | exact below_drews (below_drews hS _) _⟩
      · have hsame := Lib.hid (show g.terms = h.terms by
          apply List.ext_getElem?
          intro j
          by_cases hj : j < k
          · exact HB.out j hj
          · rw [List.getElem?_eq_none (by omega), List.getElem?_eq_none (by have := E1.out; omega)])
        have y1 : ¬ (k : Int) < g.terms.length := by omega
        clear HB
        go_wp2
        have T1 := hsame
        clear hsame
        go_loopw [54] (fun i wr => ∃ k n : Nat, k ≤ g.nons.length ∧ i = .int .i64 k ∧ wr = S.drewN n ∧ Hid (∀ j, j < k → g.nons[j]? = h.nons[j]?)) (fun i _ => g.nons.length - (intOf i).toNat)
        case atStart => exact ⟨0, _, Nat.zero_le _, rfl, rfl, Lib.hid (by intro j hj; omega)⟩
        case round =>
          obtain ⟨k, n, hk, rfl, rfl, HB⟩ := hrel
          by_cases hlt : k < g.nons.length
          · have hlt2 : k < h.nons.length := by have := E2.out; omega
            obtain ⟨u, hu⟩ : ∃ u, g.nons[k]? = some u := ⟨_, List.getElem?_eq_getElem hlt⟩
            obtain ⟨v, hv⟩ : ∃ v, h.nons[k]? = some v := ⟨_, List.getElem?_eq_getElem hlt2⟩
            obtain ⟨q1, o1, rfl, hq1, hc1⟩ := C2.out.get (by unfold strs; intro e; rw [List.map_eq_nil_iff] at e; rw [e] at hlt; simp at hlt)
            obtain ⟨q2, o2, rfl, hq2, hc2⟩ := D2.out.get (by unfold strs; intro e; rw [List.map_eq_nil_iff] at e; rw [e] at hlt2; simp at hlt2)
            have x1 := hc1 k _ (strs_at hu)
            have x2 := hc2 k _ (strs_at hv)
            have y1 : (k : Int) < g.nons.length := by omega
            have y2 : (k : Int) < h.nons.length := by omega
            clear hc1 hc2
            by_cases huv : u = v
            · subst huv
              have HB2 : Hid (∀ j, j < k + 1 → g.nons[j]? = h.nons[j]?) := Lib.hid fun j hj => by
                by_cases hjk : j = k
                · subst hjk; rw [hu, hv]
                · exact HB.out j (by omega)
              go_wp2
              go_region
              go_wp2
              go_roundw
              case rel => exact ⟨k + 1, n + 1, by omega, by go_num, by simp, HB2⟩
              case measure => simp [intOf]; omega
            · have hres := Lib.hid (show decide (g = h) = false by
                rw [decide_eq_false_iff_not]
                rintro rfl
                rw [hu] at hv
                exact huv (Option.some.inj hv))
              have hbs : (u == v) = false := by simpa using huv
              go_wp2
              go_region
              go_wp2
              go_ret
              exact ⟨ret_bool hres.out.symm, by first | exact below_drews hS _ | exact below_drews (below_drews hS _) _⟩
          · have hsame := Lib.hid (show g.nons = h.nons by
              apply List.ext_getElem?
              intro j
              by_cases hj : j < k
              · exact HB.out j hj
              · rw [List.getElem?_eq_none (by omega), List.getElem?_eq_none (by have := E2.out; omega)])
            have y1 : ¬ (k : Int) < g.nons.length := by omega
            clear HB
            go_wp2
            have T2 := hsame
            clear hsame
            go_loopw [72] (fun i wr => ∃ k m : Nat, k ≤ ls.length ∧ i = .int .i64 k ∧ wr = S.drewN m ∧ Hid (∀ j, j < k → g.prods[j]? = h.prods[j]?)) (fun i _ => ls.length - (intOf i).toNat)
            case atStart => exact ⟨0, _, Nat.zero_le _, rfl, rfl, Lib.hid (by intro j hj; omega)⟩
            case round =>
              obtain ⟨k, m, hk, rfl, rfl, HB⟩ := hrel
              by_cases hlt : k < ls.length
              · have hlt2 : k < ms.length := by have := E3.out; omega
                obtain ⟨p, hpk⟩ : ∃ p, ls[k]? = some p := ⟨_, List.getElem?_eq_getElem hlt⟩
                obtain ⟨q, hqk⟩ : ∃ q, ms[k]? = some q := ⟨_, List.getElem?_eq_getElem hlt2⟩
                have gp : g.prods[k]? = some p.plain := by rw [← hp, List.getElem?_map, hpk]; rfl
                have hq' : h.prods[k]? = some q.plain := by rw [← hq, List.getElem?_map, hqk]; rfl
                have hpl : p.right.length ≤ 1000000 := hl1.2.2.2 p.plain (List.mem_of_getElem? gp)
                have hql : q.right.length ≤ 1000000 := hl2.2.2.2 q.plain (List.mem_of_getElem? hq')
                obtain ⟨b1', o1, rfl, hb1, hc1⟩ := C3.out.get (by intro e; have := (lays_at ls k p hpk).1; rw [e] at this; simp at this)
                obtain ⟨b2', o2, rfl, hb2, hc2⟩ := D3.out.get (by intro e; have := (lays_at ms k q hqk).1; rw [e] at this; simp at this)
                have x1 := hc1 _ _ (lays_at ls k p hpk).1
                have x2 := hc1 _ _ (lays_at ls k p hpk).2
                have x3 := hc2 _ _ (lays_at ms k q hqk).1
                have x4 := hc2 _ _ (lays_at ms k q hqk).2
                rw [← Nat.add_assoc] at x2 x4
                have RC : ∀ a b, Calls Try.prog 59 #[.slice p.addr p.right.length p.cap, .slice q.addr q.right.length q.cap] (S.drewN (a + b)) fun e w' => e = .returned (.bool (decide (p.right = q.right))) ∧ ∃ n, w' = S.drewN (a + n) := fun a b => (sameRow_any _ _ _ _ _ _ (S.drewN (a + b)) (C4.out p (List.mem_of_getElem? hpk)) (D4.out q (List.mem_of_getElem? hqk)) hpl hql).mono fun e w' ⟨he, n, hw⟩ => ⟨he, b + n, by rw [hw, World.drewN_drewN, Nat.add_assoc]⟩
                have y1 : (k : Int) < ls.length := by omega
                have y2 : (k : Int) < ms.length := by omega
                have HRC := Lib.hid RC
                clear hc1 hc2 RC
                by_cases hall : p.plain = q.plain
                · have hpl2 : p.left = q.left := congrArg Prod.fst hall
                  have hpr2 : decide (p.right = q.right) = true := decide_eq_true (congrArg Prod.snd hall)
                  have hlb : (p.left == q.left) = true := by simp [hpl2]
                  have HB2 : Hid (∀ j, j < k + 1 → g.prods[j]? = h.prods[j]?) := Lib.hid fun j hj => by
                    by_cases hjk : j = k
                    · subst hjk; rw [gp, hq', hall]
                    · exact HB.out j (by omega)
                  have hlb2 : (p.left != q.left) = false := by simp [hpl2]
                  clear hpl2
                  go_wp2_with fail
                  go_quiet ((go_at_call 59; exact HRC.out _ _))
                  go_wp2
                  go_roundw
                  case rel => exact ⟨k + 1, _, by omega, by go_num, rfl, HB2⟩
                  case measure => simp [intOf]; omega
                · have hres := Lib.hid (show decide (g = h) = false by
                    rw [decide_eq_false_iff_not]
                    rintro rfl
                    rw [gp] at hq'
                    exact hall (Option.some.inj hq'))
                  by_cases hleft : p.left = q.left
                  · have hpr2 : decide (p.right = q.right) = false := decide_eq_false fun e => hall (Prod.ext hleft e)
                    have hlb : (p.left == q.left) = true := by simp [hleft]
                    have hlb2 : (p.left != q.left) = false := by simp [hleft]
                    clear hleft
                    go_wp2_with fail
                    go_quiet ((go_at_call 59; exact HRC.out _ _))
                    go_wp2
                    go_ret
                    exact ⟨ret_bool hres.out.symm, by first | exact below_drews hS _ | exact below_drews (below_drews hS _) _⟩
                  · have hlb : (p.left == q.left) = false := by simpa using hleft
                    have hlb2 : (p.left != q.left) = true := by simpa using hleft
                    go_wp2_with fail
                    go_quiet (fail)
                    go_wp2
                    go_ret
                    exact ⟨ret_bool hres.out.symm, by first | exact below_drews hS _ | exact below_drews (below_drews hS _) _⟩
              · have hsame := Lib.hid (show decide (g = h) = true by
                  rw [decide_eq_true_iff]
                  have hps : g.prods = h.prods := by
                    apply List.ext_getElem?
                    intro j
                    by_cases hj : j < k
                    · exact HB.out j hj
                    · rw [← hp, ← hq, List.getElem?_eq_none (by simp; omega), List.getElem?_eq_none (by have := E3.out; simp; omega)]
                  obtain ⟨gt, gn, gp⟩ := g
                  obtain ⟨ht, hn, hp'⟩ := h
                  have e1 := T1.out
                  have e2 := T2.out
                  simp only at e1 e2 hps
                  rw [e1, e2, hps])
                have y1 : ¬ (k : Int) < ls.length := by omega
                clear HB
                go_wp2
                go_ret
                exact ⟨ret_bool hsame.out.symm, below_drews hS _⟩
  · have hres := Lib.hid (show decide (g = h) = false by
      rw [decide_eq_false_iff_not]
      rintro rfl
      refine e0 ⟨rfl, rfl, ?_⟩
      have := congrArg List.length (hp.trans hq.symm)
      simpa using this)
    have hS : ∀ x y, Below w.heap.size w ((w.alloc x).alloc y) := fun x y => ((Below.refl _ _).alloc (Nat.le_refl _) _).alloc (by simp) _
    have HS := Lib.hid hS
    clear hS
    by_cases e1 : g.terms.length = h.terms.length
    · have f1 : ((g.terms.length : Int) != (h.terms.length : Int)) = false := by simp [e1]
      by_cases e2 : g.nons.length = h.nons.length
      · have f2 : ((g.nons.length : Int) != (h.nons.length : Int)) = false := by simp [e2]
        have f3 : ((ls.length : Int) != (ms.length : Int)) = true := by simp; omega
        clear e0 e1 e2
        go_enter Try.func22, Try.ntmps22
        go_wp2
        go_ret
        exact ⟨ret_bool hres.out.symm, HS.out _ _⟩
      · have f2 : ((g.nons.length : Int) != (h.nons.length : Int)) = true := by simp; omega
        clear e0 e1 e2
        go_enter Try.func22, Try.ntmps22
        go_wp2
        go_ret
        exact ⟨ret_bool hres.out.symm, HS.out _ _⟩
    · have f1 : ((g.terms.length : Int) != (h.terms.length : Int)) = true := by simp; omega
      clear e0 e1
      go_enter Try.func22, Try.ntmps22
      go_wp2
      go_ret
      exact ⟨ret_bool hres.out.symm, HS.out _ _⟩

end Go.Proofs.Ytdnlbmdmaiacaaa
