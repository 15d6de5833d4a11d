/- Same: two grammars alike. The document's example. -/
import Derived.Test.YtjlohjkhnjemaaaForm
import Derived.Test.YtjlohjkhnjemaaaParse
namespace Go.Proofs.Ytjlohjkhnjemaaa
open Go.RowKit
open Doc

set_option maxHeartbeats 1000000 in
theorem equalP_any (a b : Option Addr) (ca cb : Nat) (ls ms : List Lay) (w : World) (ha : Cells w a (lays ls)) (hb : Cells w b (lays ms)) (hll : ls.length ≤ 1000000)
    (hlr : ∀ q ∈ ls, Cells w q.addr (nums q.right) ∧ q.right.length ≤ 1000000) (hmr : ∀ q ∈ ms, Cells w q.addr (nums q.right) ∧ q.right.length ≤ 1000000) :
    Calls Try.prog 73 #[.slice a ls.length ca, .slice b ms.length cb, .func (.func 74) #[] #[]] w fun e w' => e = .returned (.bool (decide (ls.map Lay.plain = ms.map Lay.plain))) ∧ Below w.heap.size w w' := by
  have HA := Lib.hid ha
  have HB := Lib.hid hb
  have HL := Lib.hid hlr
  have HM := Lib.hid hmr
  clear ha hb hlr hmr
  by_cases hl : ls.length = ms.length
  · have hlb : ((ls.length : Int) != (ms.length : Int)) = false := by simp [hl]
    have HLE := Lib.hid hl
    clear hl
    go_enter Try.func73, Try.ntmps73
    go_wp2
    go_loopw [17] (fun i wr => ∃ k : Nat, k ≤ ls.length ∧ i = .int .i64 k ∧ Below w.heap.size w wr ∧ Hid (∀ j, j < k → (ls.map Lay.plain)[j]? = (ms.map Lay.plain)[j]?)) (fun i _ => ls.length - (intOf i).toNat)
    case atStart => exact ⟨0, Nat.zero_le _, rfl, Below.refl _ _, Lib.hid (by intro j hj; omega)⟩
    case round =>
      obtain ⟨k, hk, rfl, hbe, HR⟩ := hrel
      by_cases hlt : k < ls.length
      · obtain ⟨p, hp⟩ : ∃ p, ls[k]? = some p := ⟨_, List.getElem?_eq_getElem hlt⟩
        obtain ⟨q, hq⟩ : ∃ q, ms[k]? = some q := ⟨_, List.getElem?_eq_getElem (by have := HLE.out; omega)⟩
        obtain ⟨b1, o1, rfl, hb1, hc1⟩ := (HA.out.below hbe).get (by intro e; have := (lays_at ls k p hp).1; rw [e] at this; simp at this)
        obtain ⟨b2, o2, rfl, hb2, hc2⟩ := (HB.out.below hbe).get (by intro e; have := (lays_at ms k q hq).1; rw [e] at this; simp at this)
        have c0 := hc1 _ _ (lays_at ls k p hp).1
        have c1 := hc1 _ _ (lays_at ls k p hp).2
        have d0 := hc2 _ _ (lays_at ms k q hq).1
        have d1 := hc2 _ _ (lays_at ms k q hq).2
        rw [← Nat.add_assoc] at c1 d1
        have e1 : (k : Int) < ls.length := by omega
        have e2 : (k : Int) < ms.length := by have := HLE.out; omega
        have hpm := HL.out p (List.mem_of_getElem? hp)
        have hqm := HM.out q (List.mem_of_getElem? hq)
        have hal := fun W (hW : Below wr.heap.size wr W) => alike_any p q W ((hpm.1.below hbe).below hW) ((hqm.1.below hbe).below hW) hpm.2 hqm.2
        have gp : (ls.map Lay.plain)[k]? = some p.plain := by rw [List.getElem?_map, hp]; rfl
        have gq : (ms.map Lay.plain)[k]? = some q.plain := by rw [List.getElem?_map, hq]; rfl
        have HGP := Lib.hid gp
        have HGQ := Lib.hid gq
        have HBE := Lib.hid hbe
        obtain ⟨pl, pr, pa, pc⟩ := p
        obtain ⟨ql, qr, qa, qc⟩ := q
        unfold prodV at hal
        simp only at *
        have hS : ∀ o o', Below wr.heap.size wr ((wr.alloc o).alloc o') := fun o o' => ((Below.refl _ _).alloc (Nat.le_refl _) _).alloc (by simp) _
        have HAL := Lib.hid fun o o' => hal _ (hS o o')
        have HS := Lib.hid hS
        clear hal hS hc1 hc2 hp hq hpm hqm gp gq
        cases hd : decide ((Lay.mk pl pr pa pc).plain = (Lay.mk ql qr qa qc).plain) with
        | true =>
          have HR2 : Hid (∀ j, j < k + 1 → (ls.map Lay.plain)[j]? = (ms.map Lay.plain)[j]?) := Lib.hid fun j hj => by
            by_cases hjk : j = k
            · subst hjk; rw [HGP.out, HGQ.out, of_decide_eq_true hd]
            · exact HR.out j (by omega)
          go_wp2_with (go_at_call 74; refine (HAL.out _ _).mono ?_; rintro e w2 ⟨rfl, hb2⟩; rw [hd])
          go_roundw
          case rel => exact ⟨k + 1, by omega, by go_num, HBE.out.trans (((HS.out _ _).trans (hb2.mono (HS.out _ _).size)).mono HBE.out.size), HR2⟩
          case measure => simp [intOf]; omega
        | false =>
          have HN := Lib.hid (show decide (ls.map Lay.plain = ms.map Lay.plain) = false by
            rw [decide_eq_false_iff_not]
            intro e
            rw [e, HGQ.out] at HGP
            exact of_decide_eq_false hd (Option.some.inj HGP.out).symm)
          go_wp2_with (go_at_call 74; refine (HAL.out _ _).mono ?_; rintro e w2 ⟨rfl, hb2⟩; rw [hd])
          go_ret
          exact ⟨ret_bool HN.out.symm, HBE.out.trans (((HS.out _ _).trans (hb2.mono (HS.out _ _).size)).mono HBE.out.size)⟩
      · have HN := Lib.hid (show decide (ls.map Lay.plain = ms.map Lay.plain) = true by
          rw [decide_eq_true_iff]
          apply List.ext_getElem?
          intro j
          by_cases hj : j < k
          · exact HR.out j hj
          · rw [List.getElem?_eq_none (by simp; omega), List.getElem?_eq_none (by have := HLE.out; simp; omega)])
        have e1 : ¬ (k : Int) < ls.length := by omega
        clear HR
        go_wp2
        go_ret
        exact ⟨ret_bool HN.out.symm, hbe⟩
  · have hlb : ((ls.length : Int) != (ms.length : Int)) = true := by simp; omega
    have HN := Lib.hid (show decide (ls.map Lay.plain = ms.map Lay.plain) = false by
      rw [decide_eq_false_iff_not]
      intro e
      have := congrArg List.length e
      simp only [List.length_map] at this
      exact hl this)
    go_enter Try.func73, Try.ntmps73
    go_wp2
    go_ret
    exact ⟨ret_bool HN.out.symm, Below.refl _ _⟩

/-- Grammars of which no list is too long for a walk. -/
def Fits (g : Gr) : Prop := g.terms.length ≤ 1000000 ∧ g.nons.length ≤ 1000000 ∧ g.prods.length ≤ 1000000 ∧ ∀ p ∈ g.prods, p.2.length ≤ 1000000

theorem same_any (v1 v2 : Value) (g h : Gr) (w : World) (hg : GramAt w v1 g) (hh : GramAt w v2 h) (f1 : Fits g) (f2 : Fits h) :
    Calls Try.prog 17 #[v1, v2] w fun e w' => e = .returned (.bool (decide (g = h))) ∧ Below w.heap.size w w' := by
  obtain ⟨a1, a2, a3, c1, c2, c3, ls, rfl, hp, h1, h2, h3, h4, _⟩ := hg
  obtain ⟨b1, b2, b3, d1, d2, d3, ms, rfl, hq, k1, k2, k3, k4, _⟩ := hh
  have hS : ∀ o o', Below w.heap.size w ((w.alloc o).alloc o') := fun o o' => ((Below.refl _ _).alloc (Nat.le_refl _) _).alloc (by simp) _
  have hD : ∀ o o' n, Below w.heap.size w (((w.alloc o).alloc o').drewN n) := fun o o' n => below_drews (hS o o') n
  have HT := Lib.hid fun o o' => equalS_any a1 b1 c1 d1 g.terms h.terms ((w.alloc o).alloc o') (h1.below (hS o o')) (k1.below (hS o o')) f1.1 f2.1
  have HNn := Lib.hid fun o o' n => equalS_any a2 b2 c2 d2 g.nons h.nons (((w.alloc o).alloc o').drewN n) (h2.below (hD o o' n)) (k2.below (hD o o' n)) f1.2.1 f2.2.1
  have hll : ls.length ≤ 1000000 := by have := f1.2.2.1; rw [← hp, List.length_map] at this; exact this
  have HP := Lib.hid fun o o' n => equalP_any a3 b3 c3 d3 ls ms (((w.alloc o).alloc o').drewN n) (h3.below (hD o o' n)) (k3.below (hD o o' n)) hll
    (fun q hq' => ⟨(h4 q hq').below (hD o o' n), f1.2.2.2 q.plain (hp ▸ List.mem_map_of_mem hq')⟩) (fun q hq' => ⟨(k4 q hq').below (hD o o' n), f2.2.2.2 q.plain (hq ▸ List.mem_map_of_mem hq')⟩)
  have HS := Lib.hid hS
  have HD := Lib.hid hD
  have hres : decide (g = h) = (decide (g.terms = h.terms) && decide (g.nons = h.nons) && decide (ls.map Lay.plain = ms.map Lay.plain)) := by
    rw [hp, hq]
    obtain ⟨gt, gn, gp⟩ := g
    obtain ⟨ht, hn, hp'⟩ := h
    simp [Bool.and_assoc]
  have HRES := Lib.hid hres
  clear hS hD h1 h2 h3 h4 k1 k2 k3 k4 hp hq f1 f2 hres hll
  cases ht : decide (g.terms = h.terms) with
  | false =>
    go_enter Try.func17, Try.ntmps17
    go_wp2_with (go_at_call 72; with_reducible refine (HT.out _ _).mono ?_; rintro e w2 ⟨rfl, n2, rfl⟩; rw [ht])
    go_ret
    exact ⟨ret_bool (by rw [HRES.out, ht]; rfl), HD.out _ _ _⟩
  | true =>
    cases hn : decide (g.nons = h.nons) with
    | false =>
      go_enter Try.func17, Try.ntmps17
      go_wp2_with (first
        | (go_at_call 72; with_reducible refine (HT.out _ _).mono ?_; rintro e w2 ⟨rfl, n2, rfl⟩; rw [ht])
        | (go_at_call 72; with_reducible refine (HNn.out _ _ _).mono ?_; rintro e w2 ⟨rfl, n3, rfl⟩; rw [hn]; simp only [World.drewN_drewN]))
      go_ret
      exact ⟨ret_bool (by rw [HRES.out, ht, hn]; rfl), HD.out _ _ _⟩
    | true =>
      go_enter Try.func17, Try.ntmps17
      go_wp2_with (first
        | (go_at_call 72; with_reducible refine (HT.out _ _).mono ?_; rintro e w2 ⟨rfl, n2, rfl⟩; rw [ht])
        | (go_at_call 72; with_reducible refine (HNn.out _ _ _).mono ?_; rintro e w2 ⟨rfl, n3, rfl⟩; rw [hn]; simp only [World.drewN_drewN])
        | (go_at_call 73; with_reducible refine (HP.out _ _ _).mono ?_; rintro e w2 ⟨rfl, hb2⟩))
      go_ret
      exact ⟨ret_bool (by rw [HRES.out, ht, hn]; simp), (HD.out _ _ _).trans (hb2.mono (HD.out _ _ _).size)⟩

end Go.Proofs.Ytjlohjkhnjemaaa

namespace Go.Proofs.Ytjlohjkhnjemaaa
open Go.RowKit
open Doc

/-- Parse of a text that is a grammar; that is none. -/
theorem parse_ok (s : ByteArray) (g : Gr) (w : World) (hs : s.size ≤ 1000000) (h : parse s.data.toList = .ok g) :
    Calls Try.prog 65 #[.string s] w fun e w' => ∃ v, e = .returned (.tuple #[v, .int .i64 0, .int .i64 0, .int .i64 0]) ∧ Below w.heap.size w w' ∧ GramFrom w.heap.size w' v g := by
  refine (parse_any s w hs).mono fun e w' ⟨hb, he⟩ => ?_
  unfold ParseEnd at he
  rw [h] at he
  obtain ⟨v, h1, h2⟩ := he
  exact ⟨v, h1, hb, h2⟩
theorem parse_no (s : ByteArray) (l c x : Nat) (w : World) (hs : s.size ≤ 1000000) (h : parse s.data.toList = .bad l c x) :
    Calls Try.prog 65 #[.string s] w fun e w' => e = .returned (.tuple #[.agg #[.slice none 0 0, .slice none 0 0, .slice none 0 0], .int .i64 l, .int .i64 c, .int .i64 x]) ∧ Below w.heap.size w w' := by
  refine (parse_any s w hs).mono fun e w' ⟨hb, he⟩ => ?_
  unfold ParseEnd at he
  rw [h] at he
  exact ⟨he, hb⟩

set_option maxHeartbeats 1000000 in
theorem keepSame_any (a b : Option Addr) (ca cb : Nat) (x y : List Int) (w : World) (hx : Cells w a (nums x)) (hy : Cells w b (nums y)) (hxl : x.length ≤ 1000000) (hyl : y.length ≤ 1000000) :
    Calls Try.prog 37 #[.slice a x.length ca, .slice b y.length cb] w fun e w' => e = .returned (.bool (decide (x = y))) ∧ ∃ n, w' = w.drewN n := by
  have HX := Lib.hid hx
  have HY := Lib.hid hy
  clear hx hy
  have mixed : Try.prog.follows Departure.mixedOrders = true := by kernel_rfl
  by_cases hl : x.length = y.length
  · have hlb : ((x.length : Int) != (y.length : Int)) = false := by simp [hl]
    go_enter Try.func37, Try.ntmps37
    go_wp2
    go_loopw [5] (fun i wr => ∃ k n : Nat, k ≤ x.length ∧ i = .int .i64 k ∧ wr = w.drewN n ∧ Hid (∀ j, j < k → x[j]? = y[j]?)) (fun i _ => x.length - (intOf i).toNat)
    case atStart => exact ⟨0, 0, Nat.zero_le _, rfl, rfl, Lib.hid (by intro j hj; omega)⟩
    case round =>
      obtain ⟨k, n, hk, rfl, rfl, HB⟩ := hrel
      by_cases hlt : k < x.length
      · obtain ⟨u, hu⟩ : ∃ u, x[k]? = some u := ⟨_, List.getElem?_eq_getElem hlt⟩
        obtain ⟨v, hv⟩ : ∃ v, y[k]? = some v := ⟨_, List.getElem?_eq_getElem (by omega)⟩
        obtain ⟨b1, o1, rfl, hb1, hc1⟩ := HX.out.get (by unfold nums; intro e; rw [List.map_eq_nil_iff] at e; rw [e] at hlt; simp at hlt)
        obtain ⟨b2, o2, rfl, hb2, hc2⟩ := HY.out.get (by unfold nums; intro e; rw [List.map_eq_nil_iff] at e; rw [e] at hl; simp only [List.length_nil] at hl; omega)
        have c1 := hc1 k _ (nums_at hu)
        have c2 := hc2 k _ (nums_at hv)
        have e1 : (k : Int) < x.length := by omega
        have e2 : (k : Int) < y.length := by omega
        clear hc1 hc2
        by_cases huv : u = v
        · subst huv
          have HB2 : Hid (∀ j, j < k + 1 → x[j]? = y[j]?) := Lib.hid fun j hj => by
            by_cases hjk : j = k
            · subst hjk; rw [hu, hv]
            · exact HB.out j (by omega)
          go_wp2
          go_region
          go_wp2
          go_roundw
          case rel => exact ⟨k + 1, n + 1, by omega, by go_num, by simp, HB2⟩
          case measure => simp [intOf]; omega
        · have hres : decide (x = y) = false := by
            rw [decide_eq_false_iff_not]
            rintro rfl
            rw [hu] at hv
            exact huv (Option.some.inj hv)
          have hbs : (u == v) = false := by simpa using huv
          have HR := Lib.hid hres
          clear hres
          go_wp2
          go_region
          go_wp2
          go_ret
          exact ⟨ret_bool HR.out.symm, n + 1, by simp⟩
      · have hres : decide (x = y) = true := by
          rw [decide_eq_true_iff]
          apply List.ext_getElem?
          intro j
          by_cases hj : j < k
          · exact HB.out j hj
          · rw [List.getElem?_eq_none (by omega), List.getElem?_eq_none (by omega)]
        have e1 : ¬ (k : Int) < x.length := by omega
        have HR := Lib.hid hres
        clear hres
        go_wp2
        go_ret
        exact ⟨ret_bool HR.out.symm, n, rfl⟩
  · have hlb : ((x.length : Int) != (y.length : Int)) = true := by simp; omega
    have hres : decide (x = y) = false := by
      rw [decide_eq_false_iff_not]
      rintro rfl
      exact hl rfl
    have HR := Lib.hid hres
    clear hres
    go_enter Try.func37, Try.ntmps37
    go_wp2
    go_ret
    exact ⟨ret_bool HR.out.symm, 0, rfl⟩


theorem wakes_gram : parse [83, 58, 32, 97, 32, 83, 32, 124, 32, 98] = .ok ⟨[[97], [98]], [[83]], [(100, [1, 100]), (100, [2])]⟩ := by decide +kernel

theorem cells_new (w : World) (cs : Array Value) (T : TypeId) : Cells (w.alloc (.cells cs T)) (some ⟨w.heap.size, 0, none⟩) cs.toList := by
  refine .inr ⟨_, _, rfl, by simp, fun j u hj => ?_⟩
  rw [Nat.zero_add]
  exact (blk_cell (heap_alloc_new w (.cells cs T)) (by simpa using hj)).1
theorem cells_new2 (w : World) (o : Obj) (cs : Array Value) (T : TypeId) : Cells ((w.alloc o).alloc (.cells cs T)) (some ⟨w.heap.size + 1, 0, none⟩) cs.toList := by
  have h := cells_new (w.alloc o) cs T
  rw [show (w.alloc o).heap.size = w.heap.size + 1 by simp] at h
  exact h

theorem gram_two {w : World} {v : Value} {ts ns : List (List UInt8)} {l0 l1 : Int} {r0 r1 : List Int} (h : GramAt w v ⟨ts, ns, [(l0, r0), (l1, r1)]⟩) :
    ∃ a1 a2 b o c1 c2 c3 ra rc, v = .agg #[.slice a1 ts.length c1, .slice a2 ns.length c2, .slice (some ⟨b, o, none⟩) 2 c3] ∧ b < w.heap.size ∧ w.cell? ⟨b, o + 1, none⟩ = some (.slice ra r0.length rc) ∧ Cells w ra (nums r0) := by
  obtain ⟨a1, a2, a3, c1, c2, c3, ls, rfl, hp, h1, h2, h3, h4, _⟩ := h
  match ls, hp with
  | [p0, p1], hp =>
    simp only [List.map_cons, List.map_nil, Lay.plain, List.cons.injEq, Prod.mk.injEq, and_true] at hp
    obtain ⟨b, o, rfl, hb, hc⟩ := h3.get (by simp [lays])
    have hc1 := hc 1 _ (lays_at _ 0 p0 rfl).2
    have hr := h4 p0 (by simp)
    obtain ⟨⟨rfl, rfl⟩, _⟩ := hp
    exact ⟨a1, a2, b, o, c1, c2, c3, p0.addr, p0.cap, rfl, hb, hc1, hr⟩

set_option maxRecDepth 100000 in
set_option maxHeartbeats 1000000 in
theorem wakes_any (w : World) : Calls Try.prog 25 #[] w fun e w' => e = .returned (.bool true) ∧ Below w.heap.size w w' := by
  have hp := fun W => parse_ok ⟨#[83, 58, 32, 97, 32, 83, 32, 124, 32, 98]⟩ _ W (by decide) wakes_gram
  have HP := Lib.hid hp
  clear hp
  go_enter Try.func25, Try.ntmps25
  go_wp2_with (first
    | (go_at_call 65; refine (HP.out _).mono ?_; rintro e w2 ⟨v, rfl, hb2, hg2⟩; obtain ⟨a1, a2, b, o, c1, c2, c3, ra, rc, rfl, hbl, hcell, hrow⟩ := gram_two hg2.at_; clear hg2; simp only [List.length_cons, List.length_nil] at hcell hrow ⊢)
    | (go_at_call 37; refine (keepSame_any ra (some ⟨w2.heap.size + 1, 0, none⟩) rc 2 [1, 100] [1, 100] _ (hrow.below (((Below.refl _ _).alloc (Nat.le_refl _) _).alloc (by simp) _)) (cells_new2 w2 _ _ _) (by decide) (by decide)).mono ?_; rintro e w3 ⟨rfl, n3, rfl⟩; simp only [decide_true]))
  go_ret
  exact ⟨rfl, below_drews (hb2.trans ((((Below.refl _ _).alloc (Nat.le_refl _) _).alloc (by simp) _).mono hb2.size)) _⟩

end Go.Proofs.Ytjlohjkhnjemaaa
