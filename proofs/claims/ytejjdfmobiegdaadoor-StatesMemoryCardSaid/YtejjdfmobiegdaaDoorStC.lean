/- states: a grammar copied: walked. -/
import Derived.Test.YtejjdfmobiegdaaDoorStA
import Derived.Deep.RegionHeld3
set_option linter.unusedVariables false
namespace Go.Proofs.YtejjdfmobiegdaaDoor
open Go.RowKit
open Doc

structure RowDs where
  e : TypeId
  size : Nat
  n : Nat
  v : Value
  xs : List Value
/-- A grammar that is being copied: its own block, the answer's, and rows that were made. -/
structure Cp3 (w W : World) (BX BR : Nat) (y0 y1 y2 : Value) (rows : List RowDs) : Prop where
  below : Below w.heap.size w W
  lo : w.heap.size ≤ BX ∧ BX < BR
  x : W.heap[BX]? = some (.cells #[y0, y1, y2] 29)
  z : W.heap[BR]? = some (.cells #[.slice none 0 0, .slice none 0 0, .slice none 0 0] 29)
  r : ∀ r ∈ rows, r.e ≠ 29 ∧ W.ownsRow w.heap.size r.e r.size r.v r.n r.xs
theorem Cp3.call {w W W' : World} {BX BR : Nat} {y0 y1 y2 : Value} {rows : List RowDs} (h : Cp3 w W BX BR y0 y1 y2 rows) (hb : Below W.heap.size W W') (d : RowDs) (hd : d.e ≠ 29) (ho : W'.ownsRow W.heap.size d.e d.size d.v d.n d.xs) : Cp3 w W' BX BR y0 y1 y2 (d :: rows) :=
  ⟨h.below.trans (hb.mono h.below.size), h.lo, (hb.block _ (heap_lt h.x)).trans h.x, (hb.block _ (heap_lt h.z)).trans h.z, fun r hr => by
    rcases List.mem_cons.1 hr with rfl | hr
    · exact ⟨hd, own_baseI ho h.below.size⟩
    · exact ⟨(h.r r hr).1, own_same (h.r r hr).2 fun k _ hk => hb.block k hk⟩⟩
theorem Cp3.set {w W : World} {BX BR : Nat} {y0 y1 y2 z0 z1 z2 : Value} {rows : List RowDs} (h : Cp3 w W BX BR y0 y1 y2 rows) (i : Nat) (v : Value) (hi : i < 3) (he : (#[y0, y1, y2] : Array Value).set! i v = #[z0, z1, z2]) : Cp3 w (W.setCell ⟨BX, i, none⟩ v) BX BR z0 z1 z2 rows :=
  ⟨h.below.setCell (p := ⟨BX, i, none⟩) h.lo.1 v, h.lo, by rw [heap_set W BX i v _ _ h.x (by simpa using hi), he], (Below.heap_setCell _ _ _ _ (show BR ≠ BX by have := h.lo.2; omega)).trans h.z, fun r hr => ⟨(h.r r hr).1, own_same (h.r r hr).2 fun k hk _ => Below.heap_setCell _ _ _ _ (by
    intro e
    have e : k = BX := e
    obtain ⟨_, _, c, hc⟩ := own_block (h.r r hr).2 hk
    rw [e, h.x] at hc
    injection hc with hc
    injection hc with _ hc _
    exact (h.r r hr).1 hc.symm)⟩⟩
theorem Cp3.set0 {w W : World} {BX BR : Nat} {y0 y1 y2 : Value} {rows : List RowDs} (v : Value) (h : Cp3 w W BX BR y0 y1 y2 rows) : Cp3 w (W.setCell ⟨BX, 0, none⟩ v) BX BR v y1 y2 rows := h.set 0 v (by omega) rfl
theorem Cp3.set1 {w W : World} {BX BR : Nat} {y0 y1 y2 : Value} {rows : List RowDs} (v : Value) (h : Cp3 w W BX BR y0 y1 y2 rows) : Cp3 w (W.setCell ⟨BX, 1, none⟩ v) BX BR y0 v y2 rows := h.set 1 v (by omega) rfl
theorem Cp3.set2 {w W : World} {BX BR : Nat} {y0 y1 y2 : Value} {rows : List RowDs} (v : Value) (h : Cp3 w W BX BR y0 y1 y2 rows) : Cp3 w (W.setCell ⟨BX, 2, none⟩ v) BX BR y0 y1 v rows := h.set 2 v (by omega) rfl
theorem Cp3.cells {w W : World} {BX BR : Nat} {y0 y1 y2 : Value} {rows : List RowDs} (h : Cp3 w W BX BR y0 y1 y2 rows) : ((W.cell? ⟨BX, 0, none⟩ = some y0 ∧ W.frozen? ⟨BX, 0, none⟩ = false) ∧ (W.cell? ⟨BX, 1, none⟩ = some y1 ∧ W.frozen? ⟨BX, 1, none⟩ = false) ∧ W.cell? ⟨BX, 2, none⟩ = some y2 ∧ W.frozen? ⟨BX, 2, none⟩ = false) ∧ BX < W.heap.size :=
  ⟨⟨blk_cell (i := 0) h.x rfl, blk_cell (i := 1) h.x rfl, blk_cell (i := 2) h.x rfl⟩, heap_lt h.x⟩
def CopyTo (g : Gr) (w : World) (e : Ending) (w' : World) : Prop := Below w.heap.size w w' ∧ ∃ (a1 a2 a3 : Option Addr) (c1 c2 c3 : Nat) (ls : List Lay), e = .returned (.agg #[.slice a1 g.terms.length c1, .slice a2 g.nons.length c2, .slice a3 g.prods.length c3]) ∧ GrO w' w.heap.size a1 a2 a3 c1 c2 c3 g ls
theorem cells_none {W : World} {xs : List Value} (h : Cells W none xs) : xs = [] := by
  rcases h with h | ⟨b, o, h, _⟩
  · exact h
  · cases h
/-- A grammar of which the first k rights are copied. -/
structure CpQ (w W : World) (BX BR : Nat) (g : Gr) (a1 a2 a3 : Option Addr) (c1 c2 c3 k : Nat) (ls : List Lay) : Prop where
  c : Cp3 w W BX BR (.slice a1 g.terms.length c1) (.slice a2 g.nons.length c2) (.slice a3 g.prods.length c3) []
  p : ls.map Lay.plain = g.prods
  t : W.ownsRow w.heap.size 9 1 (.slice a1 g.terms.length c1) g.terms.length (strs g.terms)
  n : W.ownsRow w.heap.size 9 1 (.slice a2 g.nons.length c2) g.nons.length (strs g.nons)
  q : W.ownsRow w.heap.size 68 2 (.slice a3 ls.length c3) ls.length (lays ls)
  ro : ∀ (j : Nat) (x : Lay), j < k → ls[j]? = some x → W.ownsRow w.heap.size 3 1 (.slice x.addr x.right.length x.cap) x.right.length (nums x.right)
  rn : ∀ (j : Nat) (x : Lay), k ≤ j → ls[j]? = some x → Cells w x.addr (nums x.right)
theorem CpQ.below {w W W' : World} {BX BR : Nat} {g : Gr} {a1 a2 a3 : Option Addr} {c1 c2 c3 k : Nat} {ls : List Lay} (h : CpQ w W BX BR g a1 a2 a3 c1 c2 c3 k ls) (hb : Below W.heap.size W W') : CpQ w W' BX BR g a1 a2 a3 c1 c2 c3 k ls :=
  ⟨⟨h.c.below.trans (hb.mono h.c.below.size), h.c.lo, (hb.block _ (heap_lt h.c.x)).trans h.c.x, (hb.block _ (heap_lt h.c.z)).trans h.c.z, fun r hr => by cases hr⟩, h.p, own_same h.t fun k _ hk => hb.block k hk, own_same h.n fun k _ hk => hb.block k hk, own_same h.q fun k _ hk => hb.block k hk, fun j x hj hx => own_same (h.ro j x hj hx) fun k _ hk => hb.block k hk, h.rn⟩
theorem laysS_set {ls : List Lay} {j : Nat} {q : Lay} (hq : ls[j]? = some q) (a : Option Addr) (c : Nat) : lays (ls.set j { q with addr := a, cap := c }) = (lays ls).set (j * 2 + 1) (.slice a q.right.length c) := by
  apply List.ext_getElem?
  intro i
  have hjl := (List.getElem?_eq_some_iff.1 hq).1
  obtain ⟨m, hm⟩ : ∃ m, i = m * 2 ∨ i = m * 2 + 1 := ⟨i / 2, by omega⟩
  by_cases hi : m < ls.length
  · obtain ⟨x, hx⟩ : ∃ x, ls[m]? = some x := ⟨_, List.getElem?_eq_getElem hi⟩
    have hs : (ls.set j { q with addr := a, cap := c })[m]? = some (if j = m then { q with addr := a, cap := c } else x) := by
      rw [List.getElem?_set]
      by_cases e : j = m
      · rw [if_pos e, if_pos hjl, if_pos e]
      · rw [if_neg e, if_neg e, hx]
    have e1 := lays_at _ _ _ hs
    have e2 := lays_at _ _ _ hx
    rcases hm with rfl | rfl
    · rw [e1.1, List.getElem?_set_ne (by omega), e2.1]
      split
      · rename_i e
        rw [← e, hq] at hx
        cases hx
        rfl
      · rfl
    · rw [e1.2]
      by_cases e : j = m
      · subst e
        rw [if_pos rfl, List.getElem?_set_self (by rw [laysS_len]; omega)]
      · rw [if_neg e, List.getElem?_set_ne (by omega), e2.2]
  · rw [List.getElem?_eq_none (by rw [laysS_len, List.length_set]; omega), List.getElem?_eq_none (by rw [List.length_set, laysS_len]; omega)]
theorem CpQ.put {w W : World} {BX BR : Nat} {g : Gr} {a1 a2 : Option Addr} {c1 c2 c3 k bp : Nat} {ls : List Lay} (h : CpQ w W BX BR g a1 a2 (some ⟨bp, 0, none⟩) c1 c2 c3 k ls) {x : Lay} (hx : ls[k]? = some x) {a : Option Addr} {c : Nat} (ho : W.ownsRow w.heap.size 3 1 (.slice a x.right.length c) x.right.length (nums x.right)) :
    CpQ w (W.setCell ⟨bp, k * 2 + 1, none⟩ (.slice a x.right.length c)) BX BR g a1 a2 (some ⟨bp, 0, none⟩) c1 c2 c3 (k + 1) (ls.set k { x with addr := a, cap := c }) := by
  have hkl := (List.getElem?_eq_some_iff.1 hx).1
  obtain ⟨hb1, hb2, cur, hcur⟩ := own_block h.q (g := bp) rfl
  have hne : ∀ {k2 : Nat} {c : Array Value} {t : TypeId}, W.heap[k2]? = some (.cells c t) → t ≠ 68 → k2 ≠ bp := fun {k2} {c} {t} h1 h2 e => by
    rw [e, hcur] at h1
    injection h1 with h1
    injection h1 with _ h1 _
    exact h2 h1.symm
  have hst : Stays [68] W (W.setCell ⟨bp, k * 2 + 1, none⟩ (.slice a x.right.length c)) := Stays.set hcur (by simp)
  refine ⟨⟨h.c.below.setCell (p := ⟨bp, k * 2 + 1, none⟩) hb1 _, h.c.lo, (Below.heap_setCell _ _ _ _ (hne h.c.x (by decide))).trans h.c.x, (Below.heap_setCell _ _ _ _ (hne h.c.z (by decide))).trans h.c.z, fun r hr => by cases hr⟩, ?_, own_stays hst h.t (by decide), own_stays hst h.n (by decide), ?_, fun j y hj hy => ?_, fun j y hj hy => ?_⟩
  · rw [List.map_set, show Lay.plain { x with addr := a, cap := c } = x.plain from rfl, h.p]
    have : g.prods[k]? = some x.plain := by rw [← h.p, List.getElem?_map, hx]; rfl
    apply List.ext_getElem?
    intro i
    rw [List.getElem?_set]
    split
    · rename_i e
      rw [← e, this, if_pos (List.getElem?_eq_some_iff.1 this).1]
    · rfl
  · rcases h.q.2 with ⟨h1, h2⟩ | ⟨bp', cap, cur', hv, hbp, hh, hn, hm, hs, ht⟩
    · exact absurd h2 (by omega)
    · injection hv with e1 _ e3
      injection e1 with e1
      injection e1 with e1 _ _
      subst e1 e3
      rw [List.length_set]
      refine ⟨by rw [laysS_len, List.length_set], .inr ⟨bp, c3, cur'.set! (k * 2 + 1) (.slice a x.right.length c), rfl, hbp, heap_set W bp (k * 2 + 1) _ cur' _ hh (by rw [hs]; omega), hn, hm, by simpa using hs, ?_⟩⟩
      rw [laysS_set hx, ← ht]
      simp only [Array.set!_eq_setIfInBounds, Array.toList_setIfInBounds]
      rw [List.take_set]
  · rw [List.getElem?_set] at hy
    split at hy
    · cases hy
      exact own_stays hst ho (by decide)
    · exact own_stays hst (h.ro j y (by omega) hy) (by decide)
  · rw [List.getElem?_set_ne (by omega)] at hy
    exact h.rn j y (by omega) hy
def rwT (g : Gr) (b : Option Addr) (d : Nat) : RowDs := ⟨9, 1, g.terms.length, .slice b g.terms.length d, strs g.terms⟩
def rwN (g : Gr) (b : Option Addr) (d : Nat) : RowDs := ⟨9, 1, g.nons.length, .slice b g.nons.length d, strs g.nons⟩
def rwP (g : Gr) (ls : List Lay) (b : Option Addr) (d : Nat) : RowDs := ⟨68, 2, g.prods.length, .slice b g.prods.length d, lays ls⟩
theorem rw_neT (g : Gr) (b : Option Addr) (d : Nat) : (rwT g b d).e ≠ 29 := (by decide : (9 : TypeId) ≠ 29)
theorem rw_neN (g : Gr) (b : Option Addr) (d : Nat) : (rwN g b d).e ≠ 29 := (by decide : (9 : TypeId) ≠ 29)
theorem rw_neP (g : Gr) (ls : List Lay) (b : Option Addr) (d : Nat) : (rwP g ls b d).e ≠ 29 := (by decide : (68 : TypeId) ≠ 29)
theorem Cp3.fin {w W : World} {BX BR : Nat} {g : Gr} {b1 b2 b3 : Option Addr} {d1 d2 d3 : Nat} {ls : List Lay} (h : Cp3 w W BX BR (.slice b1 g.terms.length d1) (.slice b2 g.nons.length d2) (.slice b3 g.prods.length d3) [rwP g ls b3 d3, rwN g b2 d2, rwT g b1 d1]) (hp : ls.map Lay.plain = g.prods) (hpl : ls.length = g.prods.length) (k4 : ∀ p ∈ ls, Cells w p.addr (nums p.right)) : CpQ w W BX BR g b1 b2 b3 d1 d2 d3 0 ls :=
  ⟨⟨h.below, h.lo, h.x, h.z, fun r hr => by cases hr⟩, hp, (h.r (rwT g b1 d1) (by simp)).2, (h.r (rwN g b2 d2) (by simp)).2, by rw [hpl]; exact (h.r (rwP g ls b3 d3) (by simp)).2, fun j x hj => absurd hj (by omega), fun j x _ hx => k4 x (List.mem_of_getElem? hx)⟩
set_option maxRecDepth 100000 in
set_option maxHeartbeats 8000000 in
theorem copied_any (v : Value) (g : Gr) (w : World) (hg : GramAt w v g) (hl : g.terms.length ≤ 1000 ∧ g.nons.length ≤ 1000 ∧ g.prods.length ≤ 1000 ∧ ∀ p ∈ g.prods, p.2.length ≤ 1000) :
    Calls Tryd.prog 65 #[v] w (CopyTo g w) := by
  obtain ⟨a1, a2, a3, c1, c2, c3, ls, rfl, hp, k1, k2, k3, k4, k5, k6, k7⟩ := hg
  obtain ⟨l1, l2, l3, l4⟩ := hl
  have hpl : ls.length = g.prods.length := by rw [← hp, List.length_map]
  rw [hpl] at k7 ⊢
  have HC1 := Lib.hid fun (W : World) (hW : Below w.heap.size w W) => cloneS2_any a1 c1 g.terms W (k1.below hW) (by omega) (by rintro rfl; have := cells_none k1; unfold strs at this; rwa [List.map_eq_nil_iff] at this)
  have HC2 := Lib.hid fun (W : World) (hW : Below w.heap.size w W) => cloneS2_any a2 c2 g.nons W (k2.below hW) (by omega) (by rintro rfl; have := cells_none k2; unfold strs at this; rwa [List.map_eq_nil_iff] at this)
  have HC3 := Lib.hid fun (W : World) (hW : Below w.heap.size w W) => cloneP2_any a3 c3 ls W (k3.below hW) (by omega) (by rintro rfl; have := cells_none k3; have := laysS_len ls; rw [cells_none k3] at this; exact List.length_eq_zero_iff.1 (by simp at this; omega))
  rw [hpl] at HC3
  have HQ0 : Hid (Cp3 w (((w.alloc (.cells #[.slice a1 g.terms.length c1, .slice a2 g.nons.length c2, .slice a3 g.prods.length c3] 29)).alloc (.cells #[.slice none 0 0, .slice none 0 0, .slice none 0 0] 29)).drew) w.heap.size (w.heap.size + 1) (.slice a1 g.terms.length c1) (.slice a2 g.nons.length c2) (.slice a3 g.prods.length c3) []) := Lib.hid ⟨((((Below.refl _ _).alloc (Nat.le_refl _) _).alloc (by simp) _).drew), by omega, (Below.heap_alloc _ _ _ (by simp)).trans (heap_alloc_new w _), by have := heap_alloc_new (w.alloc (.cells #[.slice a1 g.terms.length c1, .slice a2 g.nons.length c2, .slice a3 g.prods.length c3] 29)) (.cells #[.slice none 0 0, .slice none 0 0, .slice none 0 0] 29); rwa [show (w.alloc (.cells #[.slice a1 g.terms.length c1, .slice a2 g.nons.length c2, .slice a3 g.prods.length c3] 29)).heap.size = w.heap.size + 1 by simp] at this, fun r hr => by cases hr⟩
  have HP := Lib.hid hp
  have HK4 := Lib.hid k4
  have HPL := Lib.hid hpl
  have HL4 := Lib.hid l4
  clear hp k1 k2 k3 k4 k5 k6 k7 hpl l4
  go_enter Tryd.func65, Tryd.ntmps65
  go_upto_region 1 with fail
  obtain ⟨⟨⟨x0, f0⟩, ⟨x1, f1⟩, x2, f2⟩, xl⟩ := HQ0.out.cells
  go_cut [15] from 4 to 15 (fun _ wx => ∃ (b1 b2 b3 : Option Addr) (d1 d2 d3 : Nat), Hid (CpQ w wx w.heap.size (w.heap.size + 1) g b1 b2 b3 d1 d2 d3 0 ls))
  case first =>
    go_region_law (rw [if_pos (by simp [Region.wanted])]; go_wp2_with (first
      | (go_at_call 89; (with_reducible refine (HC1.out _ HQ0.out.below).mono ?_); rintro e w2 ⟨b1, d1, rfl, ho, hb⟩; have hq := Cp3.call HQ0.out hb (rwT g b1 d1) (rw_neT _ _ _) ho; have HQ2 := Lib.hid hq; obtain ⟨⟨⟨p0, h0⟩, ⟨p1, h1⟩, p2, h2⟩, pl⟩ := hq.cells; clear hq ho hb x0 f0 x1 f1 x2 f2 xl)
      | (go_at_call 89; (with_reducible refine (HC2.out _ HQ2.out.below).mono ?_); rintro e w4 ⟨b2, d2, rfl, ho, hb⟩; have hq := Cp3.call HQ2.out hb (rwN g b2 d2) (rw_neN _ _ _) ho; have HQ4 := Lib.hid hq; obtain ⟨⟨⟨p0, h0⟩, ⟨p1, h1⟩, p2, h2⟩, pl⟩ := hq.cells; clear hq ho hb)
      | (go_at_call 89; (with_reducible refine (HC2.out _ (HQ2.out.set0 _).below).mono ?_); rintro e w4 ⟨b2, d2, rfl, ho, hb⟩; have hq := Cp3.call (HQ2.out.set0 _) hb (rwN g b2 d2) (rw_neN _ _ _) ho; have HQ4 := Lib.hid hq; obtain ⟨⟨⟨p0, h0⟩, ⟨p1, h1⟩, p2, h2⟩, pl⟩ := hq.cells; clear hq ho hb)
      | (go_at_call 90; (with_reducible refine (HC3.out _ HQ4.out.below).mono ?_); rintro e w6 ⟨b3, d3, rfl, ho, hb⟩; have hq := Cp3.call HQ4.out hb (rwP g ls b3 d3) (rw_neP _ _ _ _) ho; have HQ6 := Lib.hid hq; obtain ⟨⟨⟨p0, h0⟩, ⟨p1, h1⟩, p2, h2⟩, pl⟩ := hq.cells; clear hq ho hb)
      | (go_at_call 90; (with_reducible refine (HC3.out _ (HQ4.out.set0 _).below).mono ?_); rintro e w6 ⟨b3, d3, rfl, ho, hb⟩; have hq := Cp3.call (HQ4.out.set0 _) hb (rwP g ls b3 d3) (rw_neP _ _ _ _) ho; have HQ6 := Lib.hid hq; obtain ⟨⟨⟨p0, h0⟩, ⟨p1, h1⟩, p2, h2⟩, pl⟩ := hq.cells; clear hq ho hb)
      | (go_at_call 90; (with_reducible refine (HC3.out _ (HQ4.out.set1 _).below).mono ?_); rintro e w6 ⟨b3, d3, rfl, ho, hb⟩; have hq := Cp3.call (HQ4.out.set1 _) hb (rwP g ls b3 d3) (rw_neP _ _ _ _) ho; have HQ6 := Lib.hid hq; obtain ⟨⟨⟨p0, h0⟩, ⟨p1, h1⟩, p2, h2⟩, pl⟩ := hq.cells; clear hq ho hb)
      | (go_at_call 90; (with_reducible refine (HC3.out _ ((HQ4.out.set0 _).set1 _).below).mono ?_); rintro e w6 ⟨b3, d3, rfl, ho, hb⟩; have hq := Cp3.call ((HQ4.out.set0 _).set1 _) hb (rwP g ls b3 d3) (rw_neP _ _ _ _) ho; have HQ6 := Lib.hid hq; obtain ⟨⟨⟨p0, h0⟩, ⟨p1, h1⟩, p2, h2⟩, pl⟩ := hq.cells; clear hq ho hb)
      | (go_at_call 90; (with_reducible refine (HC3.out _ ((HQ4.out.set1 _).set0 _).below).mono ?_); rintro e w6 ⟨b3, d3, rfl, ho, hb⟩; have hq := Cp3.call ((HQ4.out.set1 _).set0 _) hb (rwP g ls b3 d3) (rw_neP _ _ _ _) ho; have HQ6 := Lib.hid hq; obtain ⟨⟨⟨p0, h0⟩, ⟨p1, h1⟩, p2, h2⟩, pl⟩ := hq.cells; clear hq ho hb)))
    all_goals
      go_wp2
      go_meet
      case rel => exact ⟨b1, b2, b3, d1, d2, d3, Lib.hid (Cp3.fin (by repeat (first | exact HQ6.out | apply Cp3.set0 | apply Cp3.set1 | apply Cp3.set2)) HP.out HPL.out HK4.out)⟩
  case rest =>
  obtain ⟨b1, b2, b3, d1, d2, d3, HQ⟩ := hcut
  clear x0 f0 x1 f1 x2 f2 xl HC1 HC2 HC3 HQ0
  rename World => w6
  have x2 := (blk_cell (i := 2) HQ.out.c.x rfl).1
  have xl := heap_lt HQ.out.c.x
  go_wp2_with fail
  go_loopw [19] (fun i wr => ∃ (k : Nat) (ls' : List Lay), k ≤ g.prods.length ∧ i = .int .i64 k ∧ Hid (CpQ w wr w.heap.size (w.heap.size + 1) g b1 b2 b3 d1 d2 d3 k ls')) (fun i _ => g.prods.length - (intOf i).toNat)
  case atStart => exact ⟨0, ls, Nat.zero_le _, rfl, HQ⟩
  case round =>
    clear x2 xl HQ
    obtain ⟨k, ls1, hk, rfl, HQ⟩ := hrel
    rename World => w7
    have hll : ls1.length = g.prods.length := by rw [← HQ.out.p, List.length_map]
    have x0 := (blk_cell (i := 0) HQ.out.c.x rfl).1
    have x1 := (blk_cell (i := 1) HQ.out.c.x rfl).1
    have x2 := (blk_cell (i := 2) HQ.out.c.x rfl).1
    have xl := heap_lt HQ.out.c.x
    by_cases hlt : k < g.prods.length
    · have hlt' : (k : Int) < g.prods.length := by omega
      obtain ⟨x, hx⟩ : ∃ x, ls1[k]? = some x := ⟨_, List.getElem?_eq_getElem (by omega)⟩
      have hxr : x.right.length ≤ 1000 := HL4.out x.plain (by rw [← HQ.out.p]; exact List.mem_map.2 ⟨x, List.mem_of_getElem? hx, rfl⟩)
      have hcr := HQ.out.rn k x (Nat.le_refl _) hx
      have HCL := Lib.hid fun (W : World) (hW : Below w.heap.size w W) => cloneI_any x.addr x.cap x.right W (hcr.below hW) (by omega) (by intro e; rw [e] at hcr; have := cells_none hcr; unfold nums at this; rwa [List.map_eq_nil_iff] at this)
      obtain ⟨bp, hbp⟩ : ∃ bp, b3 = some ⟨bp, 0, none⟩ := by
        rcases HQ.out.q.2 with ⟨_, h2⟩ | ⟨bp, _, _, hv, _⟩
        · omega
        · injection hv with hv _ _
          exact ⟨bp, hv⟩
      subst hbp
      have hcq := (own_cells HQ.out.q).1
      obtain ⟨_, _, e0, hbl, hc⟩ := hcq.get (by intro e; have := (lays_at _ _ _ hx).1; rw [e] at this; simp at this)
      cases e0
      have c1 := hc _ _ (lays_at _ _ _ hx).2
      rw [Nat.zero_add] at c1
      have HF := Lib.hid fun (W : World) (hW : Below w7.heap.size w7 W) => (show (W.cell? ⟨w.heap.size, 2, none⟩ = some (.slice (some ⟨bp, 0, none⟩) g.prods.length d3) ∧ w.heap.size < W.heap.size) ∧ (W.cell? ⟨bp, k * 2 + 1, none⟩ = some (.slice x.addr x.right.length x.cap) ∧ W.frozen? ⟨bp, k * 2 + 1, none⟩ = false ∧ bp < W.heap.size) from by
        have h := HQ.out.below hW
        refine ⟨⟨(blk_cell (i := 2) h.c.x rfl).1, heap_lt h.c.x⟩, ?_⟩
        obtain ⟨_, h2, cur, hcur⟩ := own_block h.q (g := bp) rfl
        have h3 : W.cell? ⟨bp, k * 2 + 1, none⟩ = some (.slice x.addr x.right.length x.cap) := (hW.cell (p := ⟨bp, k * 2 + 1, none⟩) hbl).trans c1
        exact ⟨h3, by unfold World.frozen?; rw [hcur]; simp, h2⟩)
      have HX := Lib.hid hx
      clear hcr hx hc hcq hll
      go_upto_region 5 with fail
      go_region_with (go_at_call 74; (with_reducible refine (HCL.out _ (by first | exact HQ.out.c.below | exact HQ.out.c.below.drew)).mono ?_); rintro e w8 ⟨a6, c6, rfl, ho6, hb6⟩; obtain ⟨⟨z0, z1⟩, z2, z3, z4⟩ := HF.out w8 (by first | exact hb6 | exact (Below.refl _ _).drew.trans hb6))
      all_goals
        have hb7 : Below w7.heap.size w7 w8 := by first | exact hb6 | exact (Below.refl _ _).drew.trans hb6
        have HP7 := Lib.hid ((HQ.out.below hb7).put HX.out (own_baseI ho6 (by first | exact HQ.out.c.below.size | exact HQ.out.c.below.drew.size)))
        clear ho6 hb6 hb7
        go_wp2
        go_roundw
        case rel => exact ⟨k + 1, _, by omega, by go_num, HP7⟩
        case measure => simp [intOf]; omega
    · have hge : ¬ (k : Int) < g.prods.length := by omega
      obtain rfl : k = g.prods.length := by omega
      have z0 := blk_cell (i := 0) HQ.out.c.z rfl
      have z1 := blk_cell (i := 1) HQ.out.c.z rfl
      have z2 := blk_cell (i := 2) HQ.out.c.z rfl
      have zl := heap_lt HQ.out.c.z
      obtain ⟨z0, y0⟩ := z0
      obtain ⟨z1, y1⟩ := z1
      obtain ⟨z2, y2⟩ := z2
      have HH0 := Lib.hid (heap_set w7 (w.heap.size + 1) 0 (.slice b1 g.terms.length d1) _ _ HQ.out.c.z (by simp))
      have HH1 := Lib.hid (heap_set (w7.setCell ⟨w.heap.size + 1, 0, none⟩ (.slice b1 g.terms.length d1)) (w.heap.size + 1) 1 (.slice b2 g.nons.length d2) _ _ HH0.out (by simp))
      have HH2 := Lib.hid (heap_set ((w7.setCell ⟨w.heap.size + 1, 0, none⟩ (.slice b1 g.terms.length d1)).setCell ⟨w.heap.size + 1, 1, none⟩ (.slice b2 g.nons.length d2)) (w.heap.size + 1) 2 (.slice b3 g.prods.length d3) _ _ HH1.out (by simp))
      have hG : GrO w7 w.heap.size b1 b2 b3 d1 d2 d3 g ls1 := ⟨HQ.out.p, HQ.out.t, HQ.out.n, HQ.out.q, fun x hx => by
        obtain ⟨j, hj, e⟩ := List.mem_iff_getElem.1 hx
        exact HQ.out.ro j x (by omega) (by rw [List.getElem?_eq_getElem hj, e])⟩
      have hS : ∀ (W : World) (i : Nat) (v : Value) (c : Array Value), W.heap[w.heap.size + 1]? = some (.cells c 29) → Stays [29] W (W.setCell ⟨w.heap.size + 1, i, none⟩ v) := fun W i v c hc => Stays.set hc (by simp)
      have HEND := Lib.hid (show CopyTo g w (.returned (.agg #[.slice b1 g.terms.length d1, .slice b2 g.nons.length d2, .slice b3 g.prods.length d3])) (((w7.setCell ⟨w.heap.size + 1, 0, none⟩ (.slice b1 g.terms.length d1)).setCell ⟨w.heap.size + 1, 1, none⟩ (.slice b2 g.nons.length d2)).setCell ⟨w.heap.size + 1, 2, none⟩ (.slice b3 g.prods.length d3)) from
        ⟨((HQ.out.c.below.setCell (p := ⟨w.heap.size + 1, 0, none⟩) (by simp) _).setCell (p := ⟨w.heap.size + 1, 1, none⟩) (by simp) _).setCell (p := ⟨w.heap.size + 1, 2, none⟩) (by simp) _, b1, b2, b3, d1, d2, d3, ls1, rfl, ((hG.stays (hS _ _ _ _ HQ.out.c.z) (by decide) (by decide) (by decide)).stays (hS _ _ _ _ HH0.out) (by decide) (by decide) (by decide)).stays (hS _ _ _ _ HH1.out) (by decide) (by decide) (by decide)⟩)
      clear hG hS HH0 HH1 hll
      generalize hBR : w.heap.size + 1 = BR at *
      clear hBR
      go_wp2
      refine bodyPost_ret (results_cell_row (g := BR) (t := 29) (cs := #[.slice b1 g.terms.length d1, .slice b2 g.nons.length d2, .slice b3 g.prods.length d3]) (fr := (0, 0)) rfl _ _ _ rfl (by rw [HH2.out]; simp [Array.set!]) Tryd.underlying29 rfl (by kernel_rfl)) rfl ?_
      exact HEND.out
end Go.Proofs.YtejjdfmobiegdaaDoor
