/- states: Grammar walked; rows that are written; the same numbers, the same texts. -/
import Derived.Test.YtejjdfmobiegdaaDoorStX
import Derived.Test.YtejjdfmobiegdaaDoorStS
set_option linter.unusedVariables false
namespace Go.Proofs.YtejjdfmobiegdaaDoor
open Go.RowKit
open Doc

/-! ### Rows that are written -/
/-- A cell of a row of one's own is written. -/
theorem own_set {w : World} {base e size n g c : Nat} {xs : List Value} (h : w.ownsRow base e size (.slice (some ⟨g, 0, none⟩) n c) n xs) {i : Nat} (hi : i < n * size) (u : Value) : (w.setCell ⟨g, i, none⟩ u).ownsRow base e size (.slice (some ⟨g, 0, none⟩) n c) n (xs.set i u) := by
  refine ⟨by rw [List.length_set]; exact h.1, ?_⟩
  rcases h.2 with ⟨hv, _⟩ | ⟨g', cap, cur, hv, hb, hh, hn, hm, hs, ht⟩
  · cases hv
  · injection hv with e1 _ e3
    injection e1 with e1
    injection e1 with e1 _ _
    subst e1 e3
    refine .inr ⟨g, c, cur.set! i u, rfl, hb, heap_set w g i u cur _ hh (by rw [hs]; exact Nat.lt_of_lt_of_le hi (Nat.mul_le_mul_right _ hn)), hn, hm, by simpa using hs, ?_⟩
    rw [← ht]
    simp only [Array.set!_eq_setIfInBounds, Array.toList_setIfInBounds]
    rw [List.take_set]
theorem own_cellF {w : World} {base e size n g c : Nat} {xs : List Value} (h : w.ownsRow base e size (.slice (some ⟨g, 0, none⟩) n c) n xs) {i : Nat} {u : Value} (hi : xs[i]? = some u) : w.cell? ⟨g, i, none⟩ = some u ∧ w.frozen? ⟨g, i, none⟩ = false ∧ g < w.heap.size := by
  rcases h.2 with ⟨hv, _⟩ | ⟨g', cap, cur, hv, hb, hh, hn, hm, hs, ht⟩
  · cases hv
  · injection hv with e1 _ e3
    injection e1 with e1
    injection e1 with e1 _ _
    subst e1 e3
    have hi2 : cur[i]? = some u := by
      rw [← Array.getElem?_toList]
      have hil := (List.getElem?_eq_some_iff.1 hi).1
      rw [← ht, List.getElem?_take] at hi
      split at hi
      · exact hi
      · cases hi
    exact ⟨(blk_cell hh hi2).1, (blk_cell hh hi2).2, heap_lt hh⟩
theorem own_some {w : World} {base e size n c : Nat} {a : Option Addr} {xs : List Value} (h : w.ownsRow base e size (.slice a n c) n xs) (hn : 0 < n) : ∃ g, a = some ⟨g, 0, none⟩ ∧ base ≤ g ∧ g < w.heap.size ∧ ∃ cur, w.heap[g]? = some (.cells cur e (0, 0)) := by
  rcases h.2 with ⟨_, h0⟩ | ⟨g, cap, cur, hv, hb, hh, _⟩
  · omega
  · injection hv with hv _ _
    exact ⟨g, hv, hb, heap_lt hh, cur, hh⟩
/-- Blocks of another number stand where one is written. -/
theorem own_far {w : World} {base e size n : Nat} {v : Value} {xs : List Value} (h : w.ownsRow base e size v n xs) {g i : Nat} {u : Value} (hg : ∀ k, v.ownBlock = some k → k ≠ g) : (w.setCell ⟨g, i, none⟩ u).ownsRow base e size v n xs :=
  own_same h fun k hk _ => Below.heap_setCell _ _ _ _ (hg k hk)
theorem own_type {w : World} {base e size n : Nat} {v : Value} {xs : List Value} (h : w.ownsRow base e size v n xs) {g : Nat} {cur : Array Value} {t : TypeId} {fr : Nat × Nat} (hg : w.heap[g]? = some (.cells cur t fr)) (ht : e ≠ t) : ∀ k, v.ownBlock = some k → k ≠ g := fun k hk e2 => by
  obtain ⟨_, _, c, hc⟩ := own_block h hk
  rw [e2, hg] at hc
  injection hc with hc
  injection hc with _ hc _
  exact ht hc.symm
/-- All from a number on is as it was. -/
structure Above (b : Nat) (w w' : World) : Prop where
  size : w.heap.size ≤ w'.heap.size
  block : ∀ k, b ≤ k → k < w.heap.size → w'.heap[k]? = w.heap[k]?
theorem Above.refl (b : Nat) (w : World) : Above b w w := ⟨Nat.le_refl _, fun _ _ _ => rfl⟩
theorem Above.set {b : Nat} {w w' : World} (h : Above b w w') {g i : Nat} {u : Value} (hg : g < b) : Above b w (w'.setCell ⟨g, i, none⟩ u) :=
  ⟨by have := h.size; simp [World.setCell]; omega, fun k h1 h2 => (Below.heap_setCell _ _ _ _ (show k ≠ g by omega)).trans (h.block k h1 h2)⟩
theorem own_above {b : Nat} {w w' : World} (h : Above b w w') {base e size n : Nat} {v : Value} {xs : List Value} (ho : w.ownsRow base e size v n xs) (hb : b ≤ base) : w'.ownsRow base e size v n xs :=
  own_same ho fun k hk hl => h.block k (Nat.le_trans hb (own_block ho hk).1) hl
theorem MacAt.above {b : Nat} {w w' : World} (ha : Above b w w') {B base : Nat} {g : Gr} {G : GrL} {sa : Option Addr} {sc : Nat} {ss : List StL} (h : MacAt w B base g G sa sc ss) (hb : b ≤ base) : MacAt w' B base g G sa sc ss :=
  ⟨(ha.block B (Nat.le_trans hb h.lo) (heap_lt h.q)).trans h.q, h.lo, ⟨h.gr.p, own_above ha h.gr.t hb, own_above ha h.gr.n hb, own_above ha h.gr.q hb, fun x hx => own_above ha (h.gr.r x hx) hb⟩,
   ⟨own_above ha h.all.own hb, fun x hx => ⟨⟨own_above ha (h.all.its x hx).1.own hb⟩, (h.all.its x hx).2⟩, fun x hx => ⟨(h.all.map x hx).1, (h.all.map x hx).2.at (ha.block _ (Nat.le_trans hb (h.all.map x hx).1) (h.all.map x hx).2.lt)⟩, h.all.far⟩⟩
theorem GrO.above {b : Nat} {w w' : World} (ha : Above b w w') {base : Nat} {x y z : Option Addr} {cx cy cz : Nat} {g : Gr} {ls : List Lay} (h : GrO w base x y z cx cy cz g ls) (hb : b ≤ base) : GrO w' base x y z cx cy cz g ls :=
  ⟨h.p, own_above ha h.t hb, own_above ha h.n hb, own_above ha h.q hb, fun x hx => own_above ha (h.r x hx) hb⟩
set_option maxHeartbeats 1000000 in
theorem keepEqI (a b : Option Addr) (ca cb : Nat) (x : List Int) (w : World) (hx : Cells w a (nums x)) (hy : Cells w b (nums x)) (hxl : x.length ≤ 4000000) :
    Calls Tryd.prog 17 #[.slice a x.length ca, .slice b x.length cb] w fun e w' => e = .returned (.bool true) ∧ ∃ n, w' = w.drewN n := by
  have HX := Lib.hid hx
  have HY := Lib.hid hy
  clear hx hy
  have mixed : Tryd.prog.follows Departure.mixedOrders = true := by kernel_rfl
  go_enter Tryd.func17, Tryd.ntmps17
  go_wp2
  go_loopw [5] (fun i wr => ∃ k n : Nat, k ≤ x.length ∧ i = .int .i64 k ∧ wr = w.drewN n) (fun i _ => x.length - (intOf i).toNat)
  case atStart => exact ⟨0, 0, Nat.zero_le _, rfl, rfl⟩
  case round =>
    obtain ⟨k, n, hk, rfl, rfl⟩ := hrel
    by_cases hlt : k < x.length
    · obtain ⟨u, hu⟩ : ∃ u, x[k]? = some u := ⟨_, List.getElem?_eq_getElem hlt⟩
      obtain ⟨b1, o1, rfl, hb1, hc1⟩ := HX.out.get (by unfold nums; intro e; rw [List.map_eq_nil_iff] at e; rw [e] at hlt; simp at hlt)
      obtain ⟨b2, o2, rfl, hb2, hc2⟩ := HY.out.get (by unfold nums; intro e; rw [List.map_eq_nil_iff] at e; rw [e] at hlt; simp at hlt)
      have c1 := hc1 k _ (nums_at hu)
      have c2 := hc2 k _ (nums_at hu)
      have e1 : (k : Int) < x.length := by omega
      clear hc1 hc2
      go_wp2
      go_region
      go_wp2
      go_roundw
      case rel => exact ⟨k + 1, n + 1, by omega, by go_num, by simp⟩
      case measure => simp [intOf]; omega
    · have e1 : ¬ (k : Int) < x.length := by omega
      go_wp2
      go_ret
      exact ⟨rfl, n, rfl⟩
set_option maxHeartbeats 1000000 in
theorem keepEqS (a b : Option Addr) (ca cb : Nat) (x : List (List UInt8)) (w : World) (hx : Cells w a (strs x)) (hy : Cells w b (strs x)) (hxl : x.length ≤ 4000000) :
    Calls Tryd.prog 41 #[.slice a x.length ca, .slice b x.length cb] w fun e w' => e = .returned (.bool true) ∧ ∃ n, w' = w.drewN n := by
  have HX := Lib.hid hx
  have HY := Lib.hid hy
  clear hx hy
  have mixed : Tryd.prog.follows Departure.mixedOrders = true := by kernel_rfl
  go_enter Tryd.func41, Tryd.ntmps41
  go_wp2
  go_loopw [5] (fun i wr => ∃ k n : Nat, k ≤ x.length ∧ i = .int .i64 k ∧ wr = w.drewN n) (fun i _ => x.length - (intOf i).toNat)
  case atStart => exact ⟨0, 0, Nat.zero_le _, rfl, rfl⟩
  case round =>
    obtain ⟨k, n, hk, rfl, rfl⟩ := hrel
    by_cases hlt : k < x.length
    · obtain ⟨u, hu⟩ : ∃ u, x[k]? = some u := ⟨_, List.getElem?_eq_getElem hlt⟩
      obtain ⟨b1, o1, rfl, hb1, hc1⟩ := HX.out.get (by unfold strs; intro e; rw [List.map_eq_nil_iff] at e; rw [e] at hlt; simp at hlt)
      obtain ⟨b2, o2, rfl, hb2, hc2⟩ := HY.out.get (by unfold strs; intro e; rw [List.map_eq_nil_iff] at e; rw [e] at hlt; simp at hlt)
      have c1 := hc1 k _ (strs_at hu)
      have c2 := hc2 k _ (strs_at hu)
      have e1 : (k : Int) < x.length := by omega
      clear hc1 hc2
      go_wp2
      go_region
      go_wp2
      go_roundw
      case rel => exact ⟨k + 1, n + 1, by omega, by go_num, by simp⟩
      case measure => simp [intOf]; omega
    · have e1 : ¬ (k : Int) < x.length := by omega
      go_wp2
      go_ret
      exact ⟨rfl, n, rfl⟩
set_option maxRecDepth 100000 in
set_option maxHeartbeats 4000000 in
theorem mgram_any (B base : Nat) (g : Gr) (G : GrL) (sa : Option Addr) (sc : Nat) (ss : List StL) (w : World) (h : MacAt w B base g G sa sc ss) (hck : CheckG g) :
    Calls Tryd.prog 40 #[.pointer (some ⟨B, 0, none⟩)] w (CopyTo g w) := by
  have hA : Below w.heap.size w (w.alloc (.cells #[.slice none 0 0, .slice none 0 0, .slice none 0 0] 29)) := (Below.refl _ _).alloc (Nat.le_refl _) _
  have hz := heap_alloc_new w (.cells #[.slice none 0 0, .slice none 0 0, .slice none 0 0] 29)
  have hM := h.below hA
  have hpl : G.ls.length = g.prods.length := by rw [← hM.gr.p, List.length_map]
  have hat := hM.gr.at
  rw [hpl] at hat
  have HCP := Lib.hid (copied_any _ g _ hat ⟨by have := hck.t8; omega, by have := hck.n8; omega, by have := hck.p24; omega, fun p hp => by have := (hck.pv p hp).2.1; omega⟩)
  unfold CopyTo at HCP
  have x0 := (blk_cell (i := 0) hM.q rfl).1
  have x1 := (blk_cell (i := 1) hM.q rfl).1
  have x2 := (blk_cell (i := 2) hM.q rfl).1
  have xl := heap_lt hM.q
  have HA := Lib.hid hA
  have HZ := Lib.hid hz
  clear hA hz hM hpl hat h hck
  go_enter Tryd.func40, Tryd.ntmps40
  go_upto_region 1 with fail
  generalize w.alloc (.cells #[.slice none 0 0, .slice none 0 0, .slice none 0 0] 29) = S at *
  have hls := heap_lt HZ.out
  obtain ⟨BR, hBR⟩ : ∃ BR, w.heap.size = BR := ⟨_, rfl⟩
  rw [hBR] at HZ HA hls ⊢
  go_wp2_with (go_at_call 65; (with_reducible refine HCP.out.mono ?_); rintro e w2 ⟨hb2, b1, b2, b3, d1, d2, d3, ls, rfl, hG⟩
               have hz2 := (hb2.block BR hls).trans HZ.out
               have HZ2 := Lib.hid hz2
               have HG2 := Lib.hid hG
               have HB2 := Lib.hid (HA.out.trans (hb2.mono (Nat.le_of_lt hls)))
               have HL2 := Lib.hid (show BR ≤ S.heap.size from Nat.le_of_lt hls)
               obtain ⟨z0, y0⟩ := blk_cell (i := 0) hz2 rfl
               obtain ⟨z1, y1⟩ := blk_cell (i := 1) hz2 rfl
               obtain ⟨z2, y2⟩ := blk_cell (i := 2) hz2 rfl
               have zl := heap_lt hz2
               clear hb2 hz2 hG x0 x1 x2 xl)
  have HH0 := Lib.hid (heap_set w2 BR 0 (.slice b1 g.terms.length d1) _ _ HZ2.out (by simp))
  have HH1 := Lib.hid (heap_set (w2.setCell ⟨BR, 0, none⟩ (.slice b1 g.terms.length d1)) BR 1 (.slice b2 g.nons.length d2) _ _ HH0.out (by simp))
  have HH2 := Lib.hid (heap_set ((w2.setCell ⟨BR, 0, none⟩ (.slice b1 g.terms.length d1)).setCell ⟨BR, 1, none⟩ (.slice b2 g.nons.length d2)) BR 2 (.slice b3 g.prods.length d3) _ _ HH1.out (by simp))
  have hS : ∀ (W : World) (i : Nat) (v : Value) (c : Array Value), W.heap[BR]? = some (.cells c 29) → Stays [29] W (W.setCell ⟨BR, i, none⟩ v) := fun W i v c hc => Stays.set hc (by simp)
  refine bodyPost_ret (results_cell_row (g := BR) (t := 29) (cs := #[.slice b1 g.terms.length d1, .slice b2 g.nons.length d2, .slice b3 g.prods.length d3]) (fr := (0, 0)) rfl _ _ _ rfl (by rw [HH2.out]; simp [Array.set!]) Tryd.underlying29 rfl (by kernel_rfl)) rfl ?_
  unfold CopyTo
  rw [hBR]
  exact ⟨((HB2.out.setCell (p := ⟨BR, 0, none⟩) (Nat.le_refl _) _).setCell (p := ⟨BR, 1, none⟩) (Nat.le_refl _) _).setCell (p := ⟨BR, 2, none⟩) (Nat.le_refl _) _, b1, b2, b3, d1, d2, d3, ls, rfl, (((HG2.out.stays (hS _ _ _ _ HZ2.out) (by decide) (by decide) (by decide)).stays (hS _ _ _ _ HH0.out) (by decide) (by decide) (by decide)).stays (hS _ _ _ _ HH1.out) (by decide) (by decide) (by decide)).base HL2.out⟩
end Go.Proofs.YtejjdfmobiegdaaDoor
