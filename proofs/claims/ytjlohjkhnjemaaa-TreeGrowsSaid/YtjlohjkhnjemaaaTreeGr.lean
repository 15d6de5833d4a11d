/- Trees: a leaf grown: the law's own grown: over any world. -/
import Derived.Test.YtjlohjkhnjemaaaTreeY
import Derived.Test.YtjlohjkhnjemaaaTreeX
import Derived.Test.YtjlohjkhnjemaaaTreeU
set_option linter.unusedVariables false
namespace Go.Proofs.Ytjlohjkhnjemaaa
open Go.RowKit
open Doc

theorem leafTl_plain (x : Int) : (leafTl x).plain = leafOf x := by unfold leafTl leafOf; rw [Tl.plain_mk]; rfl
theorem three_alloc (w : World) (o0 o1 o2 : Obj) : Below w.heap.size w (((w.alloc o0).alloc o1).alloc o2) ∧ (((w.alloc o0).alloc o1).alloc o2).heap.size = w.heap.size + 3 ∧ (((w.alloc o0).alloc o1).alloc o2).heap[w.heap.size]? = some o0 ∧ (((w.alloc o0).alloc o1).alloc o2).heap[w.heap.size + 1]? = some o1 ∧ (((w.alloc o0).alloc o1).alloc o2).heap[w.heap.size + 1 + 1]? = some o2 := by
  obtain ⟨hb, hs, h0, h1⟩ := twin_alloc w o0 o1
  have hb2 : Below ((w.alloc o0).alloc o1).heap.size ((w.alloc o0).alloc o1) (((w.alloc o0).alloc o1).alloc o2) := (Below.refl _ _).alloc (Nat.le_refl _) _
  refine ⟨hb.trans (hb2.mono hb.size), by simp, (hb2.block _ (by omega)).trans h0, (hb2.block _ (by omega)).trans h1, ?_⟩
  have := heap_alloc_new ((w.alloc o0).alloc o1) o2
  rw [hs] at this
  exact this

theorem gram_open' {w : World} {a1 a2 a3 : Option Addr} {c1 c2 c3 : Nat} {g : Gr} (h : GramAt w (.agg #[.slice a1 g.terms.length c1, .slice a2 g.nons.length c2, .slice a3 g.prods.length c3]) g) : ∃ ls : List Lay, ls.map Lay.plain = g.prods ∧ Cells w a3 (lays ls) ∧ ∀ p ∈ ls, Cells w p.addr (nums p.right) := by
  obtain ⟨_, _, _, _, _, _, ls, heq, hp, k1, k2, k3, k4, k5, k6, k7⟩ := h
  have h2 : (.slice a3 g.prods.length c3 : Value) = _ := congrArg (fun v => match v with | .agg x => x.getD 2 undef | _ => undef) heq
  have h3 := (Value.slice.inj h2).1
  exact ⟨ls, hp, by rw [h3]; exact k3, k4⟩

/-- How grown ends. -/
def GrEnd (P : Nat → Prop) (r : Tr × Int) (w : World) (e : Ending) (w' : World) : Prop :=
  Below w.heap.size w w' ∧ ∃ tl : Tl, e = .returned (.tuple #[.agg #[.int .i64 tl.sym, .int .i64 tl.prod, .slice tl.a tl.kids.length tl.c], .int .i64 r.2]) ∧ Lies (fun b => P b ∨ w.heap.size ≤ b) w' tl ∧ tl.plain = r.1

set_option maxRecDepth 100000 in
theorem gr_end {P : Nat → Prop} {r : Tr × Int} {w F : World} {s p : Int} {ar : Option Addr} {c : Nat} {ks : List Tl} {u0 u1 u2 : Value} {z : Int} (hb : Below w.heap.size w F) (hz : F.heap[w.heap.size + 1 + 1]? = some (.cells #[u0, u1, u2] 79)) (hl : Lies (fun b => (P b ∧ b < w.heap.size) ∨ w.heap.size + 2 < b) F (Tl.mk s p ar c ks)) (hp : (Tl.mk s p ar c ks).plain = r.1) (hr : z = r.2) (m : Nat) (hm : ks.length = m) (a : Act) (ha : a.tmps.getD 8 undef = .pointer (some ⟨w.heap.size + 1 + 1, 0, none⟩)) (h9 : a.tmps.getD 9 undef = .int .i64 z) (hd : a.defers = []) :
    bodyPost Try.prog Try.f54 (GrEnd P r w) .ret a (((F.setCell ⟨w.heap.size + 1 + 1, 0, none⟩ (.int .i64 s)).setCell ⟨w.heap.size + 1 + 1, 1, none⟩ (.int .i64 p)).setCell ⟨w.heap.size + 1 + 1, 2, none⟩ (.slice ar m c)) := by
  subst hm
  refine bodyPost_ret (results_ct (p0 := 8) (p1 := 9) (t0 := 79) rfl ha (run_loadVar_row _ (w.heap.size + 1 + 1) 79 79 _ (0, 0) _ (store3 hz _ _ _) Try.underlying79 rfl (by kernel_rfl))) hd ?_
  rw [h9, hr]
  exact ⟨store3_below hb (by omega) _ _ _, Tl.mk s p ar c ks, rfl, hl.keep (by simp [World.setCell]) (fun b hb _ => store3_far _ _ _ b (by omega)) (fun b hb _ => by rcases hb with h | h; exact .inl h.1; exact .inr (by omega)), hp⟩

/-- Where the leaf's kids stand. -/
structure Gl (T : Nat) (s p : Int) (w W : World) (kv : Value) (l : List Int) : Prop where
  t : W.heap[T]? = some (.cells #[.int .i64 s, .int .i64 p, kv] 79)
  r : W.heap[T + 1]? = some (.cells #[.int .i64 0, .int .i64 0, .slice none 0 0] 79)
  b : Below w.heap.size w W
  own : W.ownsRow (T + 2) 79 3 kv l.length (tls (l.map leafTl))
  hT : w.heap.size ≤ T
theorem Gl.alloc {T : Nat} {s p : Int} {w W : World} {kv : Value} {l : List Int} (h : Gl T s p w W kv l) (o : Obj) : Gl T s p w (W.alloc o) kv l := by
  have hb : Below W.heap.size W (W.alloc o) := box_belowT W o
  exact ⟨(hb.block _ (heap_lt h.t)).trans h.t, (hb.block _ (heap_lt h.r)).trans h.r, h.b.trans (hb.mono h.b.size), own_same h.own fun g _ hg => hb.block g hg, h.hT⟩
theorem Gl.step {T : Nat} {s p x : Int} {w W w6 : World} {kv : Value} {l : List Int} (h : Gl T s p w W kv l) {g cap : Nat} (ho : w6.ownsRow (T + 2) 79 3 (.slice (some ⟨g, 0, none⟩) (l.length + 1) cap) (l.length + 1) (tls (l.map leafTl) ++ [.int .i64 x, .int .i64 (-1), .slice none 0 0])) (hg : W.grownBy w6 kv.ownBlock) :
    Gl T s p w (w6.setCell ⟨T, 2, none⟩ (.slice (some ⟨g, 0, none⟩) (l.length + 1) cap)) (.slice (some ⟨g, 0, none⟩) (l ++ [x]).length cap) (l ++ [x]) := by
  have hlo : ∀ b, b ≤ T + 1 → kv.ownBlock ≠ some b := fun b hb e => by have := (own_block h.own e).1; omega
  have hbel : Below (T + 2) W w6 := (Below.refl _ _).grown hg (heap_lt h.r) fun k hk => (own_block h.own hk).1
  have ht6 := (hbel.block T (by omega)).trans h.t
  have hr6 := (hbel.block (T + 1) (by omega)).trans h.r
  have hg2 : T + 2 ≤ g := (own_block ho (g := g) (by simp [Value.ownBlock])).1
  have hk : ∀ b, b ≠ T → (w6.setCell ⟨T, 2, none⟩ (.slice (some ⟨g, 0, none⟩) (l.length + 1) cap)).heap[b]? = w6.heap[b]? := fun b hb => Below.heap_setCell _ _ _ _ hb
  have e1 : (l ++ [x]).length = l.length + 1 := by simp
  have e2 : tls ((l ++ [x]).map leafTl) = tls (l.map leafTl) ++ [.int .i64 x, .int .i64 (-1), .slice none 0 0] := by rw [List.map_append, tls_app]; rfl
  refine ⟨?_, (hk _ (by omega)).trans hr6, (h.b.trans (hbel.mono (by have := h.hT; omega))).setCell (p := ⟨T, 2, none⟩) h.hT _, ?_, h.hT⟩
  · rw [heap_set w6 T 2 _ _ _ ht6 (by simp), e1]
    rfl
  · rw [e1, e2]
    exact own_same ho fun b hb _ => hk b (by have : g = b := (by simpa [Value.ownBlock] using hb); omega)
theorem leaf_lies {P : Nat → Prop} {w : World} {s p : Int} {a : Option Addr} {c : Nat} {l : List Int} (h : Cells w a (tls (l.map leafTl))) (hl : l.length ≤ c) (hp : ∀ x, a = some x → l ≠ [] → P x.block) : Lies P w (.mk s p a c (l.map leafTl)) := by
  refine .mk h (by rw [List.length_map]; exact hl) (fun hn x hx => hp x hx (fun e => hn (by rw [e]; rfl))) ?_
  intro k hk
  obtain ⟨x, _, rfl⟩ := List.mem_map.1 hk
  exact Lies.leaf _ _ _ _ _ _

set_option maxRecDepth 100000 in
set_option maxHeartbeats 8000000 in
theorem grown_leaf (g : Gr) (a1 a2 a3 : Option Addr) (c1 c2 c3 : Nat) (n : Nat) (x : Int) (rt : List Int) (hn : g.prods[n]? = some (x, rt)) (hrl : rt.length ≤ 6) (hpl24 : g.prods.length ≤ 24) (s : Int) (a : Option Addr) (c : Nat) (ks : List Tl) (P : Nat → Prop) (k : Int) (w : World)
    (hg : GramAt w (.agg #[.slice a1 g.terms.length c1, .slice a2 g.nons.length c2, .slice a3 g.prods.length c3]) g) (hl : Lies P w (.mk s (-1) a c ks)) (hk : 0 ≤ k ∧ k ≤ 1000000) :
    Calls Try.prog 54 #[.agg #[.slice a1 g.terms.length c1, .slice a2 g.nons.length c2, .slice a3 g.prods.length c3], .agg #[.int .i64 s, .int .i64 (-1), .slice a ks.length c], .int .i64 k, .int .i64 n] w (GrEnd P (growT n rt (Tl.mk s (-1) a c ks).plain k) w) := by
  obtain ⟨hbS, hsS, q0, q1, q2⟩ := three_alloc w (.cells #[.slice a1 g.terms.length c1, .slice a2 g.nons.length c2, .slice a3 g.prods.length c3] 28) (.cells #[.int .i64 s, .int .i64 (-1), .slice a ks.length c] 79) (.cells #[.int .i64 0, .int .i64 0, .slice none 0 0] 79)
  have HLS : Hid (Lies (fun b => P b ∧ b < w.heap.size) (((w.alloc (.cells #[.slice a1 g.terms.length c1, .slice a2 g.nons.length c2, .slice a3 g.prods.length c3] 28)).alloc (.cells #[.int .i64 s, .int .i64 (-1), .slice a ks.length c] 79)).alloc (.cells #[.int .i64 0, .int .i64 0, .slice none 0 0] 79)) (.mk s (-1) a c ks)) := Lib.hid ((hl.weak (Q := fun b => P b ∧ b < w.heap.size) fun b hb hlt => ⟨hb, hlt⟩).under hbS)
  obtain ⟨ls, hp, k3, k4⟩ := gram_open' hg
  have hpl : ls.length = g.prods.length := by rw [← hp, List.length_map]
  have hnl := (List.getElem?_eq_some_iff.1 hn).1
  obtain ⟨q, hq⟩ : ∃ q, ls[n]? = some q := ⟨_, List.getElem?_eq_getElem (by omega)⟩
  have hqq : q.plain = (x, rt) := by
    have h9 : (ls.map Lay.plain)[n]? = some q.plain := by rw [List.getElem?_map, hq]; rfl
    rw [hp, hn] at h9
    exact (Option.some.inj h9).symm
  have hqr : q.right = rt := congrArg Prod.snd hqq
  have hk4 := k4 q (List.mem_of_getElem? hq)
  obtain ⟨b3, o3, rfl, hb3, hc3⟩ := k3.get (by intro e; have := (lays_at ls n q hq).1; rw [e] at this; simp at this)
  have y1 := hc3 _ _ (lays_at ls n q hq).2
  rw [← Nat.add_assoc] at y1
  obtain ⟨ql, qr, qa, qc⟩ := q
  simp only at hqr hk4 y1
  subst hqr
  have HY : Hid (∀ W, Below w.heap.size w W → W.cell? ⟨b3, o3 + n * 2 + 1, none⟩ = some (.slice qa qr.length qc) ∧ b3 < W.heap.size) := Lib.hid fun W hW => ⟨(hW.cell (p := ⟨b3, o3 + n * 2 + 1, none⟩) hb3).trans y1, Nat.lt_of_lt_of_le hb3 hW.size⟩
  obtain ⟨i0, hi0, hz0, hz1, hz2⟩ := info_of infoTq
  have HB := Lib.hid hbS
  have HQ0 := Lib.hid q0
  have HQ1 := Lib.hid q1
  have HQ2 := Lib.hid q2
  have HR := Lib.hid hk4
  have HSS := Lib.hid hsS
  obtain ⟨t0, x0⟩ := blk_cell (i := 0) q1 rfl
  obtain ⟨t1, x1⟩ := blk_cell (i := 1) q1 rfl
  obtain ⟨t2, x2⟩ := blk_cell (i := 2) q1 rfl
  obtain ⟨z0, v0⟩ := blk_cell (i := 0) q2 rfl
  obtain ⟨z1, v1⟩ := blk_cell (i := 1) q2 rfl
  obtain ⟨z2, v2⟩ := blk_cell (i := 2) q2 rfl
  have l1 := heap_lt q1
  have l2 := heap_lt q2
  have hn24 : n < g.prods.length ∧ g.prods.length ≤ 24 := ⟨hnl, hpl24⟩
  clear hbS hsS q0 q1 q2 hl hg hp k3 k4 hpl hq hqq hk4 hc3 hn y1 hb3
  go_enter Try.func54, Try.ntmps54
  go_upto_region 1 with fail
  generalize ((w.alloc (.cells #[.slice a1 g.terms.length c1, .slice a2 g.nons.length c2, .slice (some ⟨b3, o3, none⟩) g.prods.length c3] 28)).alloc (.cells #[.int .i64 s, .int .i64 (-1), .slice a ks.length c] 79)).alloc (.cells #[.int .i64 0, .int .i64 0, .slice none 0 0] 79) = S at *
  by_cases hk0 : k = 0
  · subst hk0
    have HGT : Hid (growT n qr (Tl.mk s (-1) a c ks).plain 0 = (.mk s n (qr.map leafOf), 0 - 1)) := Lib.hid (by rw [Tl.plain_mk, growT, if_pos rfl, if_pos rfl])
    have hnp : (0 : Int) ≤ n := by omega
    have hnq : (n : Int) < g.prods.length := by omega
    go_upto_region 5 with fail
    have hG1 : Gl (w.heap.size + 1) s n w ((S.setCell ⟨w.heap.size + 1, 1, none⟩ (.int .i64 n)).setCell ⟨w.heap.size + 1, 2, none⟩ (.slice none 0 0)) (.slice none 0 0) [] := by
      refine ⟨?_, ?_, (HB.out.setCell (p := ⟨w.heap.size + 1, 1, none⟩) (Nat.le_succ _) _).setCell (p := ⟨w.heap.size + 1, 2, none⟩) (Nat.le_succ _) _, World.ownsRow_nil _ _ _ _, Nat.le_succ _⟩
      · have h1 := heap_set S (w.heap.size + 1) 1 (.int .i64 n) _ _ HQ1.out (by simp)
        have h2 := heap_set _ (w.heap.size + 1) 2 (.slice none 0 0) _ _ h1 (by simp)
        exact h2.trans rfl
      · rw [Below.heap_setCell _ _ _ _ (show w.heap.size + 1 + 1 ≠ w.heap.size + 1 by omega), Below.heap_setCell _ _ _ _ (show w.heap.size + 1 + 1 ≠ w.heap.size + 1 by omega)]
        exact HQ2.out
    have hq0 : ((S.setCell ⟨w.heap.size + 1, 1, none⟩ (.int .i64 n)).setCell ⟨w.heap.size + 1, 2, none⟩ (.slice none 0 0)).heap[w.heap.size]? = some (.cells #[.slice a1 g.terms.length c1, .slice a2 g.nons.length c2, .slice (some ⟨b3, o3, none⟩) g.prods.length c3] 28) := by
      rw [Below.heap_setCell _ _ _ _ (show w.heap.size ≠ w.heap.size + 1 by omega), Below.heap_setCell _ _ _ _ (show w.heap.size ≠ w.heap.size + 1 by omega)]
      exact HQ0.out
    have HG1 := Lib.hid hG1
    have g2 := (blk_cell (i := 2) hq0 rfl).1
    have l0 := heap_lt hq0
    obtain ⟨y1, ly⟩ := HY.out _ hG1.b
    clear t0 t1 t2 x0 x1 x2 z0 z1 z2 v0 v1 v2 l1 l2 hG1 hq0
    generalize (S.setCell ⟨w.heap.size + 1, 1, none⟩ (.int .i64 n)).setCell ⟨w.heap.size + 1, 2, none⟩ (.slice none 0 0) = W1 at *
    go_wp2
    clear g2 l0 y1 ly
    go_loopw [29] (fun i wr => ∃ (j : Nat) (l : List Int) (ka : Option Addr) (kc : Nat), j ≤ qr.length ∧ i = .int .i64 j ∧ Hid (l = qr.take j) ∧ l.length = j ∧ Hid (Gl (w.heap.size + 1) s n w wr (.slice ka l.length kc) l)) (fun i _ => qr.length - (intOf i).toNat)
    case atStart => exact ⟨0, [], none, 0, Nat.zero_le _, rfl, Lib.hid rfl, rfl, HG1⟩
    case round =>
      clear HG1
      obtain ⟨j, l, ka, kc, hj, rfl, HL, hll, HGL⟩ := hrel
      have HLL := Lib.hid hll
      have hll6 : l.length ≤ 6 := by omega
      clear hll
      by_cases hlt : j < qr.length
      · obtain ⟨y, hy⟩ : ∃ y, qr[j]? = some y := ⟨_, List.getElem?_eq_getElem hlt⟩
        obtain ⟨b5, o5, rfl, hb5, hc5⟩ := (HR.out.below HGL.out.b).get (by unfold nums; intro e; rw [List.map_eq_nil_iff] at e; rw [e] at hlt; simp at hlt)
        have u0 := hc5 j _ (nums_at hy)
        have e5 : (j : Int) < qr.length := by omega
        have HST : Hid (qr.take (j + 1) = l ++ [y]) := Lib.hid (by rw [List.take_add_one, hy, HL.out]; rfl)
        obtain ⟨t2, x2⟩ := blk_cell (i := 2) HGL.out.t rfl
        have lT := heap_lt HGL.out.t
        clear hc5 hy
        go_wp2_with (at_builtin; refine wpList_append_lies _ rfl (.tmp 34) (.tmp 37) 77 rfl (w.heap.size + 1 + 2) 79 i0 (.agg #[.int .i64 0, .int .i64 0, .slice none 0 0]) 3 40 Try.underlying77 hi0 hz0 hz1 hz2 rfl (by decide) _ l.length (tls (l.map leafTl)) rfl ((HGL.out.alloc (.cells #[.int .i64 y, .int .i64 (-1), .slice none 0 0] 79)).own) ⟨wr.heap.size, 0, none⟩ 1 1 [.int .i64 y, .int .i64 (-1), .slice none 0 0] rfl rfl (World.news_of_block (cs := #[.int .i64 y, .int .i64 (-1), .slice none 0 0]) (t := 79) (fr := (0, 0)) (heap_alloc_new wr _)) (by simp [Value.oneCell']) (by decide) (by unfold maxLen; omega) (by omega) (by have := heap_lt HGL.out.r; simp; omega) _ rfl ?_; intro g6 cap6 w6 hown6 hgrow6 hat6 hlt6; have HG6 := Lib.hid ((HGL.out.alloc (.cells #[.int .i64 y, .int .i64 (-1), .slice none 0 0] 79)).step hown6 hgrow6); have r6 := (((Below.refl _ _).grown hgrow6 (by have := heap_lt HGL.out.r; simp; omega) fun k hk => (own_block (HGL.out.alloc (.cells #[.int .i64 y, .int .i64 (-1), .slice none 0 0] 79)).own hk).1 : Below (w.heap.size + 1 + 2) (wr.alloc (.cells #[.int .i64 y, .int .i64 (-1), .slice none 0 0] 79)) w6).block (w.heap.size + 1) (by omega)).trans (HGL.out.alloc _).t; obtain ⟨t26, x26⟩ := blk_cell (i := 2) r6 rfl; have lT6 := heap_lt r6; clear r6)
        exact ⟨⟨j + 1, l ++ [y], some ⟨g6, 0, none⟩, cap6, by omega, by go_num, Lib.hid HST.out.symm, by rw [List.length_append, HLL.out]; rfl, HG6⟩, by simp [intOf]; omega⟩
      · have e1 : ¬ (j : Int) < qr.length := by omega
        obtain rfl : j = qr.length := by omega
        obtain ⟨t0, x0⟩ := blk_cell (i := 0) HGL.out.t rfl
        obtain ⟨t1, x1⟩ := blk_cell (i := 1) HGL.out.t rfl
        obtain ⟨t2, x2⟩ := blk_cell (i := 2) HGL.out.t rfl
        obtain ⟨z0, v0⟩ := blk_cell (i := 0) HGL.out.r rfl
        obtain ⟨z1, v1⟩ := blk_cell (i := 1) HGL.out.r rfl
        obtain ⟨z2, v2⟩ := blk_cell (i := 2) HGL.out.r rfl
        have lT := heap_lt HGL.out.t
        have lR := heap_lt HGL.out.r
        go_wp2
        have hle : l = qr := by rw [HL.out, List.take_length]
        (with_reducible refine gr_end (z := -1) HGL.out.b HGL.out.r (leaf_lies (p := (n : Int)) (s := s) (own_cells HGL.out.own).1 (own_cells HGL.out.own).2 ?_) ?_ ?_ _ ?_ _ ?_ ?_ ?_)
        · intro x hx hne
          have := (own_block HGL.out.own (g := x.block) (by subst hx; rfl)).1
          exact .inr (by omega)
        · rw [HGT.out, Tl.plain_mk, List.map_map, hle]
          congr 1
        · rw [HGT.out]; rfl
        · rw [List.length_map]
        · rfl
        · rfl
        · rfl
  · have hkb : (k == 0) = false := beq_eq_false_iff_ne.2 hk0
    have HGT : Hid (growT n qr (Tl.mk s (-1) a c ks).plain k = ((Tl.mk s (-1) a c ks).plain, k - 1)) := Lib.hid (by rw [Tl.plain_mk, growT, if_pos rfl, if_neg hk0])
    clear hk0
    go_wp2
    (with_reducible refine gr_end HB.out HQ2.out (HLS.out.weak fun b hb _ => .inl hb) (by rw [HGT.out]) (by rw [HGT.out]) _ ?_ _ ?_ ?_ ?_) <;> rfl

theorem grow_bound (p : Int) (rt : List Int) (t : Tr) : ∀ k : Int, 0 ≤ k → -1 ≤ (growT p rt t k).2 ∧ (growT p rt t k).2 ≤ k := by
  induction t using Tr.ind with
  | h s q ks ih =>
    intro k hk
    by_cases h : q = -1
    · simp only [growT, if_pos h]
      split <;> simp only <;> omega
    · simp only [growT, if_neg h]
      have aux : ∀ l : List Tr, (∀ t ∈ l, ∀ k : Int, 0 ≤ k → -1 ≤ (growT p rt t k).2 ∧ (growT p rt t k).2 ≤ k) → ∀ k : Int, -1 ≤ k → -1 ≤ (growK p rt l k).2 ∧ (growK p rt l k).2 ≤ k := by
        intro l
        induction l with
        | nil => intro _ k hk; simp only [growK]; omega
        | cons t l ih2 =>
          intro hi k hk
          rw [growK]
          split
          · have h1 := hi t List.mem_cons_self k (by assumption)
            have h2 := ih2 (fun t ht => hi t (List.mem_cons_of_mem _ ht)) (growT p rt t k).2 h1.1
            simp only
            omega
          · simp only; omega
      exact aux ks ih k (by omega)
theorem storeo_far {w : World} {g i0 i1 i2 : Nat} (u0 u1 u2 : Value) (b : Nat) (hb : b ≠ g) : (((w.setCell ⟨g, i0, none⟩ u0).setCell ⟨g, i1, none⟩ u1).setCell ⟨g, i2, none⟩ u2).heap[b]? = w.heap[b]? := by
  rw [Below.heap_setCell _ _ _ _ hb, Below.heap_setCell _ _ _ _ hb, Below.heap_setCell _ _ _ _ hb]
theorem set_mid (done : List Tl) (k t : Tl) (rest : List Tl) (j : Nat) (hj : done.length = j) : (done ++ k :: rest).set j t = done ++ t :: rest := by
  subst hj
  rw [List.set_append_right _ _ (Nat.le_refl _)]
  simp

/-- Where the loop over the kids stands. -/
structure Gn (P : Nat → Prop) (n : Nat) (rt : List Int) (k : Int) (w S wr : World) (va : Option Addr) (vc : Nat) (ks done : List Tl) (j : Nat) (kk : Int) : Prop where
  b : Below S.heap.size S wr
  own : wr.ownsRow S.heap.size 79 3 (.slice va ks.length vc) ks.length (tls (done ++ ks.drop j))
  lies : ∀ t ∈ done, Lies (fun b => (P b ∧ b < w.heap.size) ∨ (w.heap.size + 2 < b ∧ (Value.slice va ks.length vc).ownBlock ≠ some b)) wr t
  len : done.length = j
  eq : growK n rt (ks.map Tl.plain) k = (done.map Tl.plain ++ (growK n rt ((ks.drop j).map Tl.plain) kk).1, (growK n rt ((ks.drop j).map Tl.plain) kk).2)
theorem Gn.skip {P : Nat → Prop} {n : Nat} {rt : List Int} {k : Int} {w S wr : World} {va : Option Addr} {vc : Nat} {ks done : List Tl} {j : Nat} {kk : Int} (h : Gn P n rt k w S wr va vc ks done j kk) (hk : kk < 0) {kt : Tl} (hkt : ks[j]? = some kt) (hl : Lies (fun b => P b ∧ b < w.heap.size) wr kt) : Gn P n rt k w S wr va vc ks (done ++ [kt]) (j + 1) kk := by
  have hd : ks.drop j = kt :: ks.drop (j + 1) := by
    have := List.getElem?_eq_some_iff.1 hkt
    rw [← this.2]
    exact List.drop_eq_getElem_cons this.1
  refine ⟨h.b, ?_, ?_, by rw [List.length_append, h.len]; rfl, ?_⟩
  · have := h.own
    rw [hd] at this
    rwa [List.append_assoc]
  · intro t ht
    rcases List.mem_append.1 ht with ht | ht
    · exact h.lies t ht
    · rw [List.mem_singleton] at ht
      subst ht
      exact hl.weak fun b hb _ => .inl hb
  · have := h.eq
    rw [hd, List.map_cons, growK_neg _ _ _ _ hk] at this
    rw [this, growK_neg _ _ _ _ hk]
    simp
theorem Gn.grow {P : Nat → Prop} {n : Nat} {rt : List Int} {k : Int} {w S wr w5 : World} {g vc : Nat} {ks done : List Tl} {j : Nat} {kk : Int} (h : Gn P n rt k w S wr (some ⟨g, 0, none⟩) vc ks done j kk) (hS : S.heap.size = w.heap.size + 3) (hk : 0 ≤ kk) {kt t5 : Tl} (hkt : ks[j]? = some kt) (hb : Below wr.heap.size wr w5) (hl : Lies (fun b => (P b ∧ b < w.heap.size) ∨ wr.heap.size ≤ b) w5 t5) (hp : t5.plain = (growT n rt kt.plain kk).1) :
    Gn P n rt k w S (((w5.setCell ⟨g, j * 3, none⟩ (.int .i64 t5.sym)).setCell ⟨g, j * 3 + 1, none⟩ (.int .i64 t5.prod)).setCell ⟨g, j * 3 + 2, none⟩ (.slice t5.a t5.kids.length t5.c)) (some ⟨g, 0, none⟩) vc ks (done ++ [t5]) (j + 1) (growT n rt kt.plain kk).2 := by
  have hj := List.getElem?_eq_some_iff.1 hkt
  have hd : ks.drop j = kt :: ks.drop (j + 1) := by
    rw [← hj.2]
    exact List.drop_eq_getElem_cons hj.1
  obtain ⟨hg1, hg2, _⟩ := own_block h.own (g := g) (by simp [Value.ownBlock])
  have hjl := hj.1
  have ho5 := own_same h.own fun b _ hlt => hb.block b hlt
  have ho8 := (((ho5.stored (j * 3) (.int .i64 t5.sym)).1.stored (j * 3 + 1) (.int .i64 t5.prod)).1.stored (j * 3 + 2) (.slice t5.a t5.kids.length t5.c)).1
  refine ⟨?_, ?_, ?_, by rw [List.length_append, h.len]; rfl, ?_⟩
  · have h1 : Below S.heap.size S w5 := h.b.trans (hb.mono h.b.size)
    exact ((h1.setCell (p := ⟨g, j * 3, none⟩) hg1 _).setCell (p := ⟨g, j * 3 + 1, none⟩) hg1 _).setCell (p := ⟨g, j * 3 + 2, none⟩) hg1 _
  · rw [tls_set _ j t5 (by rw [List.length_append, List.length_drop, h.len]; omega), hd, set_mid _ _ _ _ _ h.len] at ho8
    rwa [List.append_assoc]
  · intro t ht
    rcases List.mem_append.1 ht with ht | ht
    · have h1 := (h.lies t ht).under hb
      refine h1.keep (by simp [World.setCell]) (fun b hb' _ => storeo_far _ _ _ b ?_) (fun b hb' _ => hb')
      rcases hb' with h2 | h2
      · omega
      · exact fun e => h2.2 (by simp [Value.ownBlock, e])
    · rw [List.mem_singleton] at ht
      subst ht
      refine hl.keep (by simp [World.setCell]) (fun b hb' _ => storeo_far _ _ _ b (by rcases hb' with h2 | h2 <;> omega)) (fun b hb' _ => ?_)
      rcases hb' with h2 | h2
      · exact .inl h2
      · refine .inr ⟨by omega, fun e => ?_⟩
        have : g = b := by simpa [Value.ownBlock] using e
        omega
  · have := h.eq
    rw [hd, List.map_cons, growK, if_pos hk] at this
    rw [this, ← hp]
    simp

set_option maxRecDepth 100000 in
set_option maxHeartbeats 8000000 in
theorem grown_any (g : Gr) (a1 a2 a3 : Option Addr) (c1 c2 c3 : Nat) (n : Nat) (x : Int) (rt : List Int) (hn : g.prods[n]? = some (x, rt)) (hrl : rt.length ≤ 6) (hpl24 : g.prods.length ≤ 24) (t : Tl) : ∀ (P : Nat → Prop) (k : Int) (w : World),
    GramAt w (.agg #[.slice a1 g.terms.length c1, .slice a2 g.nons.length c2, .slice a3 g.prods.length c3]) g → Lies P w t → sizeT t.plain ≤ 1000000 → 0 ≤ k ∧ k ≤ 1000000 →
    Calls Try.prog 54 #[.agg #[.slice a1 g.terms.length c1, .slice a2 g.nons.length c2, .slice a3 g.prods.length c3], t.v, .int .i64 k, .int .i64 n] w (GrEnd P (growT n rt t.plain k) w) := by
  induction t using Tl.ind with
  | h s q a c ks ih =>
    intro P k w hg hl hsz hk
    by_cases hq : q = -1
    · subst hq
      exact grown_leaf g a1 a2 a3 c1 c2 c3 n x rt hn hrl hpl24 s a c ks P k w hg hl hk
    have hqb : (q == -1) = false := beq_eq_false_iff_ne.2 hq
    have HIH := Lib.hid ih
    obtain ⟨hbS, hsS, q0, q1, q2⟩ := three_alloc w (.cells #[.slice a1 g.terms.length c1, .slice a2 g.nons.length c2, .slice a3 g.prods.length c3] 28) (.cells #[.int .i64 s, .int .i64 q, .slice a ks.length c] 79) (.cells #[.int .i64 0, .int .i64 0, .slice none 0 0] 79)
    have HLS : Hid (Lies (fun b => P b ∧ b < w.heap.size) (((w.alloc (.cells #[.slice a1 g.terms.length c1, .slice a2 g.nons.length c2, .slice a3 g.prods.length c3] 28)).alloc (.cells #[.int .i64 s, .int .i64 q, .slice a ks.length c] 79)).alloc (.cells #[.int .i64 0, .int .i64 0, .slice none 0 0] 79)) (.mk s q a c ks)) := Lib.hid ((hl.weak (Q := fun b => P b ∧ b < w.heap.size) fun b hb hlt => ⟨hb, hlt⟩).under hbS)
    have HGT : Hid (growT n rt (Tl.mk s q a c ks).plain k = (.mk s q (growK n rt (ks.map Tl.plain) k).1, (growK n rt (ks.map Tl.plain) k).2)) := Lib.hid (by rw [Tl.plain_mk, growT, if_neg hq])
    have HG := Lib.hid hg
    have HB := Lib.hid hbS
    have HQ0 := Lib.hid q0
    have HQ1 := Lib.hid q1
    have HQ2 := Lib.hid q2
    have HSS := Lib.hid hsS
    have HSZ : Hid (∀ kt ∈ ks, sizeT kt.plain ≤ 1000000) := Lib.hid fun kt hkt => by have := size_kid (s := s) (p := q) (a := a) (c := c) hkt; omega
    have hkl : ks.length ≤ 1000000 := by have := size_len s q a c ks; omega
    obtain ⟨t0, x0⟩ := blk_cell (i := 0) q1 rfl
    obtain ⟨t1, x1⟩ := blk_cell (i := 1) q1 rfl
    obtain ⟨t2, x2⟩ := blk_cell (i := 2) q1 rfl
    have l1 := heap_lt q1
    have hk1 := hk.1
    have hk2 := hk.2
    clear hbS hsS q0 q1 q2 hl hg hsz hq ih hn hk
    show Calls _ _ #[.agg #[.slice a1 g.terms.length c1, .slice a2 g.nons.length c2, .slice a3 g.prods.length c3], .agg #[.int .i64 s, .int .i64 q, .slice a ks.length c], .int .i64 k, .int .i64 n] _ _
    go_enter Try.func54, Try.ntmps54
    go_upto_region 1 with fail
    generalize ((w.alloc (.cells #[.slice a1 g.terms.length c1, .slice a2 g.nons.length c2, .slice a3 g.prods.length c3] 28)).alloc (.cells #[.int .i64 s, .int .i64 q, .slice a ks.length c] 79)).alloc (.cells #[.int .i64 0, .int .i64 0, .slice none 0 0] 79) = S at *
    go_wp2_with (at_builtin; refine wpList_appT rfl (.const (.slice none 0 0)) (.tmp 45) rfl S.heap.size none 0 0 [] rfl (World.ownsRow_nil _ _ _ _) (Nat.le_refl _) a ks c rfl HLS.out.cells (by omega) ?_; intro va vc w4 ho4 hg4)
    have hb4 := (Below.refl S.heap.size S).grown hg4 (Nat.le_refl _) (fun k hk => by cases hk)
    simp only [Nat.zero_add, List.nil_append] at ho4
    have HB4 := Lib.hid hb4
    have HGN : Hid (Gn P n rt k w S w4 va vc ks [] 0 k) := Lib.hid ⟨hb4, ho4, fun _ h => (by cases h), rfl, by simp⟩
    clear ho4 hg4 hb4 t0 t1 t2 x0 x1 x2 l1
    go_loopw [2, 49] (fun kv i wr => ∃ (j : Nat) (kk : Int) (done : List Tl), j ≤ ks.length ∧ i = .int .i64 j ∧ kv = .int .i64 kk ∧ -1 ≤ kk ∧ kk ≤ 1000000 ∧ Hid (Gn P n rt k w S wr va vc ks done j kk)) (fun _ i _ => ks.length - (intOf i).toNat)
    case atStart => exact ⟨0, k, [], Nat.zero_le _, rfl, rfl, by omega, hk2, HGN⟩
    case round =>
      clear HGN
      obtain ⟨j, kk, done, hj, rfl, rfl, hkk1, hkk2, HGN⟩ := hrel
      by_cases hlt : j < ks.length
      · obtain ⟨kt, hkt⟩ : ∃ kt, ks[j]? = some kt := ⟨_, List.getElem?_eq_getElem hlt⟩
        have hmem := List.mem_of_getElem? hkt
        have HKT := Lib.hid hkt
        have HLK := Lib.hid ((HLS.out.under HGN.out.b).kid kt hmem)
        have HSK := Lib.hid (HSZ.out kt hmem)
        have e1 : (j : Int) < ks.length := by omega
        by_cases h0 : 0 ≤ kk
        · have hgr := grow_bound n rt kt.plain kk h0
          have HC := Lib.hid fun (W : World) (hW : Below wr.heap.size wr W) => HIH.out kt hmem (fun b => P b ∧ b < w.heap.size) kk W (HG.out.below (HB.out.trans ((HGN.out.b.trans (hW.mono HGN.out.b.size)).mono HB.out.size))) (HLK.out.under hW) HSK.out ⟨h0, hkk2⟩
          unfold Tl.v GrEnd at HC
          rcases HGN.out.own.2 with ⟨_, hnil⟩ | ⟨gg, cap, cur, hv, hg1, _⟩
          · omega
          cases hv
          have hdl := HGN.out.len
          have hcell := tls_at (done ++ ks.drop j) j kt (by rw [List.getElem?_append_right (by omega), hdl, Nat.sub_self, List.getElem?_drop]; exact hkt)
          have y0 := (HGN.out.own.cellAt (j * 3) (by omega)).trans hcell.1
          have y1 := (HGN.out.own.cellAt (j * 3 + 1) (by omega)).trans hcell.2.1
          have y2 := (HGN.out.own.cellAt (j * 3 + 2) (by omega)).trans hcell.2.2
          have f0 := HGN.out.own.frozenAt (j * 3)
          have f1 := HGN.out.own.frozenAt (j * 3 + 1)
          have f2 := HGN.out.own.frozenAt (j * 3 + 2)
          have lg := (own_block HGN.out.own (g := gg) (by simp [Value.ownBlock])).2.1
          have q0 := (HGN.out.b.block _ (heap_lt HQ0.out)).trans HQ0.out
          have g0 := (blk_cell (i := 0) q0 rfl).1
          have g1 := (blk_cell (i := 1) q0 rfl).1
          have g2 := (blk_cell (i := 2) q0 rfl).1
          have lG := heap_lt q0
          have HGR := Lib.hid hgr
          have hkk0 := h0
          have HCE := Lib.hid hcell
          clear hgr hdl hcell q0 hkt hmem
          go_upto_region 16 with fail
          go_region_with (go_at_call 54; (with_reducible refine (HC.out _ (Below.refl _ _).drew).mono ?_); rintro e w5 ⟨hb5, t5, rfl, hl5, hp5⟩; have hO5 := own_same HGN.out.own (w' := w5) (fun b _ hlt => hb5.block b hlt); have u0 := hO5.cellAt (j * 3) (by omega); have u1 := hO5.cellAt (j * 3 + 1) (by omega); have u2 := hO5.cellAt (j * 3 + 2) (by omega); rw [HCE.out.1] at u0; rw [HCE.out.2.1] at u1; rw [HCE.out.2.2] at u2; have k0 := hO5.frozenAt (j * 3); have k1 := hO5.frozenAt (j * 3 + 1); have k2 := hO5.frozenAt (j * 3 + 2); have lg5 := (own_block hO5 (g := gg) (by simp [Value.ownBlock])).2.1; clear hO5)
          all_goals
            have HST := Lib.hid (HGN.out.grow HSS.out hkk0 HKT.out ((Below.refl _ _).drew.trans hb5) hl5 hp5)
            go_wp2
            exact ⟨⟨j + 1, _, done ++ [t5], by omega, by go_num, rfl, HGR.out.1, by have := HGR.out.2; omega, HST⟩, by simp [intOf]; omega⟩
        · have hkb : ¬ (0 ≤ kk) := h0
          have HGN2 := Lib.hid (HGN.out.skip (by omega) HKT.out HLK.out)
          clear hkt hmem h0
          go_wp2
          exact ⟨⟨j + 1, kk, done ++ [kt], by omega, by go_num, rfl, hkk1, hkk2, HGN2⟩, by simp [intOf]; omega⟩
      · have e1 : ¬ (j : Int) < ks.length := by omega
        obtain rfl : j = ks.length := by omega
        have r1 := (HGN.out.b.block _ (heap_lt HQ1.out)).trans HQ1.out
        have r2 := (HGN.out.b.block _ (heap_lt HQ2.out)).trans HQ2.out
        obtain ⟨t0, x0⟩ := blk_cell (i := 0) r1 rfl
        obtain ⟨t1, x1⟩ := blk_cell (i := 1) r1 rfl
        obtain ⟨t2, x2⟩ := blk_cell (i := 2) r1 rfl
        obtain ⟨z0, v0⟩ := blk_cell (i := 0) r2 rfl
        obtain ⟨z1, v1⟩ := blk_cell (i := 1) r2 rfl
        obtain ⟨z2, v2⟩ := blk_cell (i := 2) r2 rfl
        have lT := heap_lt r1
        have lR := heap_lt r2
        have HR2 := Lib.hid r2
        clear r1 r2
        go_wp2
        have hdl := HGN.out.len
        have hdrop : done ++ ks.drop ks.length = done := by rw [List.drop_length, List.append_nil]
        have hfar : ∀ b, b ≠ w.heap.size + 1 → (wr.setCell ⟨w.heap.size + 1, 2, none⟩ (.slice va ks.length vc)).heap[b]? = wr.heap[b]? := fun b hb => Below.heap_setCell _ _ _ _ hb
        have hoF := own_same HGN.out.own (w' := wr.setCell ⟨w.heap.size + 1, 2, none⟩ (.slice va ks.length vc)) fun b hb _ => hfar b (by have := (own_block HGN.out.own hb).1; have := HSS.out; omega)
        rw [hdrop] at hoF
        have heq := HGN.out.eq
        rw [List.drop_length] at heq
        (with_reducible refine gr_end (z := kk) (s := s) (p := q) (ks := done) ((HB.out.trans (HGN.out.b.mono HB.out.size)).setCell (p := ⟨w.heap.size + 1, 2, none⟩) (Nat.le_succ _) _) ((hfar _ (by omega)).trans HR2.out) (.mk (own_cells hoF).1 (by rw [hdl]; exact (own_cells hoF).2) ?_ ?_) ?_ ?_ _ ?_ _ ?_ ?_ ?_)
        · intro hne x hx
          have := (own_block HGN.out.own (g := x.block) (by subst hx; rfl)).1
          exact .inr (by have := HSS.out; omega)
        · intro t ht
          exact (HGN.out.lies t ht).keep (by simp) (fun b hb _ => hfar b (by rcases hb with h | h <;> omega)) (fun b hb _ => by rcases hb with h | h; exact .inl h; exact .inr h.1)
        · rw [HGT.out, Tl.plain_mk, heq]
          simp [growK]
        · rw [HGT.out, heq]; rfl
        · exact hdl
        · rfl
        · rfl
        · rfl

end Go.Proofs.Ytjlohjkhnjemaaa
