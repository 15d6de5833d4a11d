/- Trees: a spoilt one: exegeteplay.Spoilt: over any world. -/
import Derived.Test.YtjlohjkhnjemaaaTreeQ
set_option linter.unusedVariables false
namespace Go.Proofs.Ytjlohjkhnjemaaa
open Go.RowKit
open Doc

theorem tls_one : ∀ {l : List Tl} (u : Value), u ∈ tls l → u.oneCell' = true := by
  intro l u hu
  unfold tls at hu
  obtain ⟨t, _, ht⟩ := List.mem_flatMap.1 hu
  unfold tl3 at ht
  simp at ht
  rcases ht with rfl | rfl | rfl <;> rfl
theorem news_tls {W : World} {a : Option Addr} {l : List Tl} (h : Cells W a (tls l)) (hl : l ≠ []) : ∃ g o, a = some ⟨g, o, none⟩ ∧ ∀ j u, (tls l)[j]? = some u → W.cell? ((⟨g, o, none⟩ : Addr).add j) = some u := by
  obtain ⟨g, o, rfl, _, hc⟩ := h.get (tls_ne (List.length_pos_iff.2 hl))
  refine ⟨g, o, rfl, fun j u hu => ?_⟩
  have e : (⟨g, o, none⟩ : Addr).add j = ⟨g, o + j, none⟩ := by unfold Addr.add; split <;> simp_all
  rw [e]; exact hc j u hu

theorem wpList_appT {w : World} {ops : Array Oper} {rest : List Oper} {o : Oper} {a : Act} {Q : Exit → Act → World → Prop} (hgd : o.guard = none) (s x : Operand)
    (ho : o.op = .call { callee := .builtin .append, args := #[s, x], argTypes := #[77, 77] })
    (base : Nat) (va : Option Addr) (n vc : Nat) (ks : List Tl) (hs : a.eval s = .slice va n vc) (hown : w.ownsRow base 79 3 (.slice va n vc) n (tls ks)) (hb : base ≤ w.heap.size)
    (xa : Option Addr) (l : List Tl) (xc : Nat) (hx : a.eval x = .slice xa l.length xc) (hc : Cells w xa (tls l)) (hn : n + l.length ≤ 1000000000)
    (h : ∀ va' vc' w', w'.ownsRow base 79 3 (.slice va' (n + l.length) vc') (n + l.length) (tls (ks ++ l)) → w.grownBy w' (Value.slice va n vc).ownBlock → wpList Try.prog ops Q rest (a.put o.dst (.slice va' (n + l.length) vc')) w') : wpList Try.prog ops Q (o :: rest) a w := by
  obtain ⟨i0, hi0, hz0, hz1, hz2⟩ := info_of infoTq
  by_cases hl : l = []
  · subst hl
    have hnc := (own_cells hown).2
    refine wpList_nothing hgd s x 77 ho 79 i0 Try.underlying77 hi0 va n vc hs hnc xa xc hx ?_
    have := h va vc w (by simpa using hown) ⟨rfl, rfl, rfl, Nat.le_refl _, fun _ _ _ => rfl⟩
    simpa using this
  · obtain ⟨g, off, rfl, hn5⟩ := news_tls hc hl
    have hm1 : 0 < l.length := List.length_pos_iff.2 hl
    refine wpList_append_lies _ hgd s x 77 ho base 79 i0 (.agg #[.int .i64 0, .int .i64 0, .slice none 0 0]) 3 40 Try.underlying77 hi0 hz0 hz1 hz2 rfl (by decide) _ n (tls ks) hs hown ⟨g, off, none⟩ l.length xc (tls l) hx (tls_len l) hn5 (fun u hu => tls_one u hu) hm1 (by unfold maxLen; omega) (by omega) hb _ rfl ?_
    intro g4 cap4 w4 hown4 hgrow4 _ _
    exact h _ _ _ (by rw [tls_app]; exact hown4) hgrow4

theorem wrap_tdiv3 (z : Int) (h1 : -9223372036854775808 ≤ z) (h2 : z ≤ 9223372036854775807) : IntKind.i64.wrap (z.tdiv 3) = z.tdiv 3 ∧ -9223372036854775808 ≤ z.tdiv 3 ∧ z.tdiv 3 ≤ 9223372036854775807 := by
  have h : -9223372036854775808 ≤ z.tdiv 3 ∧ z.tdiv 3 ≤ 9223372036854775807 := by
    rcases Int.le_total 0 z with hz | hz
    · rw [Int.tdiv_eq_ediv_of_nonneg hz]; omega
    · have e : z.tdiv 3 = -((-z).tdiv 3) := by rw [Int.neg_tdiv]; omega
      rw [e, Int.tdiv_eq_ediv_of_nonneg (by omega)]; omega
  exact ⟨IntWalk.i64_in _ (by omega), h⟩
theorem wrap_tdiv9 (z : Int) (h1 : -9223372036854775808 ≤ z) (h2 : z ≤ 9223372036854775807) : IntKind.i64.wrap (z.tdiv 9) = z.tdiv 9 ∧ -9223372036854775808 ≤ z.tdiv 9 ∧ z.tdiv 9 ≤ 9223372036854775807 := by
  have h : -9223372036854775808 ≤ z.tdiv 9 ∧ z.tdiv 9 ≤ 9223372036854775807 := by
    rcases Int.le_total 0 z with hz | hz
    · rw [Int.tdiv_eq_ediv_of_nonneg hz]; omega
    · have e : z.tdiv 9 = -((-z).tdiv 9) := by rw [Int.neg_tdiv]; omega
      rw [e, Int.tdiv_eq_ediv_of_nonneg (by omega)]; omega
  exact ⟨IntWalk.i64_in _ (by omega), h⟩
theorem wrap_tdiv4 (z : Int) (h1 : -9223372036854775808 ≤ z) (h2 : z ≤ 9223372036854775807) : IntKind.i64.wrap (z.tdiv 4) = z.tdiv 4 ∧ -9223372036854775808 ≤ z.tdiv 4 ∧ z.tdiv 4 ≤ 9223372036854775807 := by
  have h : -9223372036854775808 ≤ z.tdiv 4 ∧ z.tdiv 4 ≤ 9223372036854775807 := by
    rcases Int.le_total 0 z with hz | hz
    · rw [Int.tdiv_eq_ediv_of_nonneg hz]; omega
    · have e : z.tdiv 4 = -((-z).tdiv 4) := by rw [Int.neg_tdiv]; omega
      rw [e, Int.tdiv_eq_ediv_of_nonneg (by omega)]; omega
  exact ⟨IntWalk.i64_in _ (by omega), h⟩

theorem sizeK_set : ∀ (l : List Tr) (k : Nat) (t u : Tr), l[k]? = some t → sizeK (l.set k u) + sizeT t = sizeK l + sizeT u
  | [], k, t, u, h => by simp at h
  | x :: l, 0, t, u, h => by
    simp at h
    subst h
    simp only [List.set_cons_zero, sizeK]; omega
  | x :: l, k + 1, t, u, h => by
    have := sizeK_set l k t u (by simpa using h)
    simp only [List.set_cons_succ, sizeK]; omega
theorem tls_set : ∀ (l : List Tl) (k : Nat) (t : Tl), k < l.length → (((tls l).set (k * 3) (.int .i64 t.sym)).set (k * 3 + 1) (.int .i64 t.prod)).set (k * 3 + 2) (.slice t.a t.kids.length t.c) = tls (l.set k t)
  | [], k, t, h => by simp at h
  | x :: l, 0, t, h => rfl
  | x :: l, k + 1, t, h => by
    have ih := tls_set l k t (by simpa using h)
    have e : tls (x :: l) = .int .i64 x.sym :: .int .i64 x.prod :: .slice x.a x.kids.length x.c :: tls l := rfl
    have e2 : tls ((x :: l).set (k + 1) t) = .int .i64 x.sym :: .int .i64 x.prod :: .slice x.a x.kids.length x.c :: tls (l.set k t) := rfl
    rw [e, e2, ← ih, show (k + 1) * 3 = k * 3 + 1 + 1 + 1 by omega]
    rfl
theorem tls_tail {w : World} {b off : Nat} {k : Tl} {l : List Tl} (h : Cells w (some ⟨b, off, none⟩) (tls (k :: l))) : Cells w (some ⟨b, off + 3, none⟩) (tls l) := by
  rcases h with h | ⟨b', off', e, hb, hc⟩
  · cases h
  · cases e
    refine .inr ⟨b, off + 3, rfl, hb, fun j u hj => ?_⟩
    have := hc (j + 3) u (by
      have e : tls (k :: l) = .int .i64 k.sym :: .int .i64 k.prod :: .slice k.a k.kids.length k.c :: tls l := rfl
      rw [e]; simpa using hj)
    rwa [show off + 3 + j = off + (j + 3) by omega]

/-- How Spoilt ends: some tree, no greater than by one. -/
def SpEnd (P : Nat → Prop) (n : Nat) (w : World) (e : Ending) (w' : World) : Prop :=
  Below w.heap.size w w' ∧ ∃ tl : Tl, e = .returned (.agg #[.int .i64 tl.sym, .int .i64 tl.prod, .slice tl.a tl.kids.length tl.c]) ∧ Lies (fun b => P b ∨ w.heap.size ≤ b) w' tl ∧ mildT tl.plain ∧ sizeT tl.plain ≤ n + 1

set_option maxRecDepth 100000 in
theorem sp_end {P : Nat → Prop} {n : Nat} {w F : World} {tl : Tl} {u0 u1 u2 : Value} (hb : Below w.heap.size w F) (hz : F.heap[w.heap.size + 1]? = some (.cells #[u0, u1, u2] 79)) (hl : Lies (fun b => (P b ∧ b < w.heap.size) ∨ w.heap.size + 1 < b) F tl) (hm : mildT tl.plain) (hs : sizeT tl.plain ≤ n + 1) (a : Act) (ha : a.tmps.getD 6 undef = .pointer (some ⟨w.heap.size + 1, 0, none⟩)) (hd : a.defers = []) :
    bodyPost Try.prog Try.f105 (SpEnd P n w) .ret a (((F.setCell ⟨w.heap.size + 1, 0, none⟩ (.int .i64 tl.sym)).setCell ⟨w.heap.size + 1, 1, none⟩ (.int .i64 tl.prod)).setCell ⟨w.heap.size + 1, 2, none⟩ (.slice tl.a tl.kids.length tl.c)) := by
  refine bodyPost_ret (v := .agg #[.int .i64 tl.sym, .int .i64 tl.prod, .slice tl.a tl.kids.length tl.c]) ?_ hd ⟨store3_below hb (Nat.le_succ _) _ _ _, tl, rfl, ?_, hm, hs⟩
  · rw [results_cell1 (p := 6) (ty := 79) rfl, ha]
    show ((asAddr (.pointer (some ⟨w.heap.size + 1, 0, none⟩))).run _ _).andThen _ = _
    exact run_loadVar_row _ (w.heap.size + 1) 79 79 _ (0, 0) _ (store3 hz _ _ _) Try.underlying79 rfl (by kernel_rfl)
  · exact hl.keep (by simp [World.setCell]) (fun b hb _ => store3_far _ _ _ b (by omega)) (fun b hb _ => by rcases hb with h | h; exact .inl h.1; exact .inr (by omega))

theorem sp_arm {P : Nat → Prop} {n : Nat} {w S F : World} {s p : Int} {ar : Option Addr} {c : Nat} {ks : List Tl} (hB : Below w.heap.size w S) (hq : S.heap[w.heap.size + 1]? = some (.cells #[.int .i64 0, .int .i64 0, .slice none 0 0] 79)) (hF : F = S ∨ ∃ i v, F = S.setCell ⟨w.heap.size, i, none⟩ v) (hl : Lies (fun b => P b ∧ b < w.heap.size) S (Tl.mk s p ar c ks)) (hm : mildT (Tl.mk s p ar c ks).plain) (hs : sizeT (Tl.mk s p ar c ks).plain ≤ n + 1) (m : Nat) (hk : ks.length = m) (a : Act) (ha : a.tmps.getD 6 undef = .pointer (some ⟨w.heap.size + 1, 0, none⟩)) (hd : a.defers = []) :
    bodyPost Try.prog Try.f105 (SpEnd P n w) .ret a (((F.setCell ⟨w.heap.size + 1, 0, none⟩ (.int .i64 s)).setCell ⟨w.heap.size + 1, 1, none⟩ (.int .i64 p)).setCell ⟨w.heap.size + 1, 2, none⟩ (.slice ar m c)) := by
  subst hk
  rcases hF with rfl | ⟨i, v, rfl⟩
  · exact sp_end (tl := Tl.mk s p ar c ks) hB hq (hl.weak fun b hb _ => .inl hb) hm hs a ha hd
  · exact sp_end (tl := Tl.mk s p ar c ks) (hB.setCell (p := ⟨w.heap.size, i, none⟩) (Nat.le_refl _) v) ((Below.heap_setCell _ _ _ _ (show w.heap.size + 1 ≠ w.heap.size by omega)).trans hq) (hl.keep (by simp) (fun b hb _ => Below.heap_setCell _ _ _ _ (show b ≠ w.heap.size by omega)) (fun b hb _ => .inl hb)) hm hs a ha hd
theorem Lies.root {P : Nat → Prop} {w : World} {s p s' p' : Int} {a : Option Addr} {c : Nat} {ks : List Tl} (h : Lies P w (.mk s p a c ks)) : Lies P w (.mk s' p' a c ks) := by
  cases h with
  | mk h1 h2 h3 h4 => exact .mk h1 h2 h3 h4
theorem Lies.tail {P : Nat → Prop} {w : World} {s p s' p' : Int} {b off c : Nat} {k : Tl} {ks : List Tl} (h : Lies P w (.mk s p (some ⟨b, off, none⟩) c (k :: ks))) : Lies P w (.mk s' p' (some ⟨b, off + 3, none⟩) (c - 1) ks) := by
  cases h with
  | mk h1 h2 h3 h4 => exact .mk (tls_tail h1) (by simp at h2; omega) (fun _ x hx => by cases hx; exact h3 (by simp) ⟨b, off, none⟩ rfl) (fun t ht => h4 t (List.mem_cons_of_mem _ ht))
theorem mild_mk {s p : Int} {a : Option Addr} {c : Nat} {ks : List Tl} (hs : -2000 ≤ s ∧ s ≤ 2000) (hp : -2000 ≤ p ∧ p ≤ 2000) (hk : mildK (ks.map Tl.plain)) : mildT (Tl.mk s p a c ks).plain := by
  rw [Tl.plain_mk, mildT]
  unfold mildI
  exact ⟨by omega, by omega, hk⟩
theorem size_mk {s p : Int} {a : Option Addr} {c : Nat} {ks : List Tl} : sizeT (Tl.mk s p a c ks).plain = 1 + sizeK (ks.map Tl.plain) := by rw [Tl.plain_mk, sizeT]

def leafTl (x : Int) : Tl := .mk x (-1) none 0 []
theorem own_one (w : World) (base : Nat) (u0 u1 u2 : Value) (hb : base ≤ w.heap.size) : (w.alloc (.cells #[u0, u1, u2] 79)).ownsRow base 79 3 (.slice (some ⟨w.heap.size, 0, none⟩) 1 1) 1 [u0, u1, u2] :=
  ⟨rfl, .inr ⟨w.heap.size, 1, #[u0, u1, u2], rfl, hb, heap_alloc_new w _, Nat.le_refl _, by decide, rfl, rfl⟩⟩
set_option maxRecDepth 100000 in
theorem sp_app {P : Nat → Prop} {n : Nat} {w S w5 : World} {s p : Int} {a : Option Addr} {c : Nat} {ks : List Tl} {va : Option Addr} {vc : Nat} (hB : Below w.heap.size w S) (hS : S.heap.size = w.heap.size + 2) (hq : S.heap[w.heap.size + 1]? = some (.cells #[.int .i64 0, .int .i64 0, .slice none 0 0] 79)) (hl : Lies (fun b => P b ∧ b < w.heap.size) S (.mk s p a c ks)) (hb5 : Below S.heap.size S w5) (ho : w5.ownsRow S.heap.size 79 3 (.slice va (1 + ks.length) vc) (1 + ks.length) (tls ([leafTl 1] ++ ks))) (hs : -2000 ≤ s ∧ s ≤ 2000) (hp : -2000 ≤ p ∧ p ≤ 2000) (hk : mildK (ks.map Tl.plain)) (hz : 1 + sizeK (ks.map Tl.plain) ≤ n) (m : Nat) (hm : 1 + ks.length = m) (a : Act) (ha : a.tmps.getD 6 undef = .pointer (some ⟨w.heap.size + 1, 0, none⟩)) (hd : a.defers = []) :
    bodyPost Try.prog Try.f105 (SpEnd P n w) .ret a ((((w5.setCell ⟨w.heap.size, 2, none⟩ (.slice va m vc)).setCell ⟨w.heap.size + 1, 0, none⟩ (.int .i64 s)).setCell ⟨w.heap.size + 1, 1, none⟩ (.int .i64 p)).setCell ⟨w.heap.size + 1, 2, none⟩ (.slice va m vc)) := by
  subst hm
  have hn : 1 + ks.length = (leafTl 1 :: ks).length := by simp; omega
  have hbF : ∀ b, b ≠ w.heap.size → (w5.setCell ⟨w.heap.size, 2, none⟩ (.slice va (1 + ks.length) vc)).heap[b]? = w5.heap[b]? := fun b hb => Below.heap_setCell _ _ _ _ hb
  have hown := own_cells (own_same ho (w' := w5.setCell ⟨w.heap.size, 2, none⟩ (.slice va (1 + ks.length) vc)) fun g hg _ => hbF g (by have := (own_block ho hg).1; omega))
  have hL : Lies (fun b => (P b ∧ b < w.heap.size) ∨ w.heap.size + 1 < b) (w5.setCell ⟨w.heap.size, 2, none⟩ (.slice va (1 + ks.length) vc)) (Tl.mk s p va vc (leafTl 1 :: ks)) := by
    refine .mk hown.1 (by rw [← hn]; exact hown.2) (fun _ x hx => .inr ?_) ?_
    · have h2 := ho
      subst hx
      have := (own_block h2 (g := x.block) (by simp [Value.ownBlock])).1
      omega
    · intro t ht
      rcases List.mem_cons.1 ht with rfl | ht
      · exact Lies.leaf _ _ _ _ _ _
      · exact ((hl.kid t ht).under hb5).keep (by simp) (fun b hb _ => hbF b (by omega)) (fun b hb _ => .inl hb)
  have := sp_end (n := n) (tl := Tl.mk s p va vc (leafTl 1 :: ks)) ((hB.trans (hb5.mono (by omega))).setCell (p := ⟨w.heap.size, 2, none⟩) (Nat.le_refl _) (.slice va (1 + ks.length) vc)) ((hbF _ (by omega)).trans ((hb5.block _ (by omega)).trans hq)) hL (mild_mk hs hp (mildK_mk fun k hk2 => by
    obtain ⟨t, ht, rfl⟩ := List.mem_map.1 hk2
    rcases List.mem_cons.1 ht with rfl | ht
    · unfold leafTl; exact mild_mk (by omega) (by omega) (mildK_mk fun _ h => by cases h)
    · exact mildK_mem hk _ (List.mem_map_of_mem ht))) (by rw [size_mk, List.map_cons, sizeK]; unfold leafTl; rw [size_mk]; simp only [List.map_nil, sizeK]; omega) a ha hd
  simpa only [Tl.sym, Tl.prod, Tl.a, Tl.c, Tl.kids, ← hn] using this

end Go.Proofs.Ytjlohjkhnjemaaa
