/- The document's spans of a form: whether a symbol can derive a part. The document's spans of a form: walked. -/
import Derived.Test.YtgfkkbpnphbdgaaMapK
import Derived.Test.YtgfkkbpnphbdgaaSpanS
import Derived.Test.YtgfkkbpnphbdgaaForm
import Derived.Deep.Cut
import Derived.Deep.QuietTactic
import Derived.BigQuiet
set_option linter.unusedVariables false
namespace Go.Proofs.Ytgfkkbpnphbdgaa
open Go.RowKit
open Doc

structure SpanAt (W : World) (BS BH : Nat) (wa : Option Addr) (wc : Nat) (u : List Int) (H : Sp.Key → Prop) : Prop where
  q : ∃ c0 c1 c2, W.heap[BS]? = some (.cells #[c0, c1, c2, .slice wa u.length wc, .map (some BH)] 115)
  m : SetM W Try.prog 97 code3 BH H
  row : Cells W wa (nums u)
theorem SpanAt.below {W W' : World} {BS BH : Nat} {wa : Option Addr} {wc : Nat} {u : List Int} {H : Sp.Key → Prop} (h : SpanAt W BS BH wa wc u H) (hb : Below W.heap.size W W') : SpanAt W' BS BH wa wc u H := by
  obtain ⟨⟨c0, c1, c2, hq⟩, hm, hr⟩ := h
  exact ⟨⟨c0, c1, c2, (hb.block BS (heap_lt hq)).trans hq⟩, hm.below hb hm.lt, hr.below hb⟩

theorem SpanAt.left {W : World} {BS BH : Nat} {wa : Option Addr} {wc : Nat} {u : List Int} {H : Sp.Key → Prop} (h : SpanAt W BS BH wa wc u H) (U : List Sp.Key) : Sp.left U (HasW code3 BH W) = Sp.left U H := by
  rw [show HasW code3 BH W = H from funext fun q => propext (h.m.hasW code3_inj q)]
/-- What a round of the spans has done. -/
structure RoundIs (U : List Sp.Key) (H H1 : Sp.Key → Prop) (c : Bool) : Prop where
  more : ∀ q, H q → H1 q
  some_ : c = true → ∃ q ∈ U, ¬ H q ∧ H1 q
  none_ : c = false → H1 = H
theorem RoundIs.add {U : List Sp.Key} {H H1 : Sp.Key → Prop} {c : Bool} (h : RoundIs U H H1 c) {q : Sp.Key} (hq : q ∈ U) (hn : ¬ H1 q) : RoundIs U H (fun q' => q' = q ∨ H1 q') true where
  more := fun q' hq' => .inr (h.more q' hq')
  some_ := fun _ => ⟨q, hq, fun hh => hn (h.more q hh), .inl rfl⟩
  none_ := fun h => by cases h
theorem SpanAt.grown {W W' : World} {BS BH : Nat} {o : Option Nat} {wa : Option Addr} {wc : Nat} {u : List Int} {H : Sp.Key → Prop} (h : SpanAt W BS BH wa wc u H) (hb : W.grownBy W' o) (h1 : some BS ≠ o) (h2 : some BH ≠ o) (h3 : ∀ b off, wa = some ⟨b, off, none⟩ → nums u ≠ [] → some b ≠ o) : SpanAt W' BS BH wa wc u H := by
  obtain ⟨⟨c0, c1, c2, hq⟩, hm, hr⟩ := h
  refine ⟨⟨c0, c1, c2, (hb.block BS (heap_lt hq) h1).trans hq⟩, hm.kept hb h2, ?_⟩
  by_cases hne : nums u = []
  · exact .inl hne
  · obtain ⟨b, off, e, hl, hc⟩ := hr.get hne
    exact .inr ⟨b, off, e, Nat.lt_of_lt_of_le hl hb.size, fun j v hj => (World.cell?_of_block (hb.block b hl (h3 b off e hne))).trans (hc j v hj)⟩

set_option maxHeartbeats 1000000 in
theorem can_any (BS BH : Nat) (wa : Option Addr) (wc : Nat) (u : List Int) (H : Sp.Key → Prop) (x : Int) (i j : Nat) (w : World) (h : SpanAt w BS BH wa wc u H) (hx1 : -9223372036854775808 ≤ x) (hx2 : x ≤ 9223372036854775807) (hij : i ≤ j) (hj : j ≤ u.length) (hu : u.length ≤ 1000000) :
    Calls Try.prog 58 #[.pointer (some ⟨BS, 0, none⟩), .int .i64 x, .int .i64 i, .int .i64 j] w fun e w' => (∃ b : Bool, e = .returned (.bool b) ∧ (b = true ↔ Sp.canP u H x i j)) ∧ w' = w := by
  obtain ⟨⟨c0, c1, c2, hq⟩, hm, hrow⟩ := h
  obtain ⟨l, hl⟩ := code3_key (x := x) (i := i) (j := j) hx1 hx2 (by omega) (by omega)
  obtain ⟨v, hv, hrun⟩ := SetM.look hm key_three code3_inj Try.underlying113 (zeroBool w) hl
  have z3 := (blk_cell (i := 3) (u := .slice wa u.length wc) hq rfl).1
  have z4 := (blk_cell (i := 4) (u := .map (some BH)) hq rfl).1
  have hlt := heap_lt hq
  unfold code3 at hrun
  simp only at hrun
  have HV := Lib.hid hv
  clear hl hm hq hv
  by_cases hji : j = i + 1
  · have e1 : ((j : Int) == (i : Int) + 1) = true := by simp; omega
    obtain ⟨s, hs⟩ : ∃ s, u[i]? = some s := ⟨_, List.getElem?_eq_getElem (by omega)⟩
    obtain ⟨b, o, rfl, hb, hc⟩ := hrow.get (by unfold nums; intro e; rw [List.map_eq_nil_iff] at e; rw [e] at hs; simp at hs)
    have u0 := hc i _ (nums_at hs)
    have e2 : (i : Int) < u.length := by omega
    have HS := Lib.hid hs
    have HJ := Lib.hid hji
    clear hs hc hji hrow
    by_cases hx : s = x
    · have e3 : (s == x) = true := by simpa using hx
      have HX := Lib.hid hx
      clear hx
      go_enter Try.func58, Try.ntmps58
      go_wp2
      go_ret
      exact ⟨⟨true, rfl, by simp only [true_iff]; exact .inl ⟨HJ.out, by rw [HS.out, HX.out]⟩⟩, rfl⟩
    · have e3 : (s == x) = false := by simpa using hx
      have HX := Lib.hid hx
      clear hx
      go_enter Try.func58, Try.ntmps58
      go_wp2
      go_ret
      refine ⟨⟨v, rfl, HV.out.trans ⟨.inr, fun h => ?_⟩⟩, rfl⟩
      rcases h with ⟨_, h⟩ | h
      · rw [HS.out] at h; exact absurd (Option.some.inj h) HX.out
      · exact h
  · have e1 : ((j : Int) == (i : Int) + 1) = false := by simp; omega
    have HJ := Lib.hid hji
    clear hji hrow
    go_enter Try.func58, Try.ntmps58
    go_wp2
    go_ret
    refine ⟨⟨v, rfl, HV.out.trans ⟨.inr, fun h => ?_⟩⟩, rfl⟩
    rcases h with ⟨h, _⟩ | h
    · exact absurd h HJ.out
    · exact h
end Go.Proofs.Ytgfkkbpnphbdgaa

set_option linter.unusedVariables false
namespace Go.Proofs.Ytgfkkbpnphbdgaa
open Go.RowKit
open Doc

theorem boxS (w : World) (o : Obj) : Below w.heap.size w (w.alloc o) := (Below.refl _ _).alloc (Nat.le_refl _) _
theorem gb_self (w : World) (o : Option Nat) : w.grownBy w o := ⟨rfl, rfl, rfl, Nat.le_refl _, fun _ _ _ => rfl⟩
theorem gb_then {a b c : World} {o o' : Option Nat} (h : a.grownBy b o) (k : b.grownBy c o') (hn : ∀ x, o' = some x → o = some x ∨ a.heap.size ≤ x) : a.grownBy c o :=
  ⟨k.os.trans h.os, k.tape.trans h.tape, k.output.trans h.output, Nat.le_trans h.size k.size, fun i hi hne => (k.block i (Nat.lt_of_lt_of_le hi h.size) (fun e => by
    rcases hn i e.symm with h1 | h1
    · exact hne h1.symm
    · omega)).trans (h.block i hi hne)⟩
theorem gb_alloc (w : World) (o : Obj) (r : Option Nat) : w.grownBy (w.alloc o) r := World.grownBy_alloc w o r
theorem gb_below' {a b : World} {o : Option Nat} {B : Nat} (h : a.grownBy b o) (hB : B ≤ a.heap.size) (ho : ∀ x, o = some x → B ≤ x) : Below B a b := (Below.refl _ _).grown h hB ho
theorem span_start (S1 : World) (g1 g2 g3 : Value) (wa : Option Addr) (wc : Nat) (u : List Int) (hu : Cells S1 wa (nums u)) :
    SpanAt ((S1.alloc (.map #[] 0)).alloc (.cells #[g1, g2, g3, .slice wa u.length wc, .map (some S1.heap.size)] 115)) (S1.heap.size + 1) S1.heap.size wa wc u (fun _ => False) ∧
    S1.grownBy ((S1.alloc (.map #[] 0)).alloc (.cells #[g1, g2, g3, .slice wa u.length wc, .map (some S1.heap.size)] 115)) none ∧
    ((S1.alloc (.map #[] 0)).alloc (.cells #[g1, g2, g3, .slice wa u.length wc, .map (some S1.heap.size)] 115)).heap.size = S1.heap.size + 2 ∧
    ((S1.alloc (.map #[] 0)).alloc (.cells #[g1, g2, g3, .slice wa u.length wc, .map (some S1.heap.size)] 115)).heap[S1.heap.size + 1]? = some (.cells #[g1, g2, g3, .slice wa u.length wc, .map (some S1.heap.size)] 115) := by
  have hb0 := gb_then (gb_alloc S1 (.map #[] 0) none) (gb_alloc (S1.alloc (.map #[] 0)) (.cells #[g1, g2, g3, .slice wa u.length wc, .map (some S1.heap.size)] 115) none) (fun x h => by cases h)
  have hnew : ((S1.alloc (.map #[] 0)).alloc (.cells #[g1, g2, g3, .slice wa u.length wc, .map (some S1.heap.size)] 115)).heap[S1.heap.size + 1]? = some (.cells #[g1, g2, g3, .slice wa u.length wc, .map (some S1.heap.size)] 115) := by
    have := heap_alloc_new (S1.alloc (.map #[] 0)) (.cells #[g1, g2, g3, .slice wa u.length wc, .map (some S1.heap.size)] 115)
    rwa [show (S1.alloc (.map #[] 0)).heap.size = S1.heap.size + 1 by simp] at this
  refine ⟨⟨⟨g1, g2, g3, ?_⟩, ?_, hu.below (gb_below' hb0 (Nat.le_refl _) (fun x h => by cases h))⟩, hb0, by simp, hnew⟩
  · have := heap_alloc_new (S1.alloc (.map #[] 0)) (.cells #[g1, g2, g3, .slice wa u.length wc, .map (some S1.heap.size)] 115)
    rwa [show (S1.alloc (.map #[] 0)).heap.size = S1.heap.size + 1 by simp] at this
  · exact (SetM.made S1 Try.prog 97 code3).below (boxS _ _) (by simp)
/-- What is had of the next places behind a symbol. -/
def NextB (C : Int → Nat → Nat → Prop) (n i : Nat) (E : Nat → Prop) (x : Int) (j : Nat) : Nat → Prop := fun k => ∃ j', i ≤ j' ∧ j' < j ∧ E j' ∧ j' ≤ k ∧ k ≤ n ∧ C x j' k
theorem next_none (C : Int → Nat → Nat → Prop) (n i : Nat) (E : Nat → Prop) (x : Int) (k : Nat) : False ↔ NextB C n i E x i k := by
  constructor
  · exact fun h => h.elim
  · rintro ⟨j', h1, h2, _⟩; omega
theorem next_all {C : Int → Nat → Nat → Prop} {n i : Nat} {E : Nat → Prop} (hE : ∀ j, E j → i ≤ j ∧ j ≤ n) (x : Int) (k : Nat) : NextB C n i E x (n + 1) k ↔ Sp.stepE C n E x k := by
  constructor
  · rintro ⟨j', h1, h2, h3, h4, h5, h6⟩; exact ⟨h5, j', h4, h3, h6⟩
  · rintro ⟨h5, j', h4, h3, h6⟩
    have := hE j' h3
    exact ⟨j', this.1, by omega, h3, h4, h5, h6⟩
/-- .. and by the first of them from one place. -/
def NextC (C : Int → Nat → Nat → Prop) (n i : Nat) (E : Nat → Prop) (x : Int) (j k : Nat) : Nat → Prop := fun q => NextB C n i E x j q ∨ (E j ∧ j ≤ q ∧ q < k ∧ C x j q)
theorem nextC_start (C : Int → Nat → Nat → Prop) (n i : Nat) (E : Nat → Prop) (x : Int) (j q : Nat) : NextB C n i E x j q ↔ NextC C n i E x j j q := by
  unfold NextC
  constructor
  · exact .inl
  · rintro (h | ⟨_, h1, h2, _⟩)
    · exact h
    · omega
theorem nextC_put {C : Int → Nat → Nat → Prop} {n i : Nat} {E : Nat → Prop} {x : Int} {j k : Nat} (hE : E j) (hjk : j ≤ k) (hc : C x j k) (q : Nat) : (q = k ∨ NextC C n i E x j k q) ↔ NextC C n i E x j (k + 1) q := by
  unfold NextC
  constructor
  · rintro (rfl | h | ⟨h1, h2, h3, h4⟩)
    · exact .inr ⟨hE, hjk, by omega, hc⟩
    · exact .inl h
    · exact .inr ⟨h1, h2, by omega, h4⟩
  · rintro (h | ⟨h1, h2, h3, h4⟩)
    · exact .inr (.inl h)
    · by_cases hq : q = k
      · exact .inl hq
      · exact .inr (.inr ⟨h1, h2, by omega, h4⟩)
theorem nextC_skip {C : Int → Nat → Nat → Prop} {n i : Nat} {E : Nat → Prop} {x : Int} {j k : Nat} (hc : ¬ C x j k) (q : Nat) : NextC C n i E x j k q ↔ NextC C n i E x j (k + 1) q := by
  unfold NextC
  constructor
  · rintro (h | ⟨h1, h2, h3, h4⟩)
    · exact .inl h
    · exact .inr ⟨h1, h2, by omega, h4⟩
  · rintro (h | ⟨h1, h2, h3, h4⟩)
    · exact .inl h
    · by_cases hq : q = k
      · subst hq; exact absurd h4 hc
      · exact .inr ⟨h1, h2, by omega, h4⟩
theorem nextC_end {C : Int → Nat → Nat → Prop} {n i : Nat} {E : Nat → Prop} {x : Int} {j k : Nat} (hi : i ≤ j) (hk : ¬ E j ∨ k = n + 1) (q : Nat) : NextC C n i E x j k q ↔ NextB C n i E x (j + 1) q := by
  unfold NextC
  constructor
  · rintro (⟨j', h1, h2, h3, h4, h5, h6⟩ | ⟨h1, h2, h3, h4⟩)
    · exact ⟨j', h1, by omega, h3, h4, h5, h6⟩
    · rcases hk with hk | rfl
      · exact absurd h1 hk
      · exact ⟨j, hi, by omega, h1, h2, by omega, h4⟩
  · rintro ⟨j', h1, h2, h3, h4, h5, h6⟩
    by_cases hj : j' = j
    · subst hj
      rcases hk with hk | rfl
      · exact absurd h3 hk
      · exact .inr ⟨h3, h4, by omega, h6⟩
    · exact .inl ⟨j', h1, by omega, h3, h4, h5, h6⟩

def SpanEnd (B : Nat) (ps : List (Int × List Int)) (wa : Option Addr) (wc : Nat) (u : List Int) (e : Ending) (w' : World) : Prop :=
  ∃ BS BH H, e = .returned (.pointer (some ⟨BS, 0, none⟩)) ∧ SpanAt w' BS BH wa wc u H ∧ Sp.SpanIs ps u H ∧ B ≤ BS ∧ B ≤ BH
/-- As SpanEnd, and the grammar lies in it as it was handed in. -/
def SpanEnd2 (v : Value) (B : Nat) (ps : List (Int × List Int)) (wa : Option Addr) (wc : Nat) (u : List Int) (e : Ending) (w' : World) : Prop :=
  ∃ BS BH H, e = .returned (.pointer (some ⟨BS, 0, none⟩)) ∧ SpanAt w' BS BH wa wc u H ∧ Sp.SpanIs ps u H ∧ B ≤ BS ∧ B ≤ BH ∧ ∃ g1 g2 g3, v = .agg #[g1, g2, g3] ∧ w'.heap[BS]? = some (.cells #[g1, g2, g3, .slice wa u.length wc, .map (some BH)] 115)
set_option maxRecDepth 100000 in
set_option maxHeartbeats 32000000 in
theorem spans_any2 (v : Value) (g : Gr) (wa : Option Addr) (wc : Nat) (u : List Int) (w : World) (hg : GramAt w v g) (hu : Cells w wa (nums u)) (hul : u.length ≤ 100000) (hp24 : g.prods.length ≤ 100000)
    (hps : ∀ p ∈ g.prods, (-1000000 ≤ p.1 ∧ p.1 ≤ 1000000) ∧ p.2.length ≤ 100000 ∧ ∀ s ∈ p.2, -1000000 ≤ s ∧ s ≤ 1000000) :
    Calls Try.prog 43 #[v, .slice wa u.length wc] w fun e w' => Below w.heap.size w w' ∧ SpanEnd2 v w.heap.size g.prods wa wc u e w' := by
  obtain ⟨a1, a2, a3, c1, c2, c3, ls, rfl, hp, k1, k2, k3, k4, k5, k6, k7⟩ := hg
  have hS := boxS w (.cells #[.slice a1 g.terms.length c1, .slice a2 g.nons.length c2, .slice a3 ls.length c3] 25)
  have q0 := heap_alloc_new w (.cells #[.slice a1 g.terms.length c1, .slice a2 g.nons.length c2, .slice a3 ls.length c3] 25)
  have H3 := Lib.hid (k3.below hS)
  have H4 := Lib.hid (fun p hp => (k4 p hp).below hS)
  have HU := Lib.hid (hu.below hS)
  have HP := Lib.hid hp
  have HS := Lib.hid hS
  have HPS := Lib.hid hps
  have HQ0 := Lib.hid q0
  have l0 := heap_lt q0
  have hll : ls.length ≤ 100000 := by have : ls.length = g.prods.length := by rw [← hp, List.length_map]
                                      omega
  have y0 := (blk_cell (i := 0) (u := .slice a1 g.terms.length c1) q0 rfl).1
  have y1 := (blk_cell (i := 1) (u := .slice a2 g.nons.length c2) q0 rfl).1
  have y2 := (blk_cell (i := 2) (u := .slice a3 ls.length c3) q0 rfl).1
  clear hp k1 k2 k3 k4 hS hps hu hp24 q0
  have hmm := @run_makeMap Try.prog
  go_enter Try.func43, Try.ntmps43
  go_upto_region 1 with fail
  generalize hS1 : w.alloc (.cells #[.slice a1 g.terms.length c1, .slice a2 g.nons.length c2, .slice a3 ls.length c3] 25) = S1 at *
  clear hS1
  go_upto_region 2 with fail
  obtain ⟨hsp, hb0, hsz, hqs⟩ := span_start S1 (.slice a1 g.terms.length c1) (.slice a2 g.nons.length c2) (.slice a3 ls.length c3) wa wc u HU.out
  have HB0 := Lib.hid hb0
  have HSP := Lib.hid hsp
  have HSZ := Lib.hid hsz
  have HQS := Lib.hid hqs
  clear hb0 hsp hsz hqs y0 y1
  generalize hBH : S1.heap.size = BH at *
  generalize hS2 : (S1.alloc (.map #[] 0)).alloc (.cells #[.slice a1 g.terms.length c1, .slice a2 g.nons.length c2, .slice a3 ls.length c3, .slice wa u.length wc, .map (some BH)] 115) = S2 at *
  clear hS2
  have HBH := Lib.hid hBH
  have HWA : Hid (∀ b off, wa = some ⟨b, off, none⟩ → nums u ≠ [] → b < BH) := Lib.hid fun b off e hne => by
    obtain ⟨b', off', e', hl, _⟩ := HU.out.get hne
    rw [e] at e'; cases e'; omega
  clear hBH
  go_upto_region 3 with fail
  go_loopw [6] (fun c wr => ∃ (cb : Bool) (H : Sp.Key → Prop), c = .bool cb ∧ Hid (SpanAt wr (BH + 1) BH wa wc u H) ∧ Hid (Sp.Sound g.prods u H) ∧ Hid (S2.grownBy wr (some BH)) ∧ Hid (cb = false → ∀ p ∈ g.prods, Sp.ClosedP u H p)) (fun c wr => 2 * Sp.left (Sp.allKeys g.prods u.length) (HasW code3 BH wr) + (match c with | .bool true => 1 | _ => 0))
  case atStart => exact ⟨true, fun _ => False, rfl, HSP, Lib.hid (Sp.sound_none u), Lib.hid (gb_self _ _), Lib.hid fun h => by cases h⟩
  case round =>
    obtain ⟨cb, H, rfl, HSA, HSO, HGR, HCL⟩ := hrel
    cases cb
    · have hfin : Below w.heap.size w wr := by
        have h1 := gb_below' HB0.out (B := w.heap.size) (by have := HBH.out; omega) (fun x h => by cases h)
        have h2 := gb_below' HGR.out (B := w.heap.size) (by rw [HSZ.out]; omega) (fun x h => by cases h; omega)
        exact HS.out.trans (h1.trans h2)
      have HFIN := Lib.hid hfin
      have HQR := Lib.hid ((HGR.out.block (BH + 1) (heap_lt HQS.out) (by simp)).trans HQS.out)
      have HC := Lib.hid (HCL.out rfl)
      clear hfin HCL
      go_wp2
      go_ret
      exact ⟨HFIN.out, BH + 1, BH, H, rfl, HSA.out, Sp.span_is HSO.out HC.out, by omega, by omega, _, _, _, rfl, HQR.out⟩
    · have hlt2 : w.heap.size < S2.heap.size := by rw [HSZ.out]; omega
      have hqw := (HGR.out.block w.heap.size hlt2 (by intro e; cases e; omega)).trans ((HB0.out.block w.heap.size (by have := HBH.out; omega) (by simp)).trans HQ0.out)
      have y2 := (blk_cell (i := 2) (u := .slice a3 ls.length c3) hqw rfl).1
      have y3 := heap_lt hqw
      clear hqw hlt2
      clear HCL
      go_upto_region 6 with fail
      go_loopw [6, 27] (fun c a wx => ∃ (cb : Bool) (k : Nat) (H1 : Sp.Key → Prop), k ≤ ls.length ∧ c = .bool cb ∧ a = .int .i64 k ∧ Hid (SpanAt wx (BH + 1) BH wa wc u H1) ∧ Hid (Sp.Sound g.prods u H1) ∧ Hid (wr.grownBy wx (some BH)) ∧ Hid (RoundIs (Sp.allKeys g.prods u.length) H H1 cb) ∧ Hid (cb = false → ∀ (k' : Nat) p, k' < k → g.prods[k']? = some p → Sp.ClosedP u H p)) (fun _ a _ => ls.length - (intOf a).toNat)
      case atStart => exact ⟨false, 0, H, by omega, rfl, rfl, HSA, HSO, Lib.hid (gb_self _ _), Lib.hid ⟨fun _ h => h, (fun h => by cases h), fun _ => rfl⟩, Lib.hid fun _ k' p hk => by omega⟩
      case round =>
        rename World => wx
        obtain ⟨cb, k, H1, hk, rfl, rfl, HSA1, HSO1, HGR1, HRD, HCL1⟩ := hrel
        by_cases hkl : k < ls.length
        · obtain ⟨p, hp⟩ : ∃ p, ls[k]? = some p := ⟨_, List.getElem?_eq_getElem hkl⟩
          obtain ⟨pl, pr, pa, pc⟩ := p
          have hpm := List.mem_of_getElem? hp
          have hS1x : Below S1.heap.size S1 wx := by
            have h1 := gb_below' HB0.out (B := S1.heap.size) (Nat.le_refl _) (fun x h => by cases h)
            have h2 := gb_below' HGR.out (B := S1.heap.size) (by rw [HSZ.out, HBH.out]; omega) (fun x h => by cases h; rw [HBH.out]; omega)
            have h3 := gb_below' HGR1.out (B := S1.heap.size) (Nat.le_trans h1.size h2.size) (fun x h => by cases h; rw [HBH.out]; omega)
            exact h1.trans (h2.trans h3)
          obtain ⟨b3, o3, rfl, hb3, hc3⟩ := (H3.out.below hS1x).get (by intro e; have := (lays_at ls k _ hp).1; rw [e] at this; simp at this)
          have x0 := hc3 _ _ (lays_at ls k _ hp).1
          have x1 := hc3 _ _ (lays_at ls k _ hp).2
          rw [← Nat.add_assoc] at x1
          simp only at x0 x1
          have e2 : (k : Int) < ls.length := by omega
          have hpp : g.prods[k]? = some (pl, pr) := by rw [← HP.out, List.getElem?_map, hp]; rfl
          have hpg := List.mem_of_getElem? hpp
          obtain ⟨⟨hpl1, hpl2⟩, hpr6, hps⟩ := HPS.out _ hpg
          simp only at hpl1 hpl2 hpr6 hps
          have HPSR := Lib.hid hps
          have HPP := Lib.hid hpp
          have HPG := Lib.hid hpg
          have hbA := boxS wx (.cells #[.int .i64 pl, .slice pa pr.length pc] 63)
          have HPR := Lib.hid (show Cells S1 pa (nums pr) from H4.out _ hpm)
          have HBW2 := Lib.hid (hS1x.trans (hbA.mono hS1x.size))
          have qA := heap_alloc_new wx (.cells #[.int .i64 pl, .slice pa pr.length pc] 63)
          have HQA := Lib.hid qA
          have hgA := gb_alloc wx (.cells #[.int .i64 pl, .slice pa pr.length pc] 63) none
          have HSA2 := Lib.hid (HSA1.out.grown hgA (by simp) (by simp) (by simp))
          have HGR2 := Lib.hid (gb_then HGR1.out hgA (fun x h => by cases h))
          have lx := HSA1.out.m.lt
          have lA := heap_lt qA
          clear hp hpm hS1x hc3 hpp hpg hps hbA hgA qA HSA1 HGR1
          go_upto_region 8 with fail
          generalize hW2 : wx.alloc (.cells #[.int .i64 pl, .slice pa pr.length pc] 63) = W2 at *
          clear hW2
          generalize wx.heap.size = PB at *
          clear x0 x1
          go_upto_region 9 with fail
          go_loopw [6, 9] (fun c a wy => ∃ (cb : Bool) (i : Nat) (H2 : Sp.Key → Prop), i ≤ u.length + 1 ∧ c = .bool cb ∧ a = .int .i64 i ∧ Hid (SpanAt wy (BH + 1) BH wa wc u H2) ∧ Hid (Sp.Sound g.prods u H2) ∧ Hid (W2.grownBy wy (some BH)) ∧ Hid (RoundIs (Sp.allKeys g.prods u.length) H H2 cb) ∧ Hid (cb = false → (∀ (k' : Nat) p, k' < k → g.prods[k']? = some p → Sp.ClosedP u H p) ∧ ∀ i', i' < i → ∀ j, Sp.runE (Sp.canP u H) u.length pr (· = i') j → H (pl, i', j))) (fun _ a _ => u.length + 1 - (intOf a).toNat)
          case atStart => exact ⟨cb, 0, H1, by omega, rfl, rfl, HSA2, HSO1, Lib.hid (gb_self _ _), HRD, Lib.hid fun h => ⟨HCL1.out h, fun i' hi' => by omega⟩⟩
          case round =>
            rename World => wy
            obtain ⟨cb2, i, H2, hi, rfl, rfl, HSY, HSO2, HGY, HRD2, HCL2⟩ := hrel
            have hqp := (HGY.out.block PB lA (by intro e; cases e; omega)).trans HQA.out
            have z0 := (blk_cell (i := 0) (u := .int .i64 pl) hqp rfl).1
            have z1 := (blk_cell (i := 1) (u := .slice pa pr.length pc) hqp rfl).1
            have z2 := heap_lt hqp
            by_cases hil : i ≤ u.length
            · have e3 : (i : Int) ≤ u.length := by omega
              have HQP := Lib.hid hqp
              clear hqp
              have hne : wy.heap.size ≠ BH := by have := HSY.out.m.lt; omega
              have hgs := gb_alloc wy (.map #[] 0) none
              obtain ⟨l, hl⟩ := codeN_key (a := i) (by omega)
              obtain ⟨we, hrun, hSE, hgE⟩ := (SetM.made wy Try.prog 3 codeN).store key_int codeN_inj Try.underlying116 hl
              have hrun1 : (Instr.mapUpdate 116 (.map (some wy.heap.size)) (.int .i64 i) (.bool true)).run Try.prog (wy.alloc (.map #[] 0)) = .ok () we := hrun
              go_upto_region 12 with fail
              have hgw := gb_then hgs hgE (fun x h => by cases h; exact .inr (Nat.le_refl _))
              have HGW := Lib.hid hgw
              have HSE := Lib.hid (hSE.congr (T := fun q => q = i) fun q => by simp)
              have HSPE := Lib.hid (HSY.out.grown hgw (by simp) (by simp) (by simp))
              have hqe := (hgw.block PB z2 (by simp)).trans HQP.out
              have HQE := Lib.hid hqe
              have z3 := heap_lt hqe
              have z4 := (blk_cell (i := 1) (u := .slice pa pr.length pc) hqe rfl).1
              have hBE0 : BH + 1 < wy.heap.size := by
                obtain ⟨⟨_, _, _, hq⟩, _, _⟩ := HSY.out
                exact heap_lt hq
              have hBEl : wy.heap.size < we.heap.size := HSE.out.lt
              have hS1e : Below S1.heap.size S1 we := by
                have h2 := gb_below' HGY.out (B := S1.heap.size) HBW2.out.size (fun x h => by cases h; rw [HBH.out]; omega)
                have h3 := gb_below' hgw (B := S1.heap.size) (Nat.le_trans HBW2.out.size h2.size) (fun x h => by cases h)
                exact HBW2.out.trans (h2.trans h3)
              have HS1E := Lib.hid hS1e
              clear hrun hrun1 hSE hgE hgs hgw hqe hne hl z0 z1 hS1e
              go_upto_region 13 with fail
              go_loopw [10, 43] (fun em m wz => ∃ (BE : Nat) (m' : Nat), m' ≤ pr.length ∧ em = .map (some BE) ∧ m = .int .i64 m' ∧ Hid (SetM wz Try.prog 3 codeN BE (Sp.runE (Sp.canP u H2) u.length (pr.take m') (· = i))) ∧ Hid (we.grownBy wz none) ∧ Hid (BH + 1 < BE)) (fun _ m _ => pr.length - (intOf m).toNat)
              case atStart => exact ⟨wy.heap.size, 0, by omega, rfl, rfl, HSE, Lib.hid (gb_self _ _), Lib.hid hBE0⟩
              case round =>
                rename World => wz
                obtain ⟨BE, m, hm, rfl, rfl, HME, HGE, HBE⟩ := hrel
                have HSPZ := Lib.hid (HSPE.out.grown HGE.out (by simp) (by simp) (by simp))
                by_cases hml : m < pr.length
                · obtain ⟨x, hx⟩ : ∃ x, pr[m]? = some x := ⟨_, List.getElem?_eq_getElem hml⟩
                  have hS1z : Below S1.heap.size S1 wz := HS1E.out.trans (gb_below' HGE.out (B := S1.heap.size) HS1E.out.size (fun x h => by cases h))
                  obtain ⟨b4, o4, rfl, hb4, hc4⟩ := (HPR.out.below hS1z).get (by unfold nums; intro e; rw [List.map_eq_nil_iff] at e; rw [e] at hml; simp at hml)
                  have u0 := hc4 m _ (nums_at hx)
                  have e4 : (m : Int) < pr.length := by omega
                  obtain ⟨hx1, hx2⟩ := HPSR.out x (List.mem_of_getElem? hx)
                  have HXX := Lib.hid hx
                  have HEB : Hid (∀ j, Sp.runE (Sp.canP u H2) u.length (pr.take m) (· = i) j → i ≤ j ∧ j ≤ u.length) := Lib.hid (Sp.runE_ge _ _ i _ (fun k hk => by subst hk; exact ⟨Nat.le_refl _, hil⟩))
                  have HRN := Lib.hid (Sp.runE_snoc (C := Sp.canP u H2) (n := u.length) hx (· = i))
                  clear hS1z hc4 hx
                  generalize Sp.runE (Sp.canP u H2) u.length (pr.take m) (· = i) = E at *
                  have hgN := gb_alloc wz (.map #[] 0) none
                  have HSN := Lib.hid ((SetM.made wz Try.prog 3 codeN).congr (next_none (Sp.canP u H2) u.length i E x))
                  have HMN := Lib.hid (HME.out.kept hgN (by simp))
                  have HPN := Lib.hid (HSPZ.out.grown hgN (by simp) (by simp) (by simp))
                  have HGN := Lib.hid (gb_then HGE.out hgN (fun x h => by cases h))
                  have lBE := HME.out.lt
                  have hBHN : BH + 1 < wz.heap.size := Nat.lt_trans HBE.out lBE
                  have hweN := HGE.out.size
                  clear hgN
                  go_upto_region 16 with fail
                  have hBN : wz.heap.size < (wz.alloc (.map #[] 0)).heap.size := HSN.out.lt
                  generalize hWN : wz.alloc (.map #[] 0) = WN at *
                  clear hWN
                  generalize wz.heap.size = BN at *
                  clear u0
                  go_upto_region 17 with fail
                  go_loopw [14] (fun j wq => ∃ j' : Nat, i ≤ j' ∧ j' ≤ u.length + 1 ∧ j = .int .i64 j' ∧ Hid (SetM wq Try.prog 3 codeN BN (NextB (Sp.canP u H2) u.length i E x j')) ∧ Hid (WN.grownBy wq (some BN))) (fun j _ => u.length + 1 - (intOf j).toNat)
                  case atStart => exact ⟨i, by omega, by omega, rfl, HSN, Lib.hid (gb_self _ _)⟩
                  case round =>
                    rename World => wq
                    obtain ⟨j, hij, hj, rfl, HMQ, HGQ⟩ := hrel
                    by_cases hjl : j ≤ u.length
                    · have e5 : (j : Int) ≤ u.length := by omega
                      go_upto_region 20 with fail
                      go_loopw [15] (fun k wq => ∃ k' : Nat, j ≤ k' ∧ k' ≤ u.length + 1 ∧ k = .int .i64 k' ∧ Hid (SetM wq Try.prog 3 codeN BN (NextC (Sp.canP u H2) u.length i E x j k')) ∧ Hid (WN.grownBy wq (some BN))) (fun k _ => u.length + 1 - (intOf k).toNat)
                      case atStart => exact ⟨j, by omega, by omega, rfl, Lib.hid (HMQ.out.congr (nextC_start _ _ _ _ _ _)), HGQ⟩
                      case round =>
                        clear HMQ HGQ
                        rename World => wo
                        obtain ⟨k2, hjk, hk2, rfl, HMO, HGO⟩ := hrel
                        obtain ⟨b1, hb1, hl1⟩ := (HMN.out.kept HGO.out (by simp; omega)).look_all key_int codeN_inj Try.underlying116 zeroBool (q := j) (codeN_key (by omega))
                        have hl2 : (Instr.lookup 116 (.map (some BE)) (.int .i64 j) false).run Try.prog wo = .ok (.bool b1) wo := hl1 wo rfl
                        have HB1 := Lib.hid hb1
                        clear hl1 hb1
                        cases b1
                        · have HNB := Lib.hid (HMO.out.congr (nextC_end hij (.inl fun h => by have := HB1.out.2 h; cases this)))
                          go_wp2
                          exact ⟨⟨j + 1, by omega, by omega, by go_num, HNB, HGO⟩, by simp [intOf]; omega⟩
                        · have hEj := HB1.out.1 rfl
                          have HEJ := Lib.hid hEj
                          clear hEj HB1
                          by_cases hkl2 : k2 ≤ u.length
                          · have e6 : (k2 : Int) ≤ u.length := by omega
                            have HCO := Lib.hid (can_any (BH + 1) BH wa wc u H2 x j k2 wo (HPN.out.grown HGO.out (by simp; omega) (by simp; omega) (fun b off e hne => by have := HWA.out b off e hne; simp; omega)) (by omega) (by omega) hjk hkl2 (by omega))
                            go_upto_region 22 with fail
                            go_upto_if 71 with (go_at_call 58; refine HCO.out.mono ?_; rintro e w5 ⟨⟨b2, rfl, hb2⟩, rfl⟩)
                            have HB2 := Lib.hid hb2
                            clear hb2
                            cases b2
                            · have HNC := Lib.hid (HMO.out.congr (nextC_skip (fun h => by have := HB2.out.2 h; cases this)))
                              go_wp2
                              exact ⟨⟨k2 + 1, by omega, by omega, by go_num, HNC, HGO⟩, by simp [intOf]; omega⟩
                            · obtain ⟨l, hl⟩ := codeN_key (a := k2) (by omega)
                              obtain ⟨w6, hrun, hSE, hgE⟩ := HMO.out.store key_int codeN_inj Try.underlying116 hl
                              have hrun1 : (Instr.mapUpdate 116 (.map (some BN)) (.int .i64 k2) (.bool true)).run Try.prog w5 = .ok () w6 := hrun
                              have HNC := Lib.hid (hSE.congr (nextC_put HEJ.out hjk (HB2.out.1 rfl)))
                              have HGO2 := Lib.hid (gb_then HGO.out hgE (fun x h => .inl h))
                              clear hl hrun hSE hgE
                              go_wp2
                              exact ⟨⟨k2 + 1, by omega, by omega, by go_num, HNC, HGO2⟩, by simp [intOf]; omega⟩
                          · have e6 : ¬ (k2 : Int) ≤ u.length := by omega
                            have HNB := Lib.hid (HMO.out.congr (nextC_end hij (.inr (by omega))))
                            go_wp2
                            exact ⟨⟨j + 1, by omega, by omega, by go_num, HNB, HGO⟩, by simp [intOf]; omega⟩
                    · have e5 : ¬ (j : Int) ≤ u.length := by omega
                      obtain rfl : j = u.length + 1 := by omega
                      have HNE := Lib.hid (HMQ.out.congr (T := Sp.runE (Sp.canP u H2) u.length (pr.take (m + 1)) (· = i)) fun q => by rw [HRN.out]; exact next_all HEB.out x q)
                      have HGF := Lib.hid (gb_then HGN.out HGQ.out (fun x h => by cases h; exact .inr hweN))
                      go_wp2
                      exact ⟨⟨BN, m + 1, by omega, rfl, by go_num, HNE, HGF, Lib.hid hBHN⟩, by simp [intOf]; omega⟩
                · have e4 : ¬ (m : Int) < pr.length := by omega
                  have hfull : pr.take m = pr := List.take_of_length_le (by omega)
                  rw [hfull] at HME
                  have HEB : Hid (∀ j, Sp.runE (Sp.canP u H2) u.length pr (· = i) j → i ≤ j ∧ j ≤ u.length) := Lib.hid (Sp.runE_ge _ _ i _ (fun k hk => by subst hk; exact ⟨Nat.le_refl _, hil⟩))
                  have HEP : Hid (Sp.runE (Sp.canP u H2) u.length pr (· = i) = Sp.runE (Sp.canP u H2) u.length pr (· = i)) := Lib.hid rfl
                  generalize hE : Sp.runE (Sp.canP u H2) u.length pr (· = i) = E at HME HEB
                  have HEE := Lib.hid hE
                  have lBE := HME.out.lt
                  have hqz := (HGE.out.block PB z3 (by simp)).trans HQE.out
                  have HQZ := Lib.hid hqz
                  have lz := heap_lt hqz
                  have HGYZ := Lib.hid (gb_then HGY.out (gb_then HGW.out HGE.out (fun x h => by cases h)) (fun x h => by cases h))
                  clear hfull hE hqz HEP HGE
                  go_upto_region 27 with fail
                  go_loopw [6, 16] (fun c j wq => ∃ (cb3 : Bool) (j' : Nat) (H3 : Sp.Key → Prop), i ≤ j' ∧ j' ≤ u.length + 1 ∧ c = .bool cb3 ∧ j = .int .i64 j' ∧ Hid (SpanAt wq (BH + 1) BH wa wc u H3) ∧ Hid (Sp.Sound g.prods u H3) ∧ Hid (wz.grownBy wq (some BH)) ∧ Hid (RoundIs (Sp.allKeys g.prods u.length) H H3 cb3) ∧ Hid (cb3 = false → cb2 = false ∧ ∀ jj, jj < j' → E jj → H3 (pl, i, jj))) (fun _ j _ => u.length + 1 - (intOf j).toNat)
                  case atStart => exact ⟨cb2, i, H2, by omega, by omega, rfl, rfl, HSPZ, HSO2, Lib.hid (gb_self _ _), HRD2, Lib.hid fun h => ⟨h, fun jj hjj hE => by have := (HEB.out jj hE).1; omega⟩⟩
                  case round =>
                    rename World => wq
                    obtain ⟨cb3, j, H3, hij, hj, rfl, rfl, HSQ, HSO3, HGQ, HRD3, HC3⟩ := hrel
                    by_cases hjl : j ≤ u.length
                    · have e5 : (j : Int) ≤ u.length := by omega
                      have hqq := (HGQ.out.block PB lz (by intro e; cases e; omega)).trans HQZ.out
                      have s0 := (blk_cell (i := 0) (u := .int .i64 pl) hqq rfl).1
                      have s1 := heap_lt hqq
                      clear hqq
                      go_upto_region 30 with fail
                      have hgK := gb_alloc wq (.cells #[.int .i64 pl, .int .i64 i, .int .i64 j] 97) none
                      have hqK := heap_alloc_new wq (.cells #[.int .i64 pl, .int .i64 i, .int .i64 j] 97)
                      have HSK := Lib.hid (HSQ.out.grown hgK (by simp) (by simp) (by simp))
                      have HGK := Lib.hid (gb_then HGQ.out hgK (fun x h => by cases h))
                      have HQK := Lib.hid hqK
                      have lK : wz.heap.size ≤ wq.heap.size := HGQ.out.size
                      have HMK := Lib.hid ((HME.out.kept HGQ.out (by have := HBE.out; simp; omega)).kept hgK (by simp))
                      clear hgK hqK HSQ HGQ s0 s1
                      generalize wq.alloc (.cells #[.int .i64 pl, .int .i64 i, .int .i64 j] 97) = WK at *
                      generalize wq.heap.size = KB at *
                      obtain ⟨b1, hb1, hl1⟩ := HMK.out.look_all key_int codeN_inj Try.underlying116 zeroBool (q := j) (codeN_key (by omega))
                      obtain ⟨b2, hb2, hl2⟩ := HSK.out.m.look_all key_three code3_inj Try.underlying113 zeroBool (q := (pl, i, j)) (code3_key (by omega) (by omega) (by omega) (by omega))
                      have hL1 : ∀ n, (Instr.lookup 116 (.map (some BE)) (.int .i64 j) false).run Try.prog (WK.drewN n) = .ok (.bool b1) (WK.drewN n) := fun n => hl1 _ rfl
                      have hL2 : ∀ n, (Instr.lookup 113 (.map (some BH)) (.agg #[.int .i64 pl, .int .i64 i, .int .i64 j]) false).run Try.prog (WK.drewN n) = .ok (.bool b2) (WK.drewN n) := fun n => hl2 _ rfl
                      have HB1 := Lib.hid hb1
                      have HB2 := Lib.hid hb2
                      obtain ⟨⟨g1, g2, g3, hqs⟩, _, _⟩ := HSK.out
                      have s4 := (blk_cell (i := 4) (u := .map (some BH)) hqs rfl).1
                      have s5 := heap_lt hqs
                      have t0 := (blk_cell (i := 0) (u := .int .i64 pl) HQK.out rfl).1
                      have t1 := (blk_cell (i := 1) (u := .int .i64 i) HQK.out rfl).1
                      have t2 := (blk_cell (i := 2) (u := .int .i64 j) HQK.out rfl).1
                      have t3 := heap_lt HQK.out
                      clear hl1 hl2 hb1 hb2 hqs
                      have HDN : Hid (∀ n, WK.grownBy (WK.drewN n) none) := Lib.hid fun n => ⟨rfl, rfl, rfl, Nat.le_refl _, fun _ _ _ => rfl⟩
                      cases b1
                      · have HNX : Hid (cb3 = false → cb2 = false ∧ ∀ jj, jj < j + 1 → E jj → H3 (pl, i, jj)) := Lib.hid fun h => ⟨(HC3.out h).1, fun jj hjj hE => by
                          by_cases hjj2 : jj = j
                          · subst hjj2; have := HB1.out.2 hE; cases this
                          · exact (HC3.out h).2 jj (by omega) hE⟩
                        clear hL2
                        go_quiet (fail)
                        have HSW := Lib.hid (HSK.out.grown (HDN.out nq) (by simp) (by simp) (by simp))
                        have HGW2 := Lib.hid (gb_then HGK.out (HDN.out nq) (fun x h => by cases h))
                        go_wp2
                        exact ⟨⟨cb3, j + 1, H3, by omega, by omega, rfl, by go_num, HSW, HSO3, HGW2, HRD3, HNX⟩, by simp [intOf]; omega⟩
                      · cases b2
                        · obtain ⟨l, hl⟩ := code3_key (x := pl) (i := i) (j := j) (by omega) (by omega) (by omega) (by omega)
                          have HL3 := Lib.hid hl
                          have HEJ2 := Lib.hid (HB1.out.1 rfl)
                          have hn3 : ¬ H3 (pl, i, j) := fun h => by have := HB2.out.2 h; cases this
                          have HN3 := Lib.hid hn3
                          clear hl hn3
                          go_quiet (fail)
                          go_wp2
                          have HSW := Lib.hid (HSK.out.grown (HDN.out nq) (by simp) (by simp) (by simp))
                          have HGW2 := Lib.hid (gb_then HGK.out (HDN.out nq) (fun x h => by cases h))
                          obtain ⟨w1, st, hr1, hg1, w3, hr3, hS3, hg3⟩ := ((HSW.out.m).at (w' := WK.drewN (nq + 1)) rfl).entry key_three code3_inj Try.underlying113 (zeroBool _) HL3.out HN3.out
                          have hE1 : (Instr.mapEntry 113 (.map (some BH)) (.agg #[.int .i64 pl, .int .i64 i, .int .i64 j])).run Try.prog (WK.drewN (nq + 1)) = .ok (.tuple #[.bool false, .int .i64 st]) w1 := hr1
                          have HS3 := Lib.hid hS3
                          have hgk3 : WK.grownBy w3 (some BH) := ⟨hg3.os, hg3.tape, hg3.output, hg3.size, hg3.block⟩
                          have HGW3 := Lib.hid (gb_then HGK.out hgk3 (fun x h => .inl h))
                          have hrow : Cells w3 wa (nums u) := by
                            by_cases hne : nums u = []
                            · exact .inl hne
                            · obtain ⟨b, off, e, hl, hc⟩ := HSK.out.row.get hne
                              exact .inr ⟨b, off, e, Nat.lt_of_lt_of_le hl hgk3.size, fun jj v hjj => (World.cell?_of_block (hgk3.block b hl (by have := HWA.out b off e hne; simp; omega))).trans (hc jj v hjj)⟩
                          have HSP3 : Hid (SpanAt w3 (BH + 1) BH wa wc u (fun q' => q' = (pl, i, j) ∨ H3 q')) := Lib.hid ⟨by
                            obtain ⟨⟨g1, g2, g3, hqs⟩, _, _⟩ := HSK.out
                            exact ⟨g1, g2, g3, (hgk3.block (BH + 1) (heap_lt hqs) (by simp)).trans hqs⟩, hS3, hrow⟩
                          have HSO4 := Lib.hid (Sp.sound_add HSO3.out HPG.out HSO2.out hil (j := j) (by rw [HEE.out]; exact HEJ2.out))
                          have HRD4 := Lib.hid (HRD3.out.add (Sp.mem_allKeys HPG.out (i := i) (j := j) hil hjl) HN3.out)
                          clear hr1 hg1 hS3 hg3 hgk3 hrow
                          go_region
                          go_wp2
                          exact ⟨⟨true, j + 1, _, by omega, by omega, rfl, by go_num, HSP3, HSO4, HGW3, HRD4, Lib.hid fun h => by cases h⟩, by simp [intOf]; omega⟩
                        · have HNX : Hid (cb3 = false → cb2 = false ∧ ∀ jj, jj < j + 1 → E jj → H3 (pl, i, jj)) := Lib.hid fun h => ⟨(HC3.out h).1, fun jj hjj hE => by
                            by_cases hjj2 : jj = j
                            · subst hjj2; exact HB2.out.1 rfl
                            · exact (HC3.out h).2 jj (by omega) hE⟩
                          go_quiet (fail)
                          have HSW := Lib.hid (HSK.out.grown (HDN.out nq) (by simp) (by simp) (by simp))
                          have HGW2 := Lib.hid (gb_then HGK.out (HDN.out nq) (fun x h => by cases h))
                          go_wp2
                          exact ⟨⟨cb3, j + 1, H3, by omega, by omega, rfl, by go_num, HSW, HSO3, HGW2, HRD3, HNX⟩, by simp [intOf]; omega⟩
                    · have e5 : ¬ (j : Int) ≤ u.length := by omega
                      obtain rfl : j = u.length + 1 := by omega
                      have HGF := Lib.hid (gb_then HGYZ.out HGQ.out (fun x h => .inl h))
                      have HCF : Hid (cb3 = false → (∀ (k' : Nat) p, k' < k → g.prods[k']? = some p → Sp.ClosedP u H p) ∧ ∀ i', i' < i + 1 → ∀ j, Sp.runE (Sp.canP u H) u.length pr (· = i') j → H (pl, i', j)) := Lib.hid fun h => by
                        obtain ⟨h2, h3⟩ := HC3.out h
                        obtain ⟨h4, h5⟩ := HCL2.out h2
                        refine ⟨h4, fun i' hi' jj hjj => ?_⟩
                        by_cases hii : i' = i
                        · subst hii
                          have e1 := HRD2.out.none_ h2
                          have e2 := HRD3.out.none_ h
                          rw [← e1, HEE.out] at hjj
                          have := h3 jj (by have := (HEB.out jj hjj).2; omega) hjj
                          rwa [e2] at this
                        · exact h5 i' (by omega) jj hjj
                      go_wp2
                      exact ⟨⟨cb3, i + 1, H3, by omega, rfl, by go_num, HSQ, HSO3, HGF, HRD3, HCF⟩, by simp [intOf]; omega⟩
            · have e3 : ¬ (i : Int) ≤ u.length := by omega
              obtain rfl : i = u.length + 1 := by omega
              have HCN : Hid (cb2 = false → ∀ (k' : Nat) p, k' < k + 1 → g.prods[k']? = some p → Sp.ClosedP u H p) := Lib.hid fun h k' p hk' hp' => by
                by_cases hkk : k' = k
                · subst hkk
                  rw [HPP.out] at hp'
                  cases hp'
                  intro i' hi' j hj
                  exact (HCL2.out h).2 i' (by omega) j hj
                · exact (HCL2.out h).1 k' p (by omega) hp'
              have HGN := Lib.hid (gb_then HGR2.out HGY.out (fun x h => .inl h))
              clear HCL2 hqp
              go_wp2
              exact ⟨⟨cb2, k + 1, H2, by omega, rfl, by go_num, HSY, HSO2, HGN, HRD2, HCN⟩, by simp [intOf]; omega⟩
        · have e2 : ¬ (k : Int) < ls.length := by omega
          have HGN := Lib.hid (gb_then HGR.out HGR1.out (fun x h => .inl h))
          have HCN : Hid (cb = false → ∀ p ∈ g.prods, Sp.ClosedP u H1 p) := Lib.hid fun h p hp => by
            obtain ⟨k', hk'⟩ := List.getElem?_of_mem hp
            have hl : k' < g.prods.length := (List.getElem?_eq_some_iff.1 hk').1
            have : ls.length = g.prods.length := by rw [← HP.out, List.length_map]
            rw [HRD.out.none_ h]
            exact HCL1.out h k' p (by omega) hk'
          have hm1 := HSA.out.left (Sp.allKeys g.prods u.length)
          have hm2 := HSA1.out.left (Sp.allKeys g.prods u.length)
          have hm3 : cb = true → Sp.left (Sp.allKeys g.prods u.length) H1 < Sp.left (Sp.allKeys g.prods u.length) H := fun h => by
            obtain ⟨q, hq, hq1, hq2⟩ := HRD.out.some_ h
            exact Sp.left_lt HRD.out.more hq hq1 hq2
          have hm4 : cb = false → H1 = H := HRD.out.none_
          have HM1 := Lib.hid hm1
          have HM2 := Lib.hid hm2
          have HM3 := Lib.hid hm3
          have HM4 := Lib.hid hm4
          clear hm1 hm2 hm3 hm4
          go_wp2
          refine ⟨⟨cb, H1, rfl, HSA1, HSO1, HGN, HCN⟩, ?_⟩
          rw [HM1.out, HM2.out]
          cases cb
          · rw [HM4.out rfl]; simp
          · have := HM3.out rfl
            simp; omega
end Go.Proofs.Ytgfkkbpnphbdgaa
