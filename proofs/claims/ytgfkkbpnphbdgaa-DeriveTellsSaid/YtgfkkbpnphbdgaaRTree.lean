/- The document's own trees, in plain words: what its loops make. No program here. The document's own trees of a form: what its two functions owe, and what stands in memory between. The document's own (*Span).Trees, where its rows is as it should be. Written by mk_rtree.py. The document's own (*Span).rows, where its Trees and its rows further on are as they should be. The document's own Trees, whatever is asked. -/
import Derived.Test.YtgfkkbpnphbdgaaDerP
import Derived.Test.YtgfkkbpnphbdgaaSpanW
import Derived.Deep.AppendLies
import Derived.Deep.Cut
import Derived.Deep.RegionLawGrows
import Derived.Deep.RegionLaw
import Derived.Deep.QuietTactic
import Derived.Test.YtgfkkbpnphbdgaaWordR
import Derived.Deep.CutBlock
import Derived.Test.YtgfkkbpnphbdgaaPlayGX
import Derived.Test.YtgfkkbpnphbdgaaRefs
set_option linter.unusedVariables false
set_option linter.unusedSimpArgs false
namespace Go.Proofs.Ytgfkkbpnphbdgaa.Dr
open Doc

theorem take_skip {α : Type} {A B : List α} {m : Nat} (h : m ≤ (A.take m).length) : (A ++ B).take m = A.take m := by
  rw [List.length_take] at h
  rw [List.take_append_of_le_length (by omega)]
theorem take_step {α : Type} (A : List α) (y : α) (m : Nat) : (A ++ [y]).take m = if (A.take m).length < m then A.take m ++ [y] else A.take m := by
  split
  · rename_i h
    rw [List.length_take] at h
    rw [List.take_of_length_le (l := A) (by omega), List.take_of_length_le (by simp; omega)]
  · exact take_skip (by omega)
theorem take_inner {α β : Type} (A : List β) (X : List α) (f : α → β) (m : Nat) : (A ++ (X.take m).map f).take m = (A ++ X.map f).take m := by
  rw [List.map_take, List.take_append, List.take_append, List.take_take, Nat.min_eq_left (by omega)]
theorem flat_len {α β : Type} (f : α → List β) : ∀ (l : List α), (∀ x ∈ l, f x ≠ []) → l.length ≤ (l.flatMap f).length
  | [], _ => by simp
  | x :: l, h => by
    have h1 := List.length_pos_iff.2 (h x List.mem_cons_self)
    have h2 := flat_len f l fun y hy => h y (List.mem_cons_of_mem _ hy)
    rw [List.flatMap_cons, List.length_append, List.length_cons]
    omega
theorem take_flat {α β : Type} (A : List β) (F : List α) (f : α → List β) (m : Nat) (h : ∀ x ∈ F, f x ≠ []) : (A ++ (F.take m).flatMap f).take m = (A ++ F.flatMap f).take m := by
  by_cases hm : F.length ≤ m
  · rw [List.take_of_length_le hm]
  · have h1 := flat_len f (F.take m) fun x hx => h x (List.mem_of_mem_take hx)
    rw [List.length_take, Nat.min_eq_left (by omega)] at h1
    conv => rhs; rw [← List.take_append_drop m F, List.flatMap_append, ← List.append_assoc]
    rw [List.take_append_of_le_length (l₁ := A ++ (F.take m).flatMap f) (by rw [List.length_append]; omega)]
theorem flat_take_succ {α β : Type} {F : List α} {f : α → List β} {k : Nat} {x : α} (h : F[k]? = some x) : (F.take (k + 1)).flatMap f = (F.take k).flatMap f ++ f x := by
  rw [List.take_add_one, h, List.flatMap_append]; simp
theorem map_take_succ {α β : Type} {F : List α} {f : α → β} {k : Nat} {x : α} (h : F[k]? = some x) : (F.take (k + 1)).map f = (F.take k).map f ++ [f x] := by
  rw [List.take_add_one, h, List.map_append]; simp
theorem plainK_bad (x : Int) : ∀ (l : List Tr) (up : List Key) (i : Nat), (x, i, i + 1) ∈ up → leavesK l = [x] → plainK l up i = false
  | [], _, _, _, h => by simp [leavesK] at h
  | k :: l, up, i, hu, h => by
    rw [leavesK] at h
    rw [plainK]
    cases hkl : leavesT k with
    | nil =>
      rw [hkl] at h
      show (_ && plainK l up i) = false
      rw [plainK_bad x l up i hu h, Bool.and_false]
    | cons z r =>
      rw [hkl, List.cons_append] at h
      injection h with h1 h2
      have hr : r = [] := (List.append_eq_nil_iff.1 h2).1
      subst h1; subst hr
      rw [plain_bad _ k up i hu hkl, Bool.false_and]
variable (g : Gr) (w : List Int)
def isLf (x : Int) (s : Spn) : Bool := decide (s.b = s.a + 1 ∧ w[s.a]? = some x)
def leafP (x : Int) (s : Spn) : List (List Tr) := if isLf w x s = true then [[.mk x (-1) []]] else []
theorem row_leaf_none (h6 : Six g.prods) (hw : ∀ x ∈ w, symB g x = true) {x : Int} {s : Spn} {up : List Key} (hu : Ups up s) (hf : Fit (.goal x s)) (hb : s.b ≤ w.length) (hx : 100 ≤ x ∧ x < 108) (hl : isLf w x s = true) {k : Nat} (hk : k < g.prods.length) : all g.prods w (.row k 0 ⟨s.a, s.b, withA s.ab x⟩) = [] := by
  have hl' := of_decide_eq_true hl
  cases ha : all g.prods w (.row k 0 ⟨s.a, s.b, withA s.ab x⟩) with
  | nil => rfl
  | cons ks r =>
    exfalso
    have hm : ks ∈ all g.prods w (.row k 0 ⟨s.a, s.b, withA s.ab x⟩) := by rw [ha]; exact List.mem_cons_self
    obtain ⟨c1, c2, c3⟩ := lst_tree g w hw _ (.row k 0 ⟨s.a, s.b, withA s.ab x⟩) (fit_with hf) hk ks hm
    have hp := (plain_row g w h6 hw k hk ks (fun t _ => plain_iff g w h6 hw t) 0 ⟨s.a, s.b, withA s.ab x⟩ _ (fit_with hf) hb (hu.with hf.ab hx) c1 c2 c3).2 hm
    have c3' : leavesK ks = seg w s.a s.b := c3
    rw [hl'.1, seg_one w hl'.2] at c3'
    have := plainK_bad x ks (up ++ [(x, s.a, s.b)]) s.a (List.mem_append_right _ (by rw [hl'.1]; exact List.mem_singleton.2 rfl)) c3'
    have hp' : plainK ks (up ++ [(x, s.a, s.b)]) s.a = true := hp
    rw [this] at hp'; cases hp'
/-- A goal's trees, as the document finds them. -/
theorem goal_parts (h6 : Six g.prods) (hw : ∀ x ∈ w, symB g x = true) {x : Int} {s : Spn} {up : List Key} (hu : Ups up s) (hf : Fit (.goal x s)) (hb : s.b ≤ w.length) (hh : hasA s.ab x = false) : all g.prods w (.goal x s) = leafP w x s ++ gTail g.prods w x ⟨s.a, s.b, withA s.ab x⟩ 0 := by
  rw [all_goal g.prods w h6 hf, if_neg (by rw [hh]; simp), gTail_all]
  unfold leafP
  cases hl : isLf w x s with
  | true =>
    rw [if_pos (of_decide_eq_true hl), if_pos rfl]
    have : (prodsOf g.prods x).flatMap (fun k => (all g.prods w (.row k 0 ⟨s.a, s.b, withA s.ab x⟩)).map fun ks => [Tr.mk x k ks]) = [] := by
      rw [List.flatMap_eq_nil_iff]
      intro k hk
      rw [row_leaf_none g w h6 hw hu hf hb (sym_in h6 hk) hl (mem_prodsOf.1 hk).1]; rfl
    rw [this, List.append_nil]
  | false =>
    rw [if_neg (of_decide_eq_false hl)]; rfl
theorem goal_hit (h6 : Six g.prods) {x : Int} {s : Spn} (hf : Fit (.goal x s)) (hh : hasA s.ab x = true) : all g.prods w (.goal x s) = [] := by
  rw [all_goal g.prods w h6 hf, if_pos hh]
theorem tail_none (h6 : Six g.prods) {x : Int} {s : Spn} (hf : Fit (.goal x s)) (hn : ¬ ∃ p ∈ g.prods, p.1 = x ∧ Sp.DerF g.prods p.2 (seg w s.a s.b)) : gTail g.prods w x ⟨s.a, s.b, withA s.ab x⟩ 0 = [] := by
  rw [gTail_all, List.flatMap_eq_nil_iff]
  intro k hk
  obtain ⟨hk1, hk2⟩ := mem_prodsOf.1 hk
  have : all g.prods w (.row k 0 ⟨s.a, s.b, withA s.ab x⟩) = [] := by
    cases ha : all g.prods w (.row k 0 ⟨s.a, s.b, withA s.ab x⟩) with
    | nil => rfl
    | cons ks r =>
      exfalso
      have hs := lst_sound g.prods w _ (.row k 0 ⟨s.a, s.b, withA s.ab x⟩) (fit_with hf) hk1 (by show all g.prods w _ ≠ []; rw [ha]; simp)
      have hs' : Sp.DerF g.prods ((g.prods.getD k (0, [])).2.drop 0) (seg w s.a s.b) := hs
      rw [List.drop_zero] at hs'
      exact hn ⟨g.prods.getD k (0, []), by rw [List.getD_eq_getElem?_getD, List.getElem?_eq_getElem hk1]; exact List.getElem_mem hk1, hk2, hs'⟩
  rw [this]; rfl
/-- Of the productions up to k. -/
def gHead (x : Int) (s : Spn) (k : Nat) : List (List Tr) := (List.range k).flatMap (ofP g.prods w x s)
theorem gHead_zero (x : Int) (s : Spn) : gHead g w x s 0 = [] := rfl
theorem gHead_step (x : Int) (s : Spn) (k : Nat) : gHead g w x s (k + 1) = gHead g w x s k ++ ofP g.prods w x s k := by
  unfold gHead
  rw [List.range_succ, List.flatMap_append]; simp
theorem gHead_all (x : Int) (s : Spn) : gHead g w x s g.prods.length = gTail g.prods w x s 0 := by
  unfold gHead gTail
  rw [Nat.sub_zero, ← List.range_eq_range']
/-- Of the sizes of the first kid below n. -/
def rHead (p d : Nat) (s : Spn) (n : Nat) : List (List Tr) := (List.range n).flatMap (ofN g.prods w p d s)
theorem rHead_zero (p d : Nat) (s : Spn) : rHead g w p d s 0 = [] := rfl
theorem rHead_step (p d : Nat) (s : Spn) (n : Nat) : rHead g w p d s (n + 1) = rHead g w p d s n ++ ofN g.prods w p d s n := by
  unfold rHead
  rw [List.range_succ, List.flatMap_append]; simp
theorem row_parts (h6 : Six g.prods) {p d : Nat} {s : Spn} (hf : Fit (.row p d s)) (hd : d < (g.prods.getD p (0, [])).2.length) : all g.prods w (.row p d s) = rHead g w p d s (s.b - s.a + 1) := by
  rw [all_row g.prods w h6 hf, if_neg (by omega)]; rfl
theorem rHead_end {p d : Nat} {s : Spn} {n m : Nat} (hn : n ≤ s.b - s.a + 1) (h : m ≤ ((rHead g w p d s n).take m).length) : (rHead g w p d s n).take m = (rHead g w p d s (s.b - s.a + 1)).take m := by
  have : rHead g w p d s (s.b - s.a + 1) = rHead g w p d s n ++ (List.range' n (s.b - s.a + 1 - n)).flatMap (ofN g.prods w p d s) := by
    unfold rHead
    rw [← List.flatMap_append, List.range_eq_range', List.range_eq_range', show s.b - s.a + 1 = n + (s.b - s.a + 1 - n) by omega, ← List.range'_append_1]
    simp
  rw [this, take_skip h]
theorem ofN_nocan (h6 : Six g.prods) {p d : Nat} {s : Spn} (hf : Fit (.row p d s)) {n : Nat} (hn : n ≤ s.b - s.a) (h : ¬ Sp.DerF g.prods [(g.prods.getD p (0, [])).2.getD d 0] (seg w s.a (s.a + n))) : ofN g.prods w p d s n = [] := by
  have : all g.prods w (.goal ((g.prods.getD p (0, [])).2.getD d 0) (fst_ s n)) = [] := by
    cases ha : all g.prods w (.goal ((g.prods.getD p (0, [])).2.getD d 0) (fst_ s n)) with
    | nil => rfl
    | cons ks r =>
      exfalso
      exact h (lst_sound g.prods w _ (.goal ((g.prods.getD p (0, [])).2.getD d 0) (fst_ s n)) ⟨fit_fst hf.ab, by show s.a ≤ s.a + n; omega⟩ trivial (by show all g.prods w _ ≠ []; rw [ha]; simp))
  unfold ofN
  rw [this]; rfl
theorem take_nil_of {α : Type} {l : List α} {m : Nat} (hm : 0 < m) (h : l.take m = []) : l = [] := by
  rcases List.take_eq_nil_iff.1 h with h | h
  · omega
  · exact h
end Go.Proofs.Ytgfkkbpnphbdgaa.Dr

set_option linter.unusedVariables false
set_option linter.unusedSimpArgs false
namespace Go.Proofs.Ytgfkkbpnphbdgaa
open Go.RowKit
open Doc Dr

/-- The document's spans with the grammar that they were made of. -/
structure SpG (g : Gr) (u : List Int) (BS BH : Nat) (H : Sp.Key → Prop) (ap : Option Addr) (cp : Nat) (wa : Option Addr) (wc : Nat) (ls : List Lay) (W : World) : Prop where
  span : SpanAt W BS BH wa wc u H
  q : ∃ g1 g2, W.heap[BS]? = some (.cells #[g1, g2, .slice ap ls.length cp, .slice wa u.length wc, .map (some BH)] 115)
  prods : Cells W ap (lays ls)
  rows : ∀ p ∈ ls, Cells W p.addr (nums p.right)
  caps : ∀ p ∈ ls, p.right.length ≤ p.cap
  eq : ls.map Lay.plain = g.prods
theorem SpG.below {g : Gr} {u : List Int} {BS BH : Nat} {H : Sp.Key → Prop} {ap : Option Addr} {cp : Nat} {wa : Option Addr} {wc : Nat} {ls : List Lay} {W W' : World} (h : SpG g u BS BH H ap cp wa wc ls W) (hb : Below W.heap.size W W') : SpG g u BS BH H ap cp wa wc ls W' where
  span := h.span.below hb
  q := by obtain ⟨g1, g2, hq⟩ := h.q; exact ⟨g1, g2, (hb.block _ (heap_lt hq)).trans hq⟩
  prods := h.prods.below hb
  rows := fun p hp => (h.rows p hp).below hb
  caps := h.caps
  eq := h.eq
/-- What is asked of the grammar and the form. -/
structure OkT (g : Gr) (u : List Int) : Prop where
  six : Six g.prods
  len : g.prods.length ≤ 1000
  syms : ∀ p ∈ g.prods, ∀ s ∈ p.2, -1000000 ≤ s ∧ s < 108
  ul : u.length ≤ 12
  sym : ∀ x ∈ u, symB g x = true
theorem okT_of {g : Gr} {root : Int} {u : List Int} {m : Int} (h : AskP g root u m) : OkT g u := ⟨(okD_of h).six, (okD_of h).len, (okD_of h).syms, h.2.2.1, h.2.2.2.2.2⟩
def rls (l : List Tl) : List Value := l.map fun r => .slice r.a r.kids.length r.c
theorem rls_app (a b : List Tl) : rls (a ++ b) = rls a ++ rls b := by simp [rls]
theorem rls_at {l : List Tl} {j : Nat} {r : Tl} (h : l[j]? = some r) : (rls l)[j]? = some (.slice r.a r.kids.length r.c) := by simp [rls, h]
/-- How Trees ends: a row of trees in new memory. -/
def RTreesEnd (g : Gr) (u : List Int) (x : Int) (s : Spn) (most : Nat) (W : World) (e : Ending) (W' : World) : Prop :=
  Below W.heap.size W W' ∧ ∃ (a : Option Addr) (c : Nat) (ts : List Tl), e = .returned (.slice a ts.length c) ∧ Lies (fun b => W.heap.size ≤ b) W' (.mk 0 0 a c ts) ∧ ts.map (fun t => [t.plain]) = (all g.prods u (.goal x s)).take most
/-- How rows ends: rows of trees in new memory. -/
def RRowsEnd (g : Gr) (u : List Int) (p d : Nat) (s : Spn) (most : Nat) (W : World) (e : Ending) (W' : World) : Prop :=
  Below W.heap.size W W' ∧ ∃ (a : Option Addr) (c : Nat) (rs : List Tl), e = .returned (.slice a rs.length c) ∧ Cells W' a (rls rs) ∧ rs.length ≤ c ∧ (rs ≠ [] → ∀ x, a = some x → W.heap.size ≤ x.block) ∧ (∀ r ∈ rs, Lies (fun b => W.heap.size ≤ b) W' r) ∧ rs.map (fun r => r.kids.map Tl.plain) = (all g.prods u (.row p d s)).take most
/-- Blocks from a on, below b, are as they were. -/
def SegK (a b : Nat) (F W : World) : Prop := ∀ k, a ≤ k → k < b → W.heap[k]? = F.heap[k]?
theorem SegK.refl (a b : Nat) (W : World) : SegK a b W W := fun _ _ _ => rfl
theorem SegK.below {a b : Nat} {F W W' : World} (h : SegK a b F W) (hb : Below b W W') : SegK a b F W' := fun k h1 h2 => (hb.block k h2).trans (h k h1 h2)
theorem SegK.grown {a b : Nat} {F W W' : World} {r : Option Nat} (h : SegK a b F W) (hg : W.grownBy W' r) (hs : b ≤ W.heap.size) (hr : ∀ x, r = some x → x < a ∨ b ≤ x) : SegK a b F W' := fun k h1 h2 => (hg.block k (by omega) (fun e => by have := hr k e.symm; omega)).trans (h k h1 h2)
theorem Lies.seg {a : Nat} {F W : World} {t : Tl} (h : Lies (fun b => a ≤ b) F t) (hs : SegK a F.heap.size F W) (hz : F.heap.size ≤ W.heap.size) : Lies (fun b => a ≤ b ∧ b < F.heap.size) W t :=
  h.keep hz (fun b h1 h2 => hs b h1 h2) (fun b h1 h2 => ⟨h1, h2⟩)
/-- Trees in a row that grows. -/
structure OutT (B : Nat) (W : World) (rv : Value) (ks : List Tl) : Prop where
  own : W.ownsRow B 39 3 rv ks.length (tls ks)
  kids : ∀ t ∈ ks, Lies (fun b => B ≤ b ∧ rv.ownBlock ≠ some b) W t
theorem OutT.low {B : Nat} {W : World} {rv : Value} {ks : List Tl} (h : OutT B W rv ks) : ∀ x, rv.ownBlock = some x → B ≤ x ∧ x < W.heap.size := fun x hx => ⟨(own_block h.own hx).1, (own_block h.own hx).2.1⟩
theorem OutT.below {B : Nat} {W W' : World} {rv : Value} {ks : List Tl} (h : OutT B W rv ks) (hb : Below W.heap.size W W') : OutT B W' rv ks where
  own := own_same h.own fun x _ hl => hb.block x hl
  kids := fun t ht => (h.kids t ht).under hb
theorem OutT.grow {B g0 cap : Nat} {W W' : World} {rv : Value} {ks : List Tl} {t : Tl} (h : OutT B W rv ks) (ht : Lies (fun b => B ≤ b ∧ rv.ownBlock ≠ some b) W t)
    (ho : W'.ownsRow B 39 3 (.slice (some ⟨g0, 0, none⟩) (ks.length + 1) cap) (ks.length + 1) (tls (ks ++ [t]))) (hg : W.grownBy W' rv.ownBlock) (ha : rv.ownBlock = some g0 ∨ g0 = W.heap.size) : OutT B W' (.slice (some ⟨g0, 0, none⟩) (ks ++ [t]).length cap) (ks ++ [t]) := by
  have hlen : (ks ++ [t]).length = ks.length + 1 := by simp
  refine ⟨by rw [hlen]; exact ho, fun s hs => ?_⟩
  have key : Lies (fun b => B ≤ b ∧ rv.ownBlock ≠ some b) W s := by
    rcases List.mem_append.1 hs with hs | hs
    · exact h.kids s hs
    · rw [List.mem_singleton.1 hs]; exact ht
  refine key.keep hg.size (fun b hb hl => hg.block b hl (fun e => hb.2 e.symm)) (fun b hb hl => ⟨hb.1, fun e => ?_⟩)
  have e' : g0 = b := by simpa [Value.ownBlock] using e
  rcases ha with ha | ha
  · exact hb.2 (e' ▸ ha)
  · omega
/-- Rows in a row that grows. -/
structure OutR (B : Nat) (W : World) (rv : Value) (rs : List Tl) : Prop where
  own : W.ownsRow B 34 1 rv rs.length (rls rs)
  kids : ∀ t ∈ rs, Lies (fun b => B ≤ b ∧ rv.ownBlock ≠ some b) W t
theorem OutR.low {B : Nat} {W : World} {rv : Value} {ks : List Tl} (h : OutR B W rv ks) : ∀ x, rv.ownBlock = some x → B ≤ x ∧ x < W.heap.size := fun x hx => ⟨(own_block h.own hx).1, (own_block h.own hx).2.1⟩
theorem OutR.below {B : Nat} {W W' : World} {rv : Value} {ks : List Tl} (h : OutR B W rv ks) (hb : Below W.heap.size W W') : OutR B W' rv ks where
  own := own_same h.own fun x _ hl => hb.block x hl
  kids := fun t ht => (h.kids t ht).under hb
theorem OutR.grow {B g0 cap : Nat} {W W' : World} {rv : Value} {ks : List Tl} {t : Tl} (h : OutR B W rv ks) (ht : Lies (fun b => B ≤ b ∧ rv.ownBlock ≠ some b) W t)
    (ho : W'.ownsRow B 34 1 (.slice (some ⟨g0, 0, none⟩) (ks.length + 1) cap) (ks.length + 1) (rls (ks ++ [t]))) (hg : W.grownBy W' rv.ownBlock) (ha : rv.ownBlock = some g0 ∨ g0 = W.heap.size) : OutR B W' (.slice (some ⟨g0, 0, none⟩) (ks ++ [t]).length cap) (ks ++ [t]) := by
  have hlen : (ks ++ [t]).length = ks.length + 1 := by simp
  refine ⟨by rw [hlen]; exact ho, fun s hs => ?_⟩
  have key : Lies (fun b => B ≤ b ∧ rv.ownBlock ≠ some b) W s := by
    rcases List.mem_append.1 hs with hs | hs
    · exact h.kids s hs
    · rw [List.mem_singleton.1 hs]; exact ht
  refine key.keep hg.size (fun b hb hl => hg.block b hl (fun e => hb.2 e.symm)) (fun b hb hl => ⟨hb.1, fun e => ?_⟩)
  have e' : g0 = b := by simpa [Value.ownBlock] using e
  rcases ha with ha | ha
  · exact hb.2 (e' ▸ ha)
  · omega
theorem infoRowT : (Try.prog.info? 34).map (fun i => (i.zero, i.size, i.bytes)) = some (some (.slice none 0 0), 1, 24) := by kernel_rfl
/-- A row of one's own, handed out. -/
theorem out_lies {B : Nat} {W : World} {a : Option Addr} {c n : Nat} {ts : List Tl} (h : OutT B W (.slice a ts.length c) ts) (hn : n ≤ ts.length) : Lies (fun b => B ≤ b) W (.mk 0 0 a c (ts.take n)) := by
  have hc := own_cells h.own
  refine .mk ?_ (by rw [List.length_take]; omega) (fun hne x hx => ?_) (fun k hk => (h.kids k (List.mem_of_mem_take hk)).weak fun b hb _ => hb.1)
  · rcases hc.1 with h0 | ⟨b, off, e, hl, hcc⟩
    · refine .inl ?_
      have h1 := congrArg List.length h0
      rw [tls_len, List.length_nil] at h1
      have : ts = [] := List.eq_nil_of_length_eq_zero (by omega)
      subst this
      rw [List.take_nil]; rfl
    · refine .inr ⟨b, off, e, hl, fun j u hj => hcc j u ?_⟩
      have e1 : tls ts = tls (ts.take n) ++ tls (ts.drop n) := by rw [← tls_app, List.take_append_drop]
      rw [e1, List.getElem?_append_left (List.getElem?_eq_some_iff.1 hj).1]
      exact hj
  · exact (h.low x.block (by rw [hx]; rfl)).1
end Go.Proofs.Ytgfkkbpnphbdgaa

set_option linter.unusedVariables false
set_option linter.unusedSimpArgs false
namespace Go.Proofs.Ytgfkkbpnphbdgaa
open Go.RowKit
open Doc Dr

theorem Lies.root9 {P : Nat → Prop} {w : World} {s p s' p' : Int} {a : Option Addr} {c : Nat} {ks : List Tl} (h : Lies P w (.mk s p a c ks)) : Lies P w (.mk s' p' a c ks) := by
  cases h with
  | mk h1 h2 h3 h4 => exact .mk h1 h2 h3 h4
variable {g : Gr} {u : List Int} {BS BH : Nat} {H : Sp.Key → Prop} {ap : Option Addr} {cp : Nat} {wa : Option Addr} {wc : Nat} {ls : List Lay}
/-- What rows owes. -/
def RowsOwe (g : Gr) (u : List Int) (BS BH : Nat) (H : Sp.Key → Prop) (ap : Option Addr) (cp : Nat) (wa : Option Addr) (wc : Nat) (ls : List Lay) (p d : Nat) (s : Spn) (up : List Key) : Prop :=
  ∀ (most : Nat) (ra : Option Addr) (rn rc : Nat) (ua : Option Addr) (un uc : Nat) (W : World), 0 < most → most ≤ 200 → SpG g u BS BH H ap cp wa wc ls W → Cells W ra (nums ((g.prods.getD p (0, [])).2.drop d)) → rn = ((g.prods.getD p (0, [])).2.drop d).length → rn ≤ rc → UpAt W ua uc up → un = up.length →
    Calls Try.prog 59 #[.pointer (some ⟨BS, 0, none⟩), .slice ra rn rc, .int .i64 s.a, .int .i64 s.b, .int .i64 most, .slice ua un uc] W (RRowsEnd g u p d s most W)
def TreesOwe (g : Gr) (u : List Int) (BS BH : Nat) (H : Sp.Key → Prop) (ap : Option Addr) (cp : Nat) (wa : Option Addr) (wc : Nat) (ls : List Lay) (x : Int) (s : Spn) (up : List Key) : Prop :=
  ∀ (most : Nat) (ua : Option Addr) (un uc : Nat) (W : World), most ≤ 200 → SpG g u BS BH H ap cp wa wc ls W → UpAt W ua uc up → un = up.length →
    Calls Try.prog 44 #[.pointer (some ⟨BS, 0, none⟩), .int .i64 x, .int .i64 s.a, .int .i64 s.b, .int .i64 most, .slice ua un uc] W (RTreesEnd g u x s most W)
/-- A row of a production by its place. -/
theorem lay_get (hl : ls.map Lay.plain = g.prods) {k : Nat} {q : Lay} (hq : ls[k]? = some q) : g.prods.getD k (0, []) = (q.left, q.right) ∧ k < g.prods.length := by
  have h1 := (List.getElem?_eq_some_iff.1 hq).1
  have h2 : g.prods[k]? = some (q.left, q.right) := by rw [← hl, List.getElem?_map, hq]; rfl
  exact ⟨by rw [List.getD_eq_getElem?_getD, h2]; rfl, (List.getElem?_eq_some_iff.1 h2).1⟩
set_option maxRecDepth 100000 in
set_option maxHeartbeats 32000000 in
theorem docTrees_of (ok : OkT g u) (his : Sp.SpanIs g.prods u H) (x : Int) (s : Spn) (up : List Key) (hx : -1000000 ≤ x ∧ x < 108) (hs : InD u s) (hup : Ups up s) (hul : up.length ≤ 1000)
    (ihR : ∀ k, k < g.prods.length → (g.prods.getD k (0, [])).1 = x → hasA s.ab x = false → RowsOwe g u BS BH H ap cp wa wc ls k 0 ⟨s.a, s.b, withA s.ab x⟩ (up ++ [(x, s.a, s.b)])) :
    TreesOwe g u BS BH H ap cp wa wc ls x s up := by
  intro most ua un uc W hm hsp hu hun
  subst hun
  obtain ⟨i0, hi0, hz0, hz1, hz2⟩ := info_of infoK3
  obtain ⟨i1, hi1, hy0, hy1, hy2⟩ := info_of infoTq
  have HOK := Lib.hid ok
  have HIS := Lib.hid his
  have HIR := Lib.hid ihR
  have HUP := Lib.hid hup
  have HIN := Lib.hid hs
  have HFIT : Hid (Fit (.goal x s)) := Lib.hid ⟨hs.ab, hs.le⟩
  have HSP := Lib.hid hsp
  have HU := Lib.hid hu
  have hu12 := ok.ul
  have hab := hs.le
  have hbu := hs.hi
  have hllen : ls.length ≤ 1000 := by have h1 := ok.len; rw [← hsp.eq, List.length_map] at h1; exact h1
  have hwin : Hid (x ∈ u → 1 ≤ x) := Lib.hid fun h => by have := (symB_iff g x).1 (ok.sym x h); unfold symOk at this; omega
  obtain ⟨a, b, ab⟩ := s
  simp only at hab hbu
  clear ok his ihR hup hs hsp hu
  unfold RTreesEnd
  go_enter Try.func44, Try.ntmps44
  go_upto_region 2 with fail
  go_cut [35] from 21 to 35 (fun cv wx => cv = .bool (isLf u x ⟨a, b, ab⟩) ∧ wx = W)
  case first =>
    by_cases hba : b = a + 1
    · have e1 : ((b : Int) == (a : Int) + 1) = true := by simp; omega
      obtain ⟨y, hy⟩ : ∃ y, u[a]? = some y := ⟨_, List.getElem?_eq_getElem (by omega)⟩
      obtain ⟨rb, ro, rfl, hrb, hrc⟩ := HSP.out.span.row.get (by unfold nums; intro e; rw [List.map_eq_nil_iff] at e; rw [e] at hy; simp at hy)
      have u0 := hrc a _ (nums_at hy)
      obtain ⟨g1, g2, hq⟩ := HSP.out.q
      have z3 := (blk_cell (i := 3) hq rfl).1
      have lz := heap_lt hq
      have e2 : (a : Int) < u.length := by omega
      by_cases hyx : y = x
      · have e3 : (y == x) = true := beq_iff_eq.2 hyx
        have hlf : isLf u x ⟨a, b, ab⟩ = true := decide_eq_true ⟨hba, by rw [hy, hyx]⟩
        clear hq hrc hy hyx hba
        go_wp2
        go_meet
        case rel => exact ⟨by rw [hlf], rfl⟩
      · have e3 : (y == x) = false := beq_eq_false_iff_ne.2 hyx
        have hlf : isLf u x ⟨a, b, ab⟩ = false := decide_eq_false (fun h => by have := h.2; simp only at this; rw [hy] at this; injection this with this; exact hyx this)
        clear hq hrc hy hyx hba
        go_wp2
        go_meet
        case rel => exact ⟨by rw [hlf], rfl⟩
    · have e1 : ((b : Int) == (a : Int) + 1) = false := by simp; omega
      have hlf : isLf u x ⟨a, b, ab⟩ = false := decide_eq_false (fun h => hba h.1)
      clear hba
      go_wp2
      go_meet
      case rel => exact ⟨by rw [hlf], rfl⟩
  case rest =>
  obtain ⟨rfl, hwx⟩ := hcut
  obtain rfl := hwx.symm
  cases hlf : isLf u x ⟨a, b, ab⟩
  · have HLF := Lib.hid hlf
    clear hlf
    go_upto_region 4 with fail
    obtain ⟨S, hS⟩ : ∃ S, S = W := ⟨_, rfl⟩
    have HBS := Lib.hid (Below.refl W.heap.size W)
    have HSPS := Lib.hid (HSP.out.below HBS.out)
    have HUS := Lib.hid (HU.out.below HBS.out)
    have HBK := Lib.hid (box_belowT W (.cells #[.int .i64 x, .int .i64 a, .int .i64 b] 97))
    have HQK := Lib.hid (heap_alloc_new W (.cells #[.int .i64 x, .int .i64 a, .int .i64 b] 97))
    have HBSK := Lib.hid (HBS.out.trans (HBK.out.mono HBS.out.size))
    have HSPK := Lib.hid (HSPS.out.below HBK.out)
    have HUK := Lib.hid (HUS.out.below HBK.out)
    have HSZK := Lib.hid HBSK.out.size
    go_upto_region 5 with fail
    generalize hSK : W.alloc (.cells #[.int .i64 x, .int .i64 a, .int .i64 b] 97) = SK at *
    clear hSK
    go_wp2
    go_loopw [47] (fun iv wr => ∃ k : Nat, iv = .int .i64 k ∧ k ≤ up.length ∧ Hid ((x, a, b) ∉ up.take k) ∧ Hid (Below SK.heap.size SK wr)) (fun iv _ => up.length - (intOf iv).toNat)
    case atStart => exact ⟨0, rfl, by omega, Lib.hid (by simp), Lib.hid (Below.refl _ _)⟩
    case round =>
      obtain ⟨k, rfl, hk, HNO, HBR⟩ := hrel
      have qk := (HBR.out.block W.heap.size (heap_lt HQK.out)).trans HQK.out
      have k0 := (blk_cell (i := 0) qk rfl).1
      have k1 := (blk_cell (i := 1) qk rfl).1
      have k2 := (blk_cell (i := 2) qk rfl).1
      have lk := heap_lt qk
      have HUR := Lib.hid (HUK.out.below HBR.out)
      by_cases hkl : k < up.length
      · obtain ⟨⟨y1, y2, y3⟩, hy⟩ : ∃ y, up[k]? = some y := ⟨_, List.getElem?_eq_getElem hkl⟩
        obtain ⟨bb, off, rfl, hb, x0, x1, x2⟩ := HUR.out.get hy
        simp only at x0 x1 x2
        have e1 : (k : Int) < up.length := by omega
        obtain ⟨r, hr⟩ : ∃ r, ((y1 == x) && (((y2 : Int) == (a : Int)) && ((y3 : Int) == (b : Int)))) = r := ⟨_, rfl⟩
        have hq1 : ∀ W, (binOp .eql 97 (.agg #[.int .i64 y1, .int .i64 y2, .int .i64 y3]) (.agg #[.int .i64 x, .int .i64 a, .int .i64 b])).run Try.prog W = .ok (.bool r) W := fun W => by rw [← hr]; exact eql3 _ _ _ _ _ _ W
        have hq2 : ∀ W, (Op.equalIn 10000 97 (.agg #[.int .i64 y1, .int .i64 y2, .int .i64 y3]) (.agg #[.int .i64 x, .int .i64 a, .int .i64 b])).run Try.prog W = .ok r W := fun W => by rw [← hr]; exact equal3 9998 _ _ _ _ _ _ W
        have HR := Lib.hid hr
        have HY := Lib.hid hy
        have HKL := Lib.hid hkl
        have HBA := Lib.hid (HBR.out.trans ((box_belowT wr (.cells #[.int .i64 y1, .int .i64 y2, .int .i64 y3] 97)).mono HBR.out.size))
        clear hr hy hkl qk
        cases r
        · go_wp2
          refine ⟨⟨k + 1, by go_num, by have := HKL.out; omega, Lib.hid ?_, HBA⟩, by have := HKL.out; simp [intOf]; omega⟩
          rw [List.take_add_one, HY.out]
          intro hm
          rcases List.mem_append.1 hm with hm | hm
          · exact HNO.out hm
          · have := List.mem_singleton.1 hm
            injection this with h1 h2
            injection h2 with h2 h3
            have hr := HR.out
            subst h1; subst h2; subst h3
            simp at hr
        · go_wp2
          go_ret
          have hr := HR.out
          rw [Bool.and_eq_true, Bool.and_eq_true, beq_iff_eq, beq_iff_eq, beq_iff_eq] at hr
          have hmem : (x, a, b) ∈ up := by
            have := List.mem_of_getElem? HY.out
            rwa [show y1 = x from hr.1, show y2 = a by omega, show y3 = b by omega] at this
          have hhit := (HUP.out.has x).2 hmem
          refine ⟨HBSK.out.trans (HBA.out.mono HSZK.out), none, 0, [], rfl, Lies.leaf _ _ _ _ _ _, ?_⟩
          rw [goal_hit g u HOK.out.six HFIT.out hhit]; simp
      · have e1 : ¬ (k : Int) < up.length := by omega
        have HNX := Lib.hid (show (x, a, b) ∉ up by have := HNO.out; rwa [List.take_of_length_le (by omega)] at this)
        have HHA : Hid (hasA ab x = false) := Lib.hid (by
          cases h : hasA ab x with
          | false => rfl
          | true => exact absurd ((HUP.out.has x).1 h) HNX.out)
        have HPARTS := Lib.hid (goal_parts g u HOK.out.six HOK.out.sym HUP.out HFIT.out hbu HHA.out)
        have HSPR := Lib.hid (HSPK.out.below HBR.out)
        have HBW := Lib.hid (HBSK.out.trans (HBR.out.mono HSZK.out))
        have HSZR := Lib.hid (Nat.le_trans HSZK.out HBR.out.size)
        have HQKR := Lib.hid qk
        clear hkl HNO HNX HSPK HUK HQK HBSK HBK HSPS HUS qk hk
        go_upto_region 11 with fail
        rename World => S3
        obtain ⟨g1, g2, hqs⟩ := HSPR.out.q
        have z4 := (blk_cell (i := 4) hqs rfl).1
        have lz := heap_lt hqs
        obtain ⟨b1, hb1, hl1⟩ := HSPR.out.span.m.look_all key_three code3_inj Try.underlying113 zeroBool (q := (x, a, b)) (code3_key (by omega) (by omega) (by omega) (by omega))
        have hl2 : ∀ n, (Instr.lookup 113 (.map (some BH)) (.agg #[.int .i64 x, .int .i64 a, .int .i64 b]) false).run Try.prog (S3.drewN n) = .ok (.bool b1) (S3.drewN n) := fun n => hl1 _ rfl
        have HB1 := Lib.hid hb1
        have HQS := Lib.hid hqs
        clear hl1 hb1 hqs
        cases b1
        · have HTN := Lib.hid (tail_none g u HOK.out.six HFIT.out (fun h => by
            have h2 := (HIS.out x a b).2 ⟨hab, hbu, h⟩
            have := HB1.out.2 h2
            cases this))
          have HALL0 := Lib.hid (show all g.prods u (.goal x ⟨a, b, ab⟩) = [] by rw [HPARTS.out, HTN.out]; unfold leafP; rw [HLF.out]; rfl)
          have e4 : ¬ ((most : Int) < 0) := by omega
          have e5 : min (0 : Int) (most : Int) = 0 := by omega
          go_upto_if 61 with (go_quiet (fail))
          go_wp2
          go_ret
          exact ⟨below_drews2 HBW.out _, none, 0, [], rfl, Lies.leaf _ _ _ _ _ _, by rw [HALL0.out]; simp⟩
        · go_upto_if 61 with (go_quiet (fail))
          go_upto_region 13 with fail
          have HB5 := Lib.hid (below_drews2 HBW.out nq)
          have HSP5 := Lib.hid (HSPR.out.below (below_drews2 (Below.refl _ _) nq))
          have HUR5 := Lib.hid (HUR.out.below (below_drews2 (Below.refl _ _) nq))
          have HQK5 := Lib.hid (show (S3.drewN nq).heap[W.heap.size]? = _ from HQKR.out)
          have HZ5 := Lib.hid (show W.heap.size ≤ (S3.drewN nq).heap.size from HSZR.out)
          clear HSPR HUR HQKR HSZR HBW k0 k1 k2 lk z4 lz hl2 HQS HB1
          generalize S3.drewN nq = S5 at *
          have k0 := (blk_cell (i := 0) HQK5.out rfl).1
          have k1 := (blk_cell (i := 1) HQK5.out rfl).1
          have k2 := (blk_cell (i := 2) HQK5.out rfl).1
          have lk := heap_lt HQK5.out
          have hulk : up.length + 1 ≤ maxLen := by unfold maxLen; omega
          have hulb2 : (up.length + 1) * 24 ≤ 140737488355328 := by omega
          have hnn : ua = none → up.length = 0 ∧ up.length = 0 := fun e => by have h1 := HUR5.out.none_ e; have h2 := HUR5.out.cap; omega
          have hcapu := HUR5.out.cap
          go_cut [5] from 68 to 76 (fun pv wx => ∃ (a' : Option Addr) (c' : Nat), pv = .slice a' (up.length + 1) c' ∧ Hid (Below S5.heap.size S5 wx) ∧ Hid (UpAt wx a' c' (up ++ [(x, a, b)])))
          case first =>
            go_region_law (refine step_append_grows ?_ (.tmp 73) (.tmp 75) 96 ?_ 97 i0 (.agg #[.int .i64 0, .int .i64 0, .int .i64 0]) 3 24 Try.underlying96 hi0 hz0 hz1 hz2 rfl (by decide) ua up.length up.length (keys up) ?_ hnn (keys_len up) ?_ ⟨S5.heap.size, 0, none⟩ 1 1 [.int .i64 x, .int .i64 a, .int .i64 b] ?_ rfl ?_ ?_ (by omega) hulk hulb2 ?_; (rfl); (rfl); (rfl); (exact (HUR5.out.below ((Below.refl S5.heap.size S5).drew.alloc (Nat.le_refl _) _)).olds); (rfl); (exact World.news_of_block (cs := #[.int .i64 x, .int .i64 a, .int .i64 b]) (t := 97) (fr := (0, 0)) (heap_alloc_new S5.drew (.cells #[.int .i64 x, .int .i64 a, .int .i64 b] 97))); (simp [Value.oneCell']); intro v' w' hown hgrow)
            all_goals
              have hup := upAt_of (up := up ++ [(x, a, b)]) (by rw [keys_app]; exact hown) (by simp)
              rw [List.length_append, List.length_singleton] at hup
              obtain ⟨a', c', rfl, hup⟩ := hup
              have hbu := ((Below.refl S5.heap.size S5).drew.alloc (Nat.le_refl _) (.cells #[.int .i64 x, .int .i64 a, .int .i64 b] 97)).grown hgrow (by simp) (fun k hk => by cases hk)
              clear hown hgrow
              go_wp2
              go_meet
              case rel => exact ⟨a', c', rfl, Lib.hid hbu, Lib.hid hup⟩
          case rest =>
          obtain ⟨a', c', rfl, HB45, HU4⟩ := hcut
          rename World => S4
          have HB4 := Lib.hid (HB5.out.trans (HB45.out.mono HZ5.out))
          have HSP4 := Lib.hid (HSP5.out.below HB45.out)
          have HZ4 := Lib.hid (Nat.le_trans HZ5.out HB45.out.size)
          clear HB45 HB5 HSP5 HZ5 HUR5 HQK5 k0 k1 k2 lk hulk hulb2 hnn hcapu
          obtain ⟨g1, g2, hqs⟩ := HSP4.out.q
          have z2 := (blk_cell (i := 2) hqs rfl).1
          have lz := heap_lt hqs
          clear hqs
          go_wp2
          clear z2 lz
          go_loopw [13, 83] (fun ov iv wr => ∃ (n : Nat) (oa : Option Addr) (oc : Nat) (ts : List Tl), ov = .slice oa ts.length oc ∧ iv = .int .i64 n ∧ n ≤ ls.length ∧ ts.length ≤ most ∧ Hid (OutT S4.heap.size wr (.slice oa ts.length oc) ts) ∧ Hid (ts.map (fun t => [t.plain]) = (gHead g u x ⟨a, b, withA ab x⟩ n).take most) ∧ Hid (Below S4.heap.size S4 wr)) (fun _ iv _ => ls.length - (intOf iv).toNat)
          case atStart => exact ⟨0, none, 0, [], rfl, rfl, by omega, by simp, Lib.hid ⟨World.ownsRow_nil _ _ _ _, fun t ht => by cases ht⟩, Lib.hid (by simp [gHead_zero]), Lib.hid (Below.refl _ _)⟩
          case round =>
            obtain ⟨n, oa, oc, ts, rfl, rfl, hn, htm, HOT, HPL, HBR⟩ := hrel
            have HSR := Lib.hid (HSP4.out.below HBR.out)
            have HWR := Lib.hid (HB4.out.trans (HBR.out.mono HZ4.out))
            have HZR := Lib.hid HBR.out.size
            by_cases hnl : n < ls.length
            · obtain ⟨q, hq⟩ : ∃ q, ls[n]? = some q := ⟨_, List.getElem?_eq_getElem hnl⟩
              obtain ⟨bp, op, rfl, hbp, hcp⟩ := HSR.out.prods.get (by intro e; have := (lays_at ls n _ hq).1; rw [e] at this; simp at this)
              have x0 := hcp _ _ (lays_at ls n _ hq).1
              have x1 := hcp _ _ (lays_at ls n _ hq).2
              rw [← Nat.add_assoc] at x1
              obtain ⟨hgq, hnp⟩ := lay_get HSR.out.eq hq
              have hrow := HSR.out.rows q (List.mem_of_getElem? hq)
              have hrcap := HSR.out.caps q (List.mem_of_getElem? hq)
              have hq6 : q.right.length ≤ 6 := by have := HOK.out.six.len n; rw [hgq] at this; exact this
              obtain ⟨pl, pr, pra, prc⟩ := q
              simp only at x0 x1 hgq hrow hrcap hq6
              have e1 : (n : Int) < ls.length := by omega
              have hbx := box_belowT wr (.cells #[.int .i64 pl, .slice pra pr.length prc] 63)
              have HQP := Lib.hid (heap_alloc_new wr (.cells #[.int .i64 pl, .slice pra pr.length prc] 63))
              have HOT2 := Lib.hid (HOT.out.below hbx)
              have HB2 := Lib.hid (HBR.out.trans (hbx.mono HZR.out))
              have HS2 := Lib.hid (HSR.out.below hbx)
              have HU2 := Lib.hid (HU4.out.below HB2.out)
              have HZ2 := Lib.hid HB2.out.size
              have HRW := Lib.hid (hrow.below hbx)
              have HROWC := Lib.hid hrcap
              have HG := Lib.hid hgq
              have HNP := Lib.hid hnp
              have HNL := Lib.hid hnl
              have HSTEP := Lib.hid (gHead_step g u x ⟨a, b, withA ab x⟩ n)
              clear hcp hq hgq hnp hrow hrcap hbx hnl
              go_upto_region 17 with fail
              generalize wr.alloc (.cells #[.int .i64 pl, .slice pra pr.length prc] 63) = W2 at *
              generalize wr.heap.size = PB at *
              clear x0 x1 hbp
              have p0 := (blk_cell (i := 0) HQP.out rfl).1
              have p1 := (blk_cell (i := 1) HQP.out rfl).1
              have lp := heap_lt HQP.out
              by_cases hpx : pl = x
              · have e3 : (pl == x) = true := beq_iff_eq.2 hpx
                have e4 : (pl != x) = false := by rw [bne, e3]; rfl
                have HOFP := Lib.hid (show ofP g.prods u x ⟨a, b, withA ab x⟩ n = (all g.prods u (.row n 0 ⟨a, b, withA ab x⟩)).map fun ks => [.mk x n ks] by unfold ofP; rw [HG.out, if_pos hpx])
                by_cases hfull : most ≤ ts.length
                · have e5 : (most : Int) ≤ ts.length := by omega
                  have HP2 := Lib.hid (show ts.map (fun t => [t.plain]) = (gHead g u x ⟨a, b, withA ab x⟩ (n + 1)).take most by
                    rw [HSTEP.out, take_skip (by rw [← HPL.out, List.length_map]; exact hfull)]; exact HPL.out)
                  clear hpx hfull
                  go_wp2
                  exact ⟨⟨n + 1, oa, oc, ts, rfl, by go_num, by have := HNL.out; omega, htm, HOT2, HP2, HB2⟩, by have := HNL.out; simp [intOf]; omega⟩
                · have e5 : ¬ (most : Int) ≤ ts.length := by omega
                  obtain ⟨mr, hmr⟩ : ∃ mr, most - ts.length = mr := ⟨_, rfl⟩
                  have hmr2 : (most : Int) - (ts.length : Int) = (mr : Int) := by omega
                  have hwm : IntKind.i64.wrap ((most : Int) - (ts.length : Int)) = (mr : Int) := by rw [hmr2]; exact IntWalk.i64_in _ (by omega)
                  have hcall := HIR.out n HNP.out (by rw [HG.out]; exact hpx) HHA.out mr pra pr.length prc a' (up.length + 1) c' W2 (by omega) (by omega) HS2.out (by rw [HG.out]; exact HRW.out) (by rw [HG.out]; rfl) HROWC.out HU2.out (by simp)
                  unfold RRowsEnd at hcall
                  simp only at hcall
                  replace hcall := Lib.hid hcall
                  have HMR := Lib.hid hmr
                  have HMR0 := Lib.hid (show 0 < mr by omega)
                  have hmr3 : ts.length + mr ≤ 200 := by omega
                  clear hpx hfull hmr hmr2
                  go_wp2_with (go_at_call 59; (with_reducible refine hcall.out.mono ?_); rintro e F ⟨hbF, ra, rc, rs, rfl, hcr, hrc, hrb, hlr, hpr⟩)
                  have HB5 := Lib.hid (HB2.out.trans (hbF.mono HZ2.out))
                  have HOT5 := Lib.hid (HOT2.out.below hbF)
                  have HOW0 := Lib.hid fun z hz => (HOT2.out.low z hz).2
                  have hrsl : rs.length ≤ mr := by have h1 := congrArg List.length hpr; rw [List.length_map, List.length_take] at h1; omega
                  have HCR := Lib.hid hcr
                  have HRB := Lib.hid hrb
                  have HLR := Lib.hid hlr
                  have HPR := Lib.hid hpr
                  have HZF := Lib.hid (Nat.le_trans HZ2.out hbF.size)
                  clear hbF hcr hrb hlr hpr hcall p0 p1 lp e5 hwm
                  go_loopw [13, 110] (fun ov qv wq => ∃ (q : Nat) (oa' : Option Addr) (oc' : Nat) (ts' : List Tl), ov = .slice oa' ts'.length oc' ∧ qv = .int .i64 q ∧ q ≤ rs.length ∧ Hid (ts'.length = ts.length + q) ∧ Hid (ts'.map (fun t => [t.plain]) = ts.map (fun t => [t.plain]) ++ ((rs.take q).map fun r => [Tr.mk x n (r.kids.map Tl.plain)])) ∧ Hid (OutT S4.heap.size wq (.slice oa' ts'.length oc') ts') ∧ Hid (Below S4.heap.size S4 wq) ∧ Hid (SegK W2.heap.size F.heap.size F wq) ∧ Hid (F.heap.size ≤ wq.heap.size) ∧ Hid (∀ z, (Value.slice oa' ts'.length oc').ownBlock = some z → z < W2.heap.size ∨ F.heap.size ≤ z)) (fun _ qv _ => rs.length - (intOf qv).toNat)
                  case atStart => exact ⟨0, oa, oc, ts, rfl, rfl, by omega, Lib.hid rfl, Lib.hid (by simp), HOT5, HB5, Lib.hid (SegK.refl _ _ _), Lib.hid (Nat.le_refl _), Lib.hid fun z hz => .inl (HOW0.out z hz)⟩
                  case round =>
                    obtain ⟨q, oa', oc', ts', rfl, rfl, hq, HLEN, HPL', HOT', HBQ, HSEG, HZQ, HOW⟩ := hrel
                    have htl : ts'.length ≤ 200 := by have := HLEN.out; omega
                    by_cases hql : q < rs.length
                    · obtain ⟨r, hr⟩ : ∃ r, rs[q]? = some r := ⟨_, List.getElem?_eq_getElem hql⟩
                      have hrne : rs ≠ [] := by intro e; rw [e] at hql; simp at hql
                      obtain ⟨rb, ro, rfl, hrbl, hrc9⟩ := HCR.out.get (by intro e; have := rls_at hr; rw [e] at this; simp at this)
                      have hrbW : W2.heap.size ≤ rb := HRB.out hrne _ rfl
                      have x0 := (World.cell?_of_block (w := F) (a := ⟨rb, ro + q, none⟩) (HSEG.out rb hrbW hrbl)).trans (hrc9 q _ (rls_at hr))
                      have hrbq : rb < wr.heap.size := Nat.lt_of_lt_of_le hrbl HZQ.out
                      have hli := (HLR.out r (List.mem_of_getElem? hr)).seg HSEG.out HZQ.out
                      obtain ⟨r1, r2, r3, r4, rk⟩ := r
                      have HTK := Lib.hid (show (rs.take (q + 1)).map (fun r => [Tr.mk x n (r.kids.map Tl.plain)]) = (rs.take q).map (fun r => [Tr.mk x n (r.kids.map Tl.plain)]) ++ [[Tr.mk x n (rk.map Tl.plain)]] from map_take_succ (f := fun r => [Tr.mk x n (r.kids.map Tl.plain)]) hr)
                      simp only [Tl.a, Tl.kids, Tl.c] at x0
                      have e6 : (q : Int) < rs.length := by omega
                      have hbx := box_belowT wr (.cells #[.int .i64 x, .int .i64 n, .slice r3 rk.length r4] 39)
                      have HOTA := Lib.hid (HOT'.out.below hbx)
                      have HLT := Lib.hid (((hli.root9 (s' := x) (p' := n)).under hbx).weak (Q := fun b => S4.heap.size ≤ b ∧ (Value.slice oa' ts'.length oc').ownBlock ≠ some b) fun b hb _ => ⟨by have := HZ2.out; omega, fun e => by have := HOW.out b e; omega⟩)
                      have HBA := Lib.hid (HBQ.out.trans (hbx.mono HBQ.out.size))
                      have HSA := Lib.hid (HSEG.out.below (hbx.mono HZQ.out))
                      have HZA := Lib.hid (Nat.le_trans HZQ.out hbx.size)
                      have HNEW := Lib.hid (heap_alloc_new wr (.cells #[.int .i64 x, .int .i64 n, .slice r3 rk.length r4] 39))
                      have hsz4 : S4.heap.size ≤ wr.heap.size := HBQ.out.size
                      have HQL := Lib.hid hql
                      clear hr hrc9 hli hbx hql hrne
                      go_wp2_with (at_builtin; refine wpList_append_lies _ rfl (.tmp 114) (.tmp 119) 34 rfl S4.heap.size 39 i1 (.agg #[.int .i64 0, .int .i64 0, .slice none 0 0]) 3 40 Try.underlying34 hi1 hy0 hy1 hy2 rfl (by decide) (.slice oa' ts'.length oc') ts'.length (tls ts') rfl HOTA.out.own ⟨wr.heap.size, 0, none⟩ 1 1 [.int .i64 x, .int .i64 n, .slice r3 rk.length r4] rfl rfl (World.news_of_block (cs := #[.int .i64 x, .int .i64 n, .slice r3 rk.length r4]) (t := 39) (fr := (0, 0)) HNEW.out) (by simp [Value.oneCell']) (by decide) (by unfold maxLen; omega) (by omega) (by simp; omega) (wr.heap.size + 1) (by simp) ?_; intro gg9 cap9 w8 hown8 hgrow8 hat8 hlt8)
                      have hlen2 : (ts' ++ [Tl.mk x n r3 r4 rk]).length = ts'.length + 1 := by simp
                      have hout8 := HOTA.out.grow HLT.out (by rw [tls_app]; exact hown8) hgrow8 (by rcases hat8 with h | h; exact .inl h; exact .inr (by rw [h]; simp))
                      have hown9 : ∀ z, (Value.slice oa' ts'.length oc').ownBlock = some z → S4.heap.size ≤ z ∧ (z < W2.heap.size ∨ F.heap.size ≤ z) := fun z hz => ⟨(HOTA.out.low z hz).1, HOW.out z hz⟩
                      refine ⟨⟨q + 1, some ⟨gg9, 0, none⟩, cap9, ts' ++ [Tl.mk x n r3 r4 rk], by rw [hlen2], by go_num, by have := HQL.out; omega, Lib.hid (by rw [hlen2]; have := HLEN.out; omega), Lib.hid ?_, Lib.hid hout8, Lib.hid (HBA.out.grown hgrow8 (by simp; omega) (fun z hz => (hown9 z hz).1)), Lib.hid (HSA.out.grown hgrow8 HZA.out (fun z hz => (hown9 z hz).2)), Lib.hid (Nat.le_trans HZA.out hgrow8.size), Lib.hid fun z hz => ?_⟩, by have := HQL.out; simp [intOf]; omega⟩
                      · rw [List.map_append, HPL'.out, HTK.out, List.append_assoc, List.map_cons, List.map_nil, Tl.plain_mk]
                      · have e' : gg9 = z := by simpa [Value.ownBlock] using hz
                        subst e'
                        rcases hat8 with h | h
                        · exact HOW.out _ h
                        · exact .inr (by have := HZQ.out; omega)
                    · have e6 : ¬ (q : Int) < rs.length := by omega
                      have HP2 := Lib.hid (show ts'.map (fun t => [t.plain]) = (gHead g u x ⟨a, b, withA ab x⟩ (n + 1)).take most by
                        have hgl : (gHead g u x ⟨a, b, withA ab x⟩ n).length = ts.length := by
                          have h1 := congrArg List.length HPL.out
                          rw [List.length_map, List.length_take] at h1
                          have h2 := HMR.out
                          have h3 := HMR0.out
                          omega
                        have hfull2 : (rs.take q).map (fun r => [Tr.mk x n (r.kids.map Tl.plain)]) = ((all g.prods u (.row n 0 ⟨a, b, withA ab x⟩)).take mr).map fun ks => [Tr.mk x n ks] := by
                          rw [List.take_of_length_le (by omega), ← HPR.out, List.map_map]; rfl
                        rw [HPL'.out, HPL.out, hfull2, HSTEP.out, List.take_append, HOFP.out, ← List.map_take, hgl, HMR.out])
                      have htm2 : ts'.length ≤ most := by have h1 := HLEN.out; have h2 := HMR.out; have h3 := HMR0.out; omega
                      clear hql
                      go_wp2
                      exact ⟨⟨n + 1, oa', oc', ts', rfl, by go_num, by have := HNL.out; omega, htm2, HOT', HP2, HBQ⟩, by have := HNL.out; simp [intOf]; omega⟩
              · have e3 : (pl == x) = false := beq_eq_false_iff_ne.2 hpx
                have e4 : (pl != x) = true := by rw [bne, e3]; rfl
                have HP2 := Lib.hid (show ts.map (fun t => [t.plain]) = (gHead g u x ⟨a, b, withA ab x⟩ (n + 1)).take most by
                  have : ofP g.prods u x ⟨a, b, withA ab x⟩ n = [] := by unfold ofP; rw [HG.out, if_neg hpx]
                  rw [HSTEP.out, this, List.append_nil]; exact HPL.out)
                clear hpx
                go_wp2
                exact ⟨⟨n + 1, oa, oc, ts, rfl, by go_num, by have := HNL.out; omega, htm, HOT2, HP2, HB2⟩, by have := HNL.out; simp [intOf]; omega⟩
            · have e1 : ¬ (n : Int) < ls.length := by omega
              have hng : n = g.prods.length := by rw [← HSR.out.eq, List.length_map]; omega
              have HEND := Lib.hid (show ts.map (fun t => [t.plain]) = (all g.prods u (.goal x ⟨a, b, ab⟩)).take most by
                rw [HPARTS.out, show leafP u x ⟨a, b, ab⟩ = [] by unfold leafP; rw [HLF.out]; rfl, List.nil_append, ← gHead_all, ← hng]; exact HPL.out)
              have e2 : ¬ ((most : Int) < ts.length) := by omega
              have hocc := (own_cells HOT.out.own).2
              have HLIE := Lib.hid (out_lies (n := ts.length) HOT.out (Nat.le_refl _))
              rw [List.take_length] at HLIE
              clear hnl hng HPL
              go_wp2
              go_ret
              exact ⟨HWR.out, oa, oc, ts, rfl, HLIE.out.weak fun b hb _ => Nat.le_trans HZ4.out hb, HEND.out⟩

  · have HLF := Lib.hid hlf
    clear hlf
    go_upto_region 4 with (at_builtin; refine wpList_append_lies _ rfl (.tmp 36) (.tmp 39) 34 rfl W.heap.size 39 i1 (.agg #[.int .i64 0, .int .i64 0, .slice none 0 0]) 3 40 Try.underlying34 hi1 hy0 hy1 hy2 rfl (by decide) (.slice none 0 0) 0 [] rfl (World.ownsRow_nil _ _ _ _) ⟨W.heap.size, 0, none⟩ 1 1 [.int .i64 x, .int .i64 (-1), .slice none 0 0] rfl rfl (World.news_of_block (cs := #[.int .i64 x, .int .i64 (-1), .slice none 0 0]) (t := 39) (fr := (0, 0)) (heap_alloc_new W (.cells #[.int .i64 x, .int .i64 (-1), .slice none 0 0] 39))) (by simp [Value.oneCell']) (by decide) (by unfold maxLen; omega) (by omega) (by simp) (W.heap.size + 1) (by simp) ?_; intro gg cap S hown hgrow hat hlt)
    have HBS := Lib.hid ((box_belowT W (.cells #[.int .i64 x, .int .i64 (-1), .slice none 0 0] 39)).grown hgrow (by simp) (fun k hk => by cases hk))
    have HOL : Hid (OutT W.heap.size S (.slice (some ⟨gg, 0, none⟩) 1 cap) [.mk x (-1) none 0 []]) := Lib.hid ⟨hown, fun t ht => by rw [List.mem_singleton.1 ht]; exact Lies.leaf _ _ _ _ _ _⟩
    clear hown hgrow hat hlt
    have HSPS := Lib.hid (HSP.out.below HBS.out)
    have HUS := Lib.hid (HU.out.below HBS.out)
    have HBK := Lib.hid (box_belowT S (.cells #[.int .i64 x, .int .i64 a, .int .i64 b] 97))
    have HQK := Lib.hid (heap_alloc_new S (.cells #[.int .i64 x, .int .i64 a, .int .i64 b] 97))
    have HBSK := Lib.hid (HBS.out.trans (HBK.out.mono HBS.out.size))
    have HSPK := Lib.hid (HSPS.out.below HBK.out)
    have HUK := Lib.hid (HUS.out.below HBK.out)
    have HSZK := Lib.hid HBSK.out.size
    go_upto_region 5 with fail
    generalize hSK : S.alloc (.cells #[.int .i64 x, .int .i64 a, .int .i64 b] 97) = SK at *
    clear hSK
    go_wp2
    go_loopw [47] (fun iv wr => ∃ k : Nat, iv = .int .i64 k ∧ k ≤ up.length ∧ Hid ((x, a, b) ∉ up.take k) ∧ Hid (Below SK.heap.size SK wr)) (fun iv _ => up.length - (intOf iv).toNat)
    case atStart => exact ⟨0, rfl, by omega, Lib.hid (by simp), Lib.hid (Below.refl _ _)⟩
    case round =>
      obtain ⟨k, rfl, hk, HNO, HBR⟩ := hrel
      have qk := (HBR.out.block S.heap.size (heap_lt HQK.out)).trans HQK.out
      have k0 := (blk_cell (i := 0) qk rfl).1
      have k1 := (blk_cell (i := 1) qk rfl).1
      have k2 := (blk_cell (i := 2) qk rfl).1
      have lk := heap_lt qk
      have HUR := Lib.hid (HUK.out.below HBR.out)
      by_cases hkl : k < up.length
      · obtain ⟨⟨y1, y2, y3⟩, hy⟩ : ∃ y, up[k]? = some y := ⟨_, List.getElem?_eq_getElem hkl⟩
        obtain ⟨bb, off, rfl, hb, x0, x1, x2⟩ := HUR.out.get hy
        simp only at x0 x1 x2
        have e1 : (k : Int) < up.length := by omega
        obtain ⟨r, hr⟩ : ∃ r, ((y1 == x) && (((y2 : Int) == (a : Int)) && ((y3 : Int) == (b : Int)))) = r := ⟨_, rfl⟩
        have hq1 : ∀ W, (binOp .eql 97 (.agg #[.int .i64 y1, .int .i64 y2, .int .i64 y3]) (.agg #[.int .i64 x, .int .i64 a, .int .i64 b])).run Try.prog W = .ok (.bool r) W := fun W => by rw [← hr]; exact eql3 _ _ _ _ _ _ W
        have hq2 : ∀ W, (Op.equalIn 10000 97 (.agg #[.int .i64 y1, .int .i64 y2, .int .i64 y3]) (.agg #[.int .i64 x, .int .i64 a, .int .i64 b])).run Try.prog W = .ok r W := fun W => by rw [← hr]; exact equal3 9998 _ _ _ _ _ _ W
        have HR := Lib.hid hr
        have HY := Lib.hid hy
        have HKL := Lib.hid hkl
        have HBA := Lib.hid (HBR.out.trans ((box_belowT wr (.cells #[.int .i64 y1, .int .i64 y2, .int .i64 y3] 97)).mono HBR.out.size))
        clear hr hy hkl qk
        cases r
        · go_wp2
          refine ⟨⟨k + 1, by go_num, by have := HKL.out; omega, Lib.hid ?_, HBA⟩, by have := HKL.out; simp [intOf]; omega⟩
          rw [List.take_add_one, HY.out]
          intro hm
          rcases List.mem_append.1 hm with hm | hm
          · exact HNO.out hm
          · have := List.mem_singleton.1 hm
            injection this with h1 h2
            injection h2 with h2 h3
            have hr := HR.out
            subst h1; subst h2; subst h3
            simp at hr
        · go_wp2
          go_ret
          have hr := HR.out
          rw [Bool.and_eq_true, Bool.and_eq_true, beq_iff_eq, beq_iff_eq, beq_iff_eq] at hr
          have hmem : (x, a, b) ∈ up := by
            have := List.mem_of_getElem? HY.out
            rwa [show y1 = x from hr.1, show y2 = a by omega, show y3 = b by omega] at this
          have hhit := (HUP.out.has x).2 hmem
          refine ⟨HBSK.out.trans (HBA.out.mono HSZK.out), none, 0, [], rfl, Lies.leaf _ _ _ _ _ _, ?_⟩
          rw [goal_hit g u HOK.out.six HFIT.out hhit]; simp
      · have e1 : ¬ (k : Int) < up.length := by omega
        have HNX := Lib.hid (show (x, a, b) ∉ up by have := HNO.out; rwa [List.take_of_length_le (by omega)] at this)
        have HHA : Hid (hasA ab x = false) := Lib.hid (by
          cases h : hasA ab x with
          | false => rfl
          | true => exact absurd ((HUP.out.has x).1 h) HNX.out)
        have HPARTS := Lib.hid (goal_parts g u HOK.out.six HOK.out.sym HUP.out HFIT.out hbu HHA.out)
        have HSPR := Lib.hid (HSPK.out.below HBR.out)
        have HBW := Lib.hid (HBSK.out.trans (HBR.out.mono HSZK.out))
        have HSZR := Lib.hid (Nat.le_trans HSZK.out HBR.out.size)
        have HQKR := Lib.hid qk
        have HOLR := Lib.hid ((HOL.out.below HBK.out).below HBR.out)
        clear hkl HNO HNX HSPK HUK HQK HBSK HBK HSPS HUS qk hk
        go_upto_region 11 with fail
        rename World => S3
        obtain ⟨g1, g2, hqs⟩ := HSPR.out.q
        have z4 := (blk_cell (i := 4) hqs rfl).1
        have lz := heap_lt hqs
        obtain ⟨b1, hb1, hl1⟩ := HSPR.out.span.m.look_all key_three code3_inj Try.underlying113 zeroBool (q := (x, a, b)) (code3_key (by omega) (by omega) (by omega) (by omega))
        have hl2 : ∀ n, (Instr.lookup 113 (.map (some BH)) (.agg #[.int .i64 x, .int .i64 a, .int .i64 b]) false).run Try.prog (S3.drewN n) = .ok (.bool b1) (S3.drewN n) := fun n => hl1 _ rfl
        have HB1 := Lib.hid hb1
        have HQS := Lib.hid hqs
        clear hl1 hb1 hqs
        cases b1
        · have HTN := Lib.hid (tail_none g u HOK.out.six HFIT.out (fun h => by
            have h2 := (HIS.out x a b).2 ⟨hab, hbu, h⟩
            have := HB1.out.2 h2
            cases this))
          have HALL0 := Lib.hid (show all g.prods u (.goal x ⟨a, b, ab⟩) = [[.mk x (-1) []]] by rw [HPARTS.out, HTN.out]; unfold leafP; rw [HLF.out]; rfl)
          have hcap : 1 ≤ cap := (own_cells HOLR.out.own).2
          have hcap2 : (1 : Int) ≤ cap := by omega
          rcases Nat.eq_zero_or_pos most with h0 | h0
          · subst h0
            go_upto_if 61 with (go_quiet (fail))
            go_wp2
            go_ret
            have hle := out_lies (ts := [.mk x (-1) none 0 []]) (n := 0) HOLR.out (by simp)
            exact ⟨below_drews2 HBW.out _, some ⟨gg, 0, none⟩, cap, rfl, hle.under (below_drews2 (Below.refl _ _) _)⟩
          · have e4 : ¬ ((most : Int) < 1) := by omega
            have H0 := Lib.hid h0
            clear h0
            go_upto_if 61 with (go_quiet (fail))
            go_wp2
            go_ret
            have hle := out_lies (ts := [.mk x (-1) none 0 []]) (n := 1) HOLR.out (by simp)
            have h0 := H0.out
            exact ⟨below_drews2 HBW.out _, some ⟨gg, 0, none⟩, cap, [.mk x (-1) none 0 []], rfl, hle.under (below_drews2 (Below.refl _ _) _), by rw [HALL0.out, List.take_of_length_le (by simp; omega)]; rw [List.map_cons, Tl.plain_mk]; rfl⟩
        · go_upto_if 61 with (go_quiet (fail))
          go_upto_region 13 with fail
          have HB5 := Lib.hid (below_drews2 HBW.out nq)
          have HSP5 := Lib.hid (HSPR.out.below (below_drews2 (Below.refl _ _) nq))
          have HUR5 := Lib.hid (HUR.out.below (below_drews2 (Below.refl _ _) nq))
          have HQK5 := Lib.hid (show (S3.drewN nq).heap[S.heap.size]? = _ from HQKR.out)
          have HZ5 := Lib.hid (show W.heap.size ≤ (S3.drewN nq).heap.size from HSZR.out)
          have HOL5 := Lib.hid (HOLR.out.below (below_drews2 (Below.refl _ _) nq))
          clear HSPR HUR HQKR HSZR HBW k0 k1 k2 lk z4 lz hl2 HQS HB1
          generalize S3.drewN nq = S5 at *
          have k0 := (blk_cell (i := 0) HQK5.out rfl).1
          have k1 := (blk_cell (i := 1) HQK5.out rfl).1
          have k2 := (blk_cell (i := 2) HQK5.out rfl).1
          have lk := heap_lt HQK5.out
          have hulk : up.length + 1 ≤ maxLen := by unfold maxLen; omega
          have hulb2 : (up.length + 1) * 24 ≤ 140737488355328 := by omega
          have hnn : ua = none → up.length = 0 ∧ up.length = 0 := fun e => by have h1 := HUR5.out.none_ e; have h2 := HUR5.out.cap; omega
          have hcapu := HUR5.out.cap
          go_cut [5] from 68 to 76 (fun pv wx => ∃ (a' : Option Addr) (c' : Nat), pv = .slice a' (up.length + 1) c' ∧ Hid (Below S5.heap.size S5 wx) ∧ Hid (UpAt wx a' c' (up ++ [(x, a, b)])))
          case first =>
            go_region_law (refine step_append_grows ?_ (.tmp 73) (.tmp 75) 96 ?_ 97 i0 (.agg #[.int .i64 0, .int .i64 0, .int .i64 0]) 3 24 Try.underlying96 hi0 hz0 hz1 hz2 rfl (by decide) ua up.length up.length (keys up) ?_ hnn (keys_len up) ?_ ⟨S5.heap.size, 0, none⟩ 1 1 [.int .i64 x, .int .i64 a, .int .i64 b] ?_ rfl ?_ ?_ (by omega) hulk hulb2 ?_; (rfl); (rfl); (rfl); (exact (HUR5.out.below ((Below.refl S5.heap.size S5).drew.alloc (Nat.le_refl _) _)).olds); (rfl); (exact World.news_of_block (cs := #[.int .i64 x, .int .i64 a, .int .i64 b]) (t := 97) (fr := (0, 0)) (heap_alloc_new S5.drew (.cells #[.int .i64 x, .int .i64 a, .int .i64 b] 97))); (simp [Value.oneCell']); intro v' w' hown hgrow)
            all_goals
              have hup := upAt_of (up := up ++ [(x, a, b)]) (by rw [keys_app]; exact hown) (by simp)
              rw [List.length_append, List.length_singleton] at hup
              obtain ⟨a', c', rfl, hup⟩ := hup
              have hbu := ((Below.refl S5.heap.size S5).drew.alloc (Nat.le_refl _) (.cells #[.int .i64 x, .int .i64 a, .int .i64 b] 97)).grown hgrow (by simp) (fun k hk => by cases hk)
              clear hown hgrow
              go_wp2
              go_meet
              case rel => exact ⟨a', c', rfl, Lib.hid hbu, Lib.hid hup⟩
          case rest =>
          obtain ⟨a', c', rfl, HB45, HU4⟩ := hcut
          rename World => S4
          have HB4 := Lib.hid (HB5.out.trans (HB45.out.mono HZ5.out))
          have HSP4 := Lib.hid (HSP5.out.below HB45.out)
          have HZ4 := Lib.hid (Nat.le_trans HZ5.out HB45.out.size)
          have HOL4 := Lib.hid (HOL5.out.below HB45.out)
          clear HB45 HB5 HSP5 HZ5 HUR5 HQK5 k0 k1 k2 lk hulk hulb2 hnn hcapu
          obtain ⟨g1, g2, hqs⟩ := HSP4.out.q
          have z2 := (blk_cell (i := 2) hqs rfl).1
          have lz := heap_lt hqs
          clear hqs
          go_wp2
          clear z2 lz
          have hcap : 1 ≤ cap := (own_cells HOL4.out.own).2
          have hcap2 : (1 : Int) ≤ cap := by omega
          go_loopw [13, 83] (fun ov iv wr => ∃ n : Nat, ov = .slice (some ⟨gg, 0, none⟩) 1 cap ∧ iv = .int .i64 n ∧ n ≤ ls.length ∧ Hid (Below S4.heap.size S4 wr)) (fun _ iv _ => ls.length - (intOf iv).toNat)
          case atStart => exact ⟨0, rfl, rfl, by omega, Lib.hid (Below.refl _ _)⟩
          case round =>
            obtain ⟨n, rfl, rfl, hn, HBR⟩ := hrel
            have HSR := Lib.hid (HSP4.out.below HBR.out)
            have HWR := Lib.hid (HB4.out.trans (HBR.out.mono HZ4.out))
            have HZR := Lib.hid HBR.out.size
            by_cases hnl : n < ls.length
            · obtain ⟨q, hq⟩ : ∃ q, ls[n]? = some q := ⟨_, List.getElem?_eq_getElem hnl⟩
              obtain ⟨bp, op, rfl, hbp, hcp⟩ := HSR.out.prods.get (by intro e; have := (lays_at ls n _ hq).1; rw [e] at this; simp at this)
              have x0 := hcp _ _ (lays_at ls n _ hq).1
              have x1 := hcp _ _ (lays_at ls n _ hq).2
              rw [← Nat.add_assoc] at x1
              obtain ⟨hgq, hnp⟩ := lay_get HSR.out.eq hq
              have hrow := HSR.out.rows q (List.mem_of_getElem? hq)
              have hrcap := HSR.out.caps q (List.mem_of_getElem? hq)
              obtain ⟨pl, pr, pra, prc⟩ := q
              simp only at x0 x1 hgq hrow hrcap
              have e1 : (n : Int) < ls.length := by omega
              have hbx := box_belowT wr (.cells #[.int .i64 pl, .slice pra pr.length prc] 63)
              have HQP := Lib.hid (heap_alloc_new wr (.cells #[.int .i64 pl, .slice pra pr.length prc] 63))
              have HB2 := Lib.hid (HBR.out.trans (hbx.mono HZR.out))
              have HS2 := Lib.hid (HSR.out.below hbx)
              have HU2 := Lib.hid (HU4.out.below HB2.out)
              have HZ2 := Lib.hid HB2.out.size
              have HRW := Lib.hid (hrow.below hbx)
              have HROWC := Lib.hid hrcap
              have HG := Lib.hid hgq
              have HNP := Lib.hid hnp
              have HNL := Lib.hid hnl
              clear hcp hq hgq hnp hrow hrcap hbx hnl
              go_upto_region 17 with fail
              generalize wr.alloc (.cells #[.int .i64 pl, .slice pra pr.length prc] 63) = W2 at *
              generalize wr.heap.size = PB at *
              clear x0 x1 hbp
              have p0 := (blk_cell (i := 0) HQP.out rfl).1
              have p1 := (blk_cell (i := 1) HQP.out rfl).1
              have lp := heap_lt HQP.out
              by_cases hpx : pl = x
              · have e3 : (pl == x) = true := beq_iff_eq.2 hpx
                have e4 : (pl != x) = false := by rw [bne, e3]; rfl
                by_cases hfull : most ≤ 1
                · have e5 : (most : Int) ≤ 1 := by omega
                  clear hpx hfull
                  go_wp2
                  exact ⟨⟨n + 1, rfl, by go_num, by have := HNL.out; omega, HB2⟩, by have := HNL.out; simp [intOf]; omega⟩
                · have e5 : ¬ (most : Int) ≤ 1 := by omega
                  obtain ⟨mr, hmr⟩ : ∃ mr, most - 1 = mr := ⟨_, rfl⟩
                  have hmr2 : (most : Int) - 1 = (mr : Int) := by omega
                  have hwm : IntKind.i64.wrap ((most : Int) - 1) = (mr : Int) := by rw [hmr2]; exact IntWalk.i64_in _ (by omega)
                  have hx8 : 100 ≤ x ∧ x < 108 := by
                    have := (HOK.out.six _ (show (g.prods.getD n (0, [])) ∈ g.prods by rw [List.getD_eq_getElem?_getD, List.getElem?_eq_getElem HNP.out]; exact List.getElem_mem HNP.out)).2
                    rw [HG.out] at this
                    rwa [← hpx]
                  have hnone := row_leaf_none g u HOK.out.six HOK.out.sym HUP.out HFIT.out hbu hx8 HLF.out HNP.out
                  have hcall := HIR.out n HNP.out (by rw [HG.out]; exact hpx) HHA.out mr pra pr.length prc a' (up.length + 1) c' W2 (by omega) (by omega) HS2.out (by rw [HG.out]; exact HRW.out) (by rw [HG.out]; rfl) HROWC.out HU2.out (by simp)
                  unfold RRowsEnd at hcall
                  simp only at hcall hnone
                  rw [hnone] at hcall
                  replace hcall := Lib.hid hcall
                  clear hpx hfull hmr hmr2 hnone hx8
                  go_wp2_with (go_at_call 59; (with_reducible refine hcall.out.mono ?_); rintro e F ⟨hbF, ra, rc, rs, rfl, -, -, -, -, hpr⟩; have hrs : rs = [] := (by simpa using hpr); subst hrs; clear hpr)
                  have HB5 := Lib.hid (HB2.out.trans (hbF.mono HZ2.out))
                  clear hbF hcall p0 p1 lp e5 hwm
                  go_loopw [13, 110] (fun ov qv wq => ov = .slice (some ⟨gg, 0, none⟩) 1 cap ∧ qv = .int .i64 0 ∧ Hid (Below S4.heap.size S4 wq)) (fun _ _ _ => 0)
                  case atStart => exact ⟨rfl, rfl, HB5⟩
                  case round =>
                    obtain ⟨rfl, rfl, HBQ⟩ := hrel
                    go_wp2
                    exact ⟨⟨n + 1, rfl, by go_num, by have := HNL.out; omega, HBQ⟩, by have := HNL.out; simp [intOf]; omega⟩
              · have e3 : (pl == x) = false := beq_eq_false_iff_ne.2 hpx
                have e4 : (pl != x) = true := by rw [bne, e3]; rfl
                clear hpx
                go_wp2
                exact ⟨⟨n + 1, rfl, by go_num, by have := HNL.out; omega, HB2⟩, by have := HNL.out; simp [intOf]; omega⟩
            · have e1 : ¬ (n : Int) < ls.length := by omega
              have HALL0 := Lib.hid (show all g.prods u (.goal x ⟨a, b, ab⟩) = [[.mk x (-1) []]] by
                have h1 := all_goal g.prods u HOK.out.six HFIT.out
                rw [h1, if_neg (by rw [HHA.out]; simp), if_pos (of_decide_eq_true HLF.out)])
              have HOLW := Lib.hid (HOL4.out.below HBR.out)
              clear hnl
              rcases Nat.eq_zero_or_pos most with h0 | h0
              · subst h0
                go_wp2
                go_ret
                have hle := out_lies (ts := [.mk x (-1) none 0 []]) (n := 0) HOLW.out (by simp)
                exact ⟨HWR.out, some ⟨gg, 0, none⟩, cap, rfl, hle⟩
              · have e4 : ¬ ((most : Int) < 1) := by omega
                have H0 := Lib.hid h0
                clear h0
                go_wp2
                go_ret
                have hle := out_lies (ts := [.mk x (-1) none 0 []]) (n := 1) HOLW.out (by simp)
                have h0 := H0.out
                exact ⟨HWR.out, some ⟨gg, 0, none⟩, cap, [.mk x (-1) none 0 []], rfl, hle, by rw [HALL0.out, List.take_of_length_le (by simp; omega)]; rw [List.map_cons, Tl.plain_mk]; rfl⟩

end Go.Proofs.Ytgfkkbpnphbdgaa

set_option linter.unusedVariables false
set_option linter.unusedSimpArgs false
namespace Go.Proofs.Ytgfkkbpnphbdgaa
open Go.RowKit
open Doc Dr

theorem tail_rows {W : World} {rb ro rc : Nat} {y : Int} {r : List Int} (h : Cells W (some ⟨rb, ro, none⟩) (nums (y :: r))) (hc : r.length + 1 ≤ rc) : Cells W (if rc = 1 then some ⟨rb, ro, none⟩ else some ⟨rb, ro + 1, none⟩) (nums r) := by
  by_cases hr : r = []
  · subst hr; exact .inl rfl
  · have := List.length_pos_iff.2 hr
    rw [if_neg (by omega)]
    obtain ⟨b, o, e, hl, hcc⟩ := h.get (by simp [nums])
    cases e
    refine .inr ⟨rb, ro + 1, rfl, hl, fun j u hj => ?_⟩
    rw [show ro + 1 + j = ro + (j + 1) by omega]
    exact hcc (j + 1) u (by simpa [nums] using hj)
theorem tls_one9 : ∀ {l : List Tl} (u : Value), u ∈ tls l → u.oneCell' = true := by
  intro l u hu
  unfold tls at hu
  obtain ⟨t, _, ht⟩ := List.mem_flatMap.1 hu
  unfold tl3 at ht
  simp at ht
  rcases ht with rfl | rfl | rfl <;> rfl
theorem news_tls9 {W : World} {a : Option Addr} {l : List Tl} (h : Cells W a (tls l)) (hl : l ≠ []) : ∃ g o, a = some ⟨g, o, none⟩ ∧ ∀ j u, (tls l)[j]? = some u → W.cell? ((⟨g, o, none⟩ : Addr).add j) = some u := by
  obtain ⟨g, o, rfl, _, hc⟩ := h.get (tls_ne (List.length_pos_iff.2 hl))
  refine ⟨g, o, rfl, fun j u hu => ?_⟩
  have e : (⟨g, o, none⟩ : Addr).add j = ⟨g, o + j, none⟩ := by unfold Addr.add; split <;> simp_all
  rw [e]; exact hc j u hu

theorem wpList_appT9 {w : World} {ops : Array Oper} {rest : List Oper} {o : Oper} {a : Act} {Q : Exit → Act → World → Prop} (hgd : o.guard = none) (s x : Operand)
    (ho : o.op = .call { callee := .builtin .append, args := #[s, x], argTypes := #[34, 34] })
    (base : Nat) (va : Option Addr) (n vc : Nat) (ks : List Tl) (hs : a.eval s = .slice va n vc) (hown : w.ownsRow base 39 3 (.slice va n vc) n (tls ks)) (hb : base ≤ w.heap.size)
    (xa : Option Addr) (l : List Tl) (xc : Nat) (hx : a.eval x = .slice xa l.length xc) (hc : Cells w xa (tls l)) (hn : n + l.length ≤ 1000000000)
    (h : ∀ va' vc' w', w'.ownsRow base 39 3 (.slice va' (n + l.length) vc') (n + l.length) (tls (ks ++ l)) → w.grownBy w' (Value.slice va n vc).ownBlock → wpList Try.prog ops Q rest (a.put o.dst (.slice va' (n + l.length) vc')) w') : wpList Try.prog ops Q (o :: rest) a w := by
  obtain ⟨i0, hi0, hz0, hz1, hz2⟩ := info_of infoTq
  by_cases hl : l = []
  · subst hl
    have hnc := (own_cells hown).2
    refine wpList_nothing hgd s x 34 ho 39 i0 Try.underlying34 hi0 va n vc hs hnc xa xc hx ?_
    have := h va vc w (by simpa using hown) ⟨rfl, rfl, rfl, Nat.le_refl _, fun _ _ _ => rfl⟩
    simpa using this
  · obtain ⟨g, off, rfl, hn5⟩ := news_tls9 hc hl
    have hm1 : 0 < l.length := List.length_pos_iff.2 hl
    refine wpList_append_lies _ hgd s x 34 ho base 39 i0 (.agg #[.int .i64 0, .int .i64 0, .slice none 0 0]) 3 40 Try.underlying34 hi0 hz0 hz1 hz2 rfl (by decide) _ n (tls ks) hs hown ⟨g, off, none⟩ l.length xc (tls l) hx (tls_len l) hn5 (fun u hu => tls_one9 u hu) hm1 (by unfold maxLen; omega) (by omega) hb _ rfl ?_
    intro g4 cap4 w4 hown4 hgrow4 _ _
    exact h _ _ _ (by rw [tls_app]; exact hown4) hgrow4
theorem getD_at9 {l : List Int} {d : Nat} (h : d < l.length) : l.getD d 0 = l[d] := by rw [List.getD_eq_getElem?_getD, List.getElem?_eq_getElem h]; rfl
/-- Behind the append of a row. -/
theorem out_row {B : Nat} {W W' : World} {a : Option Addr} {c g0 cap : Nat} {rs : List Tl} {t : Tl} (h : OutR B W (.slice a rs.length c) rs) (ht : Lies (fun b => B ≤ b ∧ (Value.slice a rs.length c).ownBlock ≠ some b) W t)
    (ho : W'.ownsRow B 34 1 (.slice (some ⟨g0, 0, none⟩) (rs.length + 1) cap) (rs.length + 1) (rls rs ++ [.slice t.a t.kids.length t.c])) (hg : W.grownBy W' (Value.slice a rs.length c).ownBlock) (ha : (Value.slice a rs.length c).ownBlock = some g0 ∨ g0 = W.heap.size) : OutR B W' (.slice (some ⟨g0, 0, none⟩) (rs ++ [t]).length cap) (rs ++ [t]) :=
  h.grow ht (by rw [rls_app]; exact ho) hg ha
theorem take_map_kids {rs : List Tl} {A : List (List Tr)} (h : rs.map (fun r => r.kids.map Tl.plain) = A) : rs.length = A.length := by rw [← h, List.length_map]
theorem kids_at {rs : List Tl} {A : List (List Tr)} (h : rs.map (fun r => r.kids.map Tl.plain) = A) {z : Nat} {r : Tl} (hz : rs[z]? = some r) : A[z]? = some (r.kids.map Tl.plain) := by rw [← h, List.getElem?_map, hz]; rfl
theorem one_at {ts : List Tl} {A : List (List Tr)} (h : ts.map (fun t => [t.plain]) = A) {z : Nat} {t : Tl} (hz : ts[z]? = some t) : A[z]? = some [t.plain] := by rw [← h, List.getElem?_map, hz]; rfl
variable {g : Gr} {u : List Int} {BS BH : Nat} {H : Sp.Key → Prop} {ap : Option Addr} {cp : Nat} {wa : Option Addr} {wc : Nat} {ls : List Lay}
set_option maxRecDepth 100000 in
set_option maxHeartbeats 32000000 in
theorem docRows_of (ok : OkT g u) (his : Sp.SpanIs g.prods u H) (p d : Nat) (s : Spn) (up : List Key) (hp : p < g.prods.length) (hd : d ≤ (g.prods.getD p (0, [])).2.length) (hs : InD u s) (hup : Ups up s) (hul : up.length ≤ 1000)
    (ihT : ∀ n, d < (g.prods.getD p (0, [])).2.length → n ≤ s.b - s.a → TreesOwe g u BS BH H ap cp wa wc ls ((g.prods.getD p (0, [])).2.getD d 0) (fst_ s n) up)
    (ihR : ∀ n, d < (g.prods.getD p (0, [])).2.length → n ≤ s.b - s.a → RowsOwe g u BS BH H ap cp wa wc ls p (d + 1) (snd_ s n) up) :
    RowsOwe g u BS BH H ap cp wa wc ls p d s up := by
  intro most ra rn rc ua un uc W hm0 hm hsp hrow hrn hrc hu hun
  subst hun
  have h6 := ok.six.len p
  have HFIT : Hid (Fit (.row p d s)) := Lib.hid ⟨hs.ab, hs.le⟩
  have HOK := Lib.hid ok
  have HIS := Lib.hid his
  have hu12 := ok.ul
  obtain ⟨i2, hi2, hx0, hx1, hx2⟩ := info_of infoRowT
  by_cases hde : (g.prods.getD p (0, [])).2.length ≤ d
  · rw [List.drop_eq_nil_of_le hde] at hrn
    obtain rfl : rn = 0 := hrn
    have hall := all_row g.prods u ok.six HFIT.out
    rw [if_pos hde] at hall
    have HALL := Lib.hid hall
    obtain ⟨a, b, ab⟩ := s
    simp only at HALL
    have HM := Lib.hid hm0
    clear hall hde ihT ihR hs hup hsp hrow hu ok his
    by_cases hab : a = b
    · subst hab
      rw [if_pos rfl] at HALL
      go_enter Try.func59, Try.ntmps59
      go_wp2
      go_ret
      unfold RRowsEnd
      refine ⟨box_belowT W _, some ⟨W.heap.size, 0, none⟩, 1, [.mk 0 0 none 0 []], rfl, cells_new W #[.slice none 0 0] 34, Nat.le_refl _, fun _ x hx => by cases hx; exact Nat.le_refl _, fun r hr => by rw [List.mem_singleton.1 hr]; exact Lies.leaf _ _ _ _ _ _, ?_⟩
      have := HM.out
      rw [HALL.out, List.take_of_length_le (by simp; omega)]; rfl
    · rw [if_neg hab] at HALL
      have e1 : ((a : Int) == (b : Int)) = false := beq_eq_false_iff_ne.2 (by omega)
      clear hab
      go_enter Try.func59, Try.ntmps59
      go_wp2
      go_ret
      unfold RRowsEnd
      exact ⟨Below.refl _ _, none, 0, [], rfl, .inl rfl, Nat.le_refl _, fun h => absurd rfl h, (fun r hr => (by cases hr)), by rw [HALL.out]; simp⟩
  · have hdl : d < (g.prods.getD p (0, [])).2.length := by omega
    obtain ⟨y, hy⟩ : ∃ y, (g.prods.getD p (0, [])).2.getD d 0 = y := ⟨_, rfl⟩
    have hyy : (g.prods.getD p (0, [])).2[d] = y := (getD_at9 hdl).symm.trans hy
    rw [List.drop_eq_getElem_cons hdl, hyy] at hrow hrn
    have hysy : -1000000 ≤ y ∧ y < 108 := by
      have h1 : g.prods.getD p (0, []) ∈ g.prods := by rw [List.getD_eq_getElem?_getD, List.getElem?_eq_getElem hp]; exact List.getElem_mem hp
      exact ok.syms _ h1 y (by rw [← hyy]; exact List.getElem_mem hdl)
    have hrl : ((g.prods.getD p (0, [])).2.drop (d + 1)).length ≤ 6 := by rw [List.length_drop]; omega
    have hparts := row_parts g u ok.six HFIT.out hdl
    have hIT := fun n hn => ihT n hdl hn
    have hIR := fun n hn => ihR n hdl hn
    rw [hy] at hIT
    have HIT := Lib.hid hIT
    have HIR := Lib.hid hIR
    have hstep := fun n => rHead_step g u p d s n
    have hnc := fun n hn => ofN_nocan g u ok.six HFIT.out (n := n) hn
    rw [hy] at hnc
    have hofn : ∀ n, ofN g.prods u p d s n = (all g.prods u (.goal y (fst_ s n))).flatMap fun t => (all g.prods u (.row p (d + 1) (snd_ s n))).map fun ks => t ++ ks := fun n => by unfold ofN; rw [hy]
    generalize hRST : (g.prods.getD p (0, [])).2.drop (d + 1) = rst at *
    have hrn2 : rn = rst.length + 1 := hrn
    obtain ⟨hab8, hab, hbu⟩ := hs
    obtain ⟨a, b, ab⟩ := s
    simp only at hab8 hab hbu hIT hIR hstep hnc hofn hparts
    have HPARTS := Lib.hid hparts
    have HSTEP := Lib.hid hstep
    have HNC := Lib.hid hnc
    have HOFN := Lib.hid hofn
    have HSP := Lib.hid hsp
    have HROW := Lib.hid hrow
    have HU := Lib.hid hu
    have HM := Lib.hid hm0
    have HRE := Lib.hid hRST
    have HPP := Lib.hid hp
    have HFE := Lib.hid fun n => rHead_end g u (p := p) (d := d) (s := ⟨a, b, ab⟩) (n := n) (m := most)
    subst hrn2
    obtain ⟨rb, ro, rfl, hrb, hcr⟩ := hrow.get (by simp [nums])
    have hrlc : rst.length + 1 ≤ rc := hrc
    clear hparts hstep hnc hofn hsp hrow hu hm0 hIT hIR ihT ihR hRST hup hy hyy hrn hcr hde hdl hd ok his hrc hp
    have e0 : (((rst.length + 1 : Nat) : Int) == 0) = false := beq_eq_false_iff_ne.2 (by omega)
    go_enter Try.func59, Try.ntmps59
    go_wp2
    clear e0
    go_loopw [13, 14] (fun ov kv wr => ∃ (k : Nat) (oa : Option Addr) (oc : Nat) (rs : List Tl), ov = .slice oa rs.length oc ∧ kv = .int .i64 k ∧ a ≤ k ∧ k ≤ b + 1 ∧ rs.length ≤ most ∧ Hid (OutR W.heap.size wr (.slice oa rs.length oc) rs) ∧ Hid (rs.map (fun r => r.kids.map Tl.plain) = (rHead g u p d ⟨a, b, ab⟩ (k - a)).take most) ∧ Hid (Below W.heap.size W wr)) (fun _ kv _ => b + 1 - (intOf kv).toNat)
    case atStart => exact ⟨a, none, 0, [], rfl, rfl, Nat.le_refl _, by omega, by simp, Lib.hid ⟨World.ownsRow_nil _ _ _ _, fun t ht => by cases ht⟩, Lib.hid (by rw [Nat.sub_self, rHead_zero]; simp), Lib.hid (Below.refl _ _)⟩
    case round =>
      obtain ⟨k, oa, oc, rs, rfl, rfl, hak, hkb1, hrm, HOR, HPL, HBR⟩ := hrel
      have HSR := Lib.hid (HSP.out.below HBR.out)
      have HUR := Lib.hid (HU.out.below HBR.out)
      have HRW := Lib.hid (HROW.out.below HBR.out)
      by_cases hkb : k ≤ b
      · have e1 : (k : Int) ≤ b := by omega
        by_cases hfull : rs.length < most
        · have e2 : (rs.length : Int) < most := by omega
          obtain ⟨rb', ro', he, hrb', hcr'⟩ := HRW.out.get (by simp [nums])
          cases he
          have x0 := hcr' 0 (.int .i64 y) rfl
          rw [Nat.add_zero] at x0
          have e3 : (0 : Int) < ((rst.length + 1 : Nat) : Int) := by omega
          have HCAN := Lib.hid (can_any BS BH wa wc u H y a k wr HSR.out.span (by omega) (by omega) hak (by omega) (by omega))
          clear hcr' hkb hfull
          go_upto_if 46 with (go_at_call 58; (with_reducible refine HCAN.out.mono ?_); rintro e w5 ⟨⟨b2, rfl, hb2⟩, rfl⟩)
          have HDB := Lib.hid (show b2 = true ↔ Sp.DerF g.prods [y] (Dr.seg u a (a + (k - a))) by
            rw [hb2, HIS.out.can hak (by omega), show a + (k - a) = k by omega]; exact Iff.rfl)
          have hkn : k - a ≤ b - a := by omega
          clear hb2 HCAN
          cases b2
          · have HP2 := Lib.hid (show rs.map (fun r => r.kids.map Tl.plain) = (rHead g u p d ⟨a, b, ab⟩ (k + 1 - a)).take most by
              rw [show k + 1 - a = (k - a) + 1 by omega, HSTEP.out, HNC.out (k - a) hkn (fun h => by have := HDB.out.2 h; cases this), List.append_nil]; exact HPL.out)
            clear x0
            go_wp2
            exact ⟨⟨k + 1, oa, oc, rs, rfl, by go_num, by omega, by omega, hrm, HOR, HP2, HBR⟩, by simp [intOf]; omega⟩
          · have HT1 := Lib.hid (tail_rows HRW.out hrlc)
            have HS2E := Lib.hid (show snd_ ⟨a, b, ab⟩ (k - a) = ⟨k, b, if k - a = 0 then ab else none8⟩ by unfold snd_; simp only; rw [show a + (k - a) = k by omega])
            have HS1E := Lib.hid (show fst_ ⟨a, b, ab⟩ (k - a) = ⟨a, k, if k = b then ab else none8⟩ by unfold fst_; simp only; rw [show a + (k - a) = k by omega])
            have hir := HIR.out (k - a) hkn
            rw [HS2E.out] at hir
            have hit := HIT.out (k - a) hkn
            rw [HS1E.out] at hit
            unfold RowsOwe at hir
            unfold TreesOwe at hit
            simp only at hir hit
            have hAR6 : ∀ l ∈ all g.prods u (.row p (d + 1) ⟨k, b, if k - a = 0 then ab else none8⟩), l.length ≤ 6 := fun l hl => by
              obtain ⟨_, h, _⟩ := lst_tree g u HOK.out.sym _ (.row p (d + 1) ⟨k, b, if k - a = 0 then ab else none8⟩) ⟨by show (if k - a = 0 then ab else none8).length = 8; split; exact hab8; rfl, by show k ≤ b; omega⟩ HPP.out l hl
              omega
            obtain ⟨AR, hAR⟩ : ∃ AR, all g.prods u (.row p (d + 1) ⟨k, b, if k - a = 0 then ab else none8⟩) = AR := ⟨_, rfl⟩
            obtain ⟨AF, hAF⟩ : ∃ AF, all g.prods u (.goal y ⟨a, k, if k = b then ab else none8⟩) = AF := ⟨_, rfl⟩
            have HOF := Lib.hid (show ofN g.prods u p d ⟨a, b, ab⟩ (k - a) = AF.flatMap fun t => AR.map fun ks => t ++ ks by rw [HOFN.out, HS1E.out, HS2E.out, hAF, hAR])
            unfold RRowsEnd at hir
            unfold RTreesEnd at hit
            rw [hAR] at hir
            rw [hAF] at hit
            rw [hAR] at hAR6
            have HAR6 := Lib.hid hAR6
            clear hAR hAF hAR6
            have HITC := Lib.hid hit
            have HIRC := Lib.hid fun (A : Option Addr) (C : Nat) (hA : Cells w5 A (nums rst)) (hC : rst.length ≤ C) => hir most A rst.length C ua up.length uc w5 HM.out hm HSR.out (by rw [HRE.out]; exact hA) (by rw [HRE.out]) hC HUR.out rfl
            clear hir hit
            go_upto_region 10 with fail
            go_cut [15] from 47 to 54 (fun rv wx => ∃ (ra2 : Option Addr) (rc2 : Nat) (rs2 : List Tl), rv = .slice ra2 rs2.length rc2 ∧ Hid (Below w5.heap.size w5 wx) ∧ Hid (Cells wx ra2 (rls rs2)) ∧ Hid (rs2 ≠ [] → ∀ x, ra2 = some x → w5.heap.size ≤ x.block) ∧ Hid (∀ r ∈ rs2, Lies (fun b => w5.heap.size ≤ b) wx r) ∧ Hid (rs2.map (fun r => r.kids.map Tl.plain) = AR.take most))
            case first =>
              by_cases hrc1 : rc = 1
              · obtain rfl : rst = [] := List.eq_nil_of_length_eq_zero (by omega)
                subst hrc1
                have h0 := HIRC.out (some ⟨rb, ro, none⟩) 0 (.inl rfl) (by simp)
                simp only [List.length_nil] at h0
                replace h0 := Lib.hid h0
                go_wp2_with (go_at_call 59; (with_reducible refine h0.out.mono ?_); rintro e w6 ⟨hb6, ra2, rc2, rs2, rfl, hc2, hl2, hbl2, hk2, hp2⟩)
                go_meet
                case rel => exact ⟨ra2, rc2, rs2, rfl, Lib.hid hb6, Lib.hid hc2, Lib.hid hbl2, Lib.hid hk2, Lib.hid hp2⟩
              · have HTA : Hid (Cells w5 (some ⟨rb, ro + 1, none⟩) (nums rst)) := Lib.hid (by have := HT1.out; rwa [if_neg hrc1] at this)
                go_wp2_with (go_at_call 59; (with_reducible refine (HIRC.out _ _ HTA.out (by omega)).mono ?_); rintro e w6 ⟨hb6, ra2, rc2, rs2, rfl, hc2, hl2, hbl2, hk2, hp2⟩)
                go_meet
                case rel => exact ⟨ra2, rc2, rs2, rfl, Lib.hid hb6, Lib.hid hc2, Lib.hid hbl2, Lib.hid hk2, Lib.hid hp2⟩
            case rest =>
            obtain ⟨ra2, rc2, rs2, rfl, HB6, HC2, HBL2, HK2, HP2⟩ := hcut
            rename World => w6
            have hrs2l : rs2.length ≤ most := by have h1 := take_map_kids HP2.out; rw [List.length_take] at h1; omega
            have HB56 := Lib.hid (HBR.out.trans (HB6.out.mono HBR.out.size))
            by_cases hrs2 : rs2 = []
            · subst hrs2
              have HAR0 := Lib.hid (take_nil_of HM.out HP2.out.symm)
              have HP3 := Lib.hid (show rs.map (fun r => r.kids.map Tl.plain) = (rHead g u p d ⟨a, b, ab⟩ (k + 1 - a)).take most by
                rw [show k + 1 - a = (k - a) + 1 by omega, HSTEP.out, HOF.out, HAR0.out, show (AF.flatMap fun t => ([] : List (List Tr)).map fun ks => t ++ ks) = [] from List.flatMap_eq_nil_iff.2 (fun _ _ => rfl), List.append_nil]; exact HPL.out)
              have HORK := Lib.hid (HOR.out.below HB6.out)
              clear x0 hrs2l
              go_wp2
              exact ⟨⟨k + 1, oa, oc, rs, rfl, by go_num, by omega, by omega, hrm, HORK, HP3, HB56⟩, by simp [intOf]; omega⟩
            · have hr20 := List.length_pos_iff.2 hrs2
              have e4 : ((rs2.length : Int) == 0) = false := beq_eq_false_iff_ne.2 (by omega)
              have hrbl : rb < w5.heap.size := hrb'
              have x06 := (HB6.out.cell (p := ⟨rb, ro, none⟩) hrbl).trans x0
              have hrb6 : rb < w6.heap.size := Nat.lt_of_lt_of_le hrbl HB6.out.size
              have hT := HITC.out most ua up.length uc w6 hm (HSR.out.below HB6.out) (HUR.out.below HB6.out) rfl
              replace hT := Lib.hid hT
              have HNE := Lib.hid hrs2
              clear x0 hrs2 HITC HIRC
              go_wp2_with (go_at_call 44; (with_reducible refine hT.out.mono ?_); rintro e w7 ⟨hb7, ta, tc, ts, rfl, hlt, hpt⟩)
              have HB57 := Lib.hid (HB6.out.trans (hb7.mono HB6.out.size))
              have HBW7 := Lib.hid (HB56.out.trans (hb7.mono HB56.out.size))
              have HOR7 := Lib.hid (HOR.out.below HB57.out)
              have HOW0 := Lib.hid fun z hz => (HOR.out.low z hz).2
              have HC27 := Lib.hid (HC2.out.below hb7)
              have HK27 := Lib.hid fun r hr => (HK2.out r hr).under hb7
              have HLT7 := Lib.hid (hlt.weak (Q := fun b => w5.heap.size ≤ b) fun b hb _ => Nat.le_trans HB6.out.size hb)
              have HPT := Lib.hid hpt
              have htsl : ts.length ≤ most := by have h1 := congrArg List.length hpt; rw [List.length_map, List.length_take] at h1; omega
              have HZ57 := Lib.hid HB57.out.size
              have HZW5 := Lib.hid HBR.out.size
              clear x06 hrb6 e4 hb7 hlt hpt hT HC2 HK2 HOR
              go_loopw [13, 68] (fun ov qv wq => ∃ (q : Nat) (oa' : Option Addr) (oc' : Nat) (out : List Tl), ov = .slice oa' out.length oc' ∧ qv = .int .i64 q ∧ q ≤ ts.length ∧ out.length ≤ most ∧ Hid (OutR W.heap.size wq (.slice oa' out.length oc') out) ∧ Hid (out.map (fun r => r.kids.map Tl.plain) = (rHead g u p d ⟨a, b, ab⟩ (k - a) ++ (AF.take q).flatMap fun t => AR.map fun ks => t ++ ks).take most) ∧ Hid (Below W.heap.size W wq) ∧ Hid (SegK w5.heap.size w7.heap.size w7 wq) ∧ Hid (w7.heap.size ≤ wq.heap.size) ∧ Hid (∀ z, (Value.slice oa' out.length oc').ownBlock = some z → z < w5.heap.size ∨ w7.heap.size ≤ z)) (fun _ qv _ => ts.length - (intOf qv).toNat)
              case atStart => exact ⟨0, oa, oc, rs, rfl, rfl, by omega, hrm, HOR7, Lib.hid (by simpa using HPL.out), HBW7, Lib.hid (SegK.refl _ _ _), Lib.hid (Nat.le_refl _), Lib.hid fun z hz => .inl (HOW0.out z hz)⟩
              case round =>
                obtain ⟨q, oa', oc', out, rfl, rfl, hq, hom, HOT, HPO, HBQ, HSEG, HZQ, HOW⟩ := hrel
                by_cases hql : q < ts.length
                · obtain ⟨t, ht⟩ : ∃ t, ts[q]? = some t := ⟨_, List.getElem?_eq_getElem hql⟩
                  have hlq := (HLT7.out.seg HSEG.out HZQ.out)
                  obtain ⟨tb, to_, hta, htb, _, x0, x1, x2⟩ := kid_at hlq ht
                  subst hta
                  have hlt1 := hlq.kid t (List.mem_of_getElem? ht)
                  have HAFQ := Lib.hid (show AF[q]? = some [t.plain] by
                    have h1 := one_at HPT.out ht
                    rw [List.getElem?_take] at h1
                    split at h1
                    · exact h1
                    · cases h1)
                  have e5 : (q : Int) < ts.length := by omega
                  have hbx := box_belowT wr (.cells #[.int .i64 t.sym, .int .i64 t.prod, .slice t.a t.kids.length t.c] 39)
                  have HQT := Lib.hid (heap_alloc_new wr (.cells #[.int .i64 t.sym, .int .i64 t.prod, .slice t.a t.kids.length t.c] 39))
                  have HOT1 := Lib.hid (HOT.out.below hbx)
                  have HB1 := Lib.hid (HBQ.out.trans (hbx.mono HBQ.out.size))
                  have HS1 := Lib.hid (HSEG.out.below (hbx.mono HZQ.out))
                  have HZ1 := Lib.hid (Nat.le_trans HZQ.out hbx.size)
                  have HW1 := Lib.hid fun z (hz : (Value.slice oa' out.length oc').ownBlock = some z) => (⟨HOW.out z hz, Nat.ne_of_lt (HOT.out.low z hz).2⟩ : (z < w5.heap.size ∨ w7.heap.size ≤ z) ∧ z ≠ wr.heap.size)
                  have HZT := Lib.hid HZQ.out
                  have HQL := Lib.hid hql
                  have HTQ := Lib.hid ht
                  clear hlq ht hlt1 hbx hql
                  go_upto_region 15 with fail
                  generalize wr.alloc (.cells #[.int .i64 t.sym, .int .i64 t.prod, .slice t.a t.kids.length t.c] 39) = W8 at *
                  generalize wr.heap.size = T at *
                  clear x0 x1 x2 htb
                  go_wp2
                  go_loopw [13, 74] (fun ov zv wq => ∃ (z : Nat) (oa2 : Option Addr) (oc2 : Nat) (out2 : List Tl), ov = .slice oa2 out2.length oc2 ∧ zv = .int .i64 z ∧ z ≤ rs2.length ∧ out2.length ≤ most ∧ Hid (OutR W.heap.size wq (.slice oa2 out2.length oc2) out2) ∧ Hid (out2.map (fun r => r.kids.map Tl.plain) = (rHead g u p d ⟨a, b, ab⟩ (k - a) ++ ((AF.take q).flatMap fun t => AR.map fun ks => t ++ ks) ++ ((AR.take most).take z).map fun ks => [t.plain] ++ ks).take most) ∧ Hid (Below W.heap.size W wq) ∧ Hid (SegK w5.heap.size w7.heap.size w7 wq) ∧ Hid (w7.heap.size ≤ wq.heap.size) ∧ Hid (∀ o, (Value.slice oa2 out2.length oc2).ownBlock = some o → (o < w5.heap.size ∨ w7.heap.size ≤ o) ∧ o ≠ T) ∧ Hid (wq.heap[T]? = some (.cells #[.int .i64 t.sym, .int .i64 t.prod, .slice t.a t.kids.length t.c] 39))) (fun _ zv _ => rs2.length - (intOf zv).toNat)
                  case atStart => exact ⟨0, oa', oc', out, rfl, rfl, by omega, hom, HOT1, Lib.hid (by rw [HPO.out]; simp), HB1, HS1, HZ1, HW1, HQT⟩
                  case round =>
                    obtain ⟨z, oa2, oc2, out2, rfl, rfl, hz, hom2, HO2, HPO2, HBZ, HSZ, HZZ, HWZ, HQZ⟩ := hrel
                    by_cases hzl : z < rs2.length
                    · obtain ⟨r, hr⟩ : ∃ r, rs2[z]? = some r := ⟨_, List.getElem?_eq_getElem hzl⟩
                      obtain ⟨cb, co, rfl, hcb, hcc⟩ := HC27.out.get (by intro e; have := rls_at hr; rw [e] at this; simp at this)
                      have hcbW : w5.heap.size ≤ cb := HBL2.out HNE.out _ rfl
                      have x0 := (World.cell?_of_block (w := w7) (a := ⟨cb, co + z, none⟩) (HSZ.out cb hcbW hcb)).trans (hcc z _ (rls_at hr))
                      have hcbz : cb < wr.heap.size := Nat.lt_of_lt_of_le hcb HZZ.out
                      have hli := (HK27.out r (List.mem_of_getElem? hr)).seg HSZ.out HZZ.out
                      have hlt1 := (HLT7.out.seg HSZ.out HZZ.out).kid t (List.mem_of_getElem? HTQ.out)
                      have HARZ := Lib.hid (show (AR.take most)[z]? = some (r.kids.map Tl.plain) from kids_at HP2.out hr)
                      have e6 : (z : Int) < rs2.length := by omega
                      obtain ⟨r1, r2, r3, r4, rk⟩ := r
                      simp only [Tl.a, Tl.kids, Tl.c] at x0 HARZ
                      have y0 := (blk_cell (i := 0) HQZ.out rfl).1
                      have y1 := (blk_cell (i := 1) HQZ.out rfl).1
                      have y2 := (blk_cell (i := 2) HQZ.out rfl).1
                      have ly := heap_lt HQZ.out
                      have HZL := Lib.hid hzl
                      have HLI := Lib.hid hli
                      have HLK := Lib.hid hlt1
                      have HSTZ := Lib.hid (map_take_succ (f := fun ks => [t.plain] ++ ks) HARZ.out)
                      clear hr hcc hli hlt1 hzl
                      by_cases hof : out2.length < most
                      · have e7 : (out2.length : Int) < most := by omega
                        have HPO3 := Lib.hid (show (out2.map (fun r => r.kids.map Tl.plain)) ++ [[t.plain] ++ rk.map Tl.plain] = (rHead g u p d ⟨a, b, ab⟩ (k - a) ++ ((AF.take q).flatMap fun t => AR.map fun ks => t ++ ks) ++ ((AR.take most).take (z + 1)).map fun ks => [t.plain] ++ ks).take most by
                          have h1 : (out2.map (fun r => r.kids.map Tl.plain)).length < most := by rw [List.length_map]; exact hof
                          rw [HPO2.out] at h1 ⊢
                          rw [HSTZ.out, ← List.append_assoc, take_step, if_pos h1])
                        have hbN := box_belowT wr (.cells #[.int .i64 t.sym, .int .i64 t.prod, .slice t.a t.kids.length t.c] 39)
                        have HBN := Lib.hid hbN
                        have HON := Lib.hid (World.ownsRow_lit (base := wr.heap.size) (e := 39) (size := 3) wr #[.int .i64 t.sym, .int .i64 t.prod, .slice t.a t.kids.length t.c] 1 (Nat.le_refl _) (by unfold maxLen; omega) rfl)
                        have hrcell : Cells wr r3 (tls rk) := HLI.out.cells
                        have HRC := Lib.hid (hrcell.below hbN)
                        have hrkl : rk.length ≤ 6 := by have := HAR6.out _ (List.mem_of_mem_take (List.mem_of_getElem? HARZ.out)); rwa [List.length_map] at this
                        have HOF2 := Lib.hid hof
                        have hWw : W.heap.size ≤ wr.heap.size := HBZ.out.size
                        have HWz := Lib.hid hWw
                        clear hbN hrcell hof hWw
                        go_wp2_with (first
                          | (at_builtin; refine wpList_appT9 rfl (.tmp 84) (.tmp 85) rfl wr.heap.size (some ⟨wr.heap.size, 0, none⟩) 1 1 [t] rfl HON.out HBN.out.size r3 rk r4 rfl HRC.out (by omega) ?_; intro va' vc' w8 ho8 hg8; have hb8 := HBN.out.grown hg8 HBN.out.size (fun o ho => by cases ho; exact Nat.le_refl _); have HB8 := Lib.hid hb8; have HO8 := Lib.hid (own_cells ho8); have HOB8 := Lib.hid (fun o (ho : (Value.slice va' (1 + rk.length) vc').ownBlock = some o) => (own_block ho8 ho).1); have hbx8 := box_belowT w8 (.cells #[.slice va' (1 + rk.length) vc'] 34); have HB9 := Lib.hid (hb8.trans (hbx8.mono hb8.size)); have HN8 := Lib.hid (heap_alloc_new w8 (.cells #[.slice va' (1 + rk.length) vc'] 34)); have HC8 := Lib.hid ((own_cells ho8).1.below hbx8); have HOT8 := Lib.hid (HO2.out.below (hb8.trans (hbx8.mono hb8.size))); clear hb8 ho8 hg8 hbx8)
                          | (at_builtin; refine wpList_append_lies _ rfl (.tmp 82) (.tmp 87) 118 rfl W.heap.size 34 i2 (.slice none 0 0) 1 24 Try.underlying118 hi2 hx0 hx1 hx2 rfl (by decide) (.slice oa2 out2.length oc2) out2.length (rls out2) rfl HOT8.out.own ⟨w8.heap.size, 0, none⟩ 1 1 [.slice va' (1 + rk.length) vc'] rfl rfl (World.news_of_block (cs := #[.slice va' (1 + rk.length) vc']) (t := 34) (fr := (0, 0)) HN8.out) (by simp [Value.oneCell']) (by decide) (by unfold maxLen; omega) (by omega) (by have h1 := HB9.out.size; have h2 := HWz.out; omega) (w8.heap.size + 1) (by simp) ?_; intro gg9 cap9 w9 hown9 hgrow9 hat9 hlt9))
                        have hnrl : (Tl.mk 0 0 va' vc' ([t] ++ rk)).kids.length = 1 + rk.length := by simp [Tl.kids, Nat.add_comm]
                        have hlen2 : (out2 ++ [Tl.mk 0 0 va' vc' ([t] ++ rk)]).length = out2.length + 1 := by simp
                        have h9s := HB9.out.size
                        have hlies : Lies (fun b => W.heap.size ≤ b ∧ (Value.slice oa2 out2.length oc2).ownBlock ≠ some b) (w8.alloc (.cells #[.slice va' (1 + rk.length) vc'] 34)) (Tl.mk 0 0 va' vc' ([t] ++ rk)) := by
                          have hol := HO2.out.low
                          refine .mk HC8.out (by have := HO8.out.2; simp at this ⊢; omega) (fun _ x hx => ?_) (fun s hs => ?_)
                          · have h1 := HOB8.out x.block (by rw [hx]; rfl)
                            refine ⟨Nat.le_trans HWz.out h1, fun e => ?_⟩
                            have := (hol _ e).2
                            omega
                          · have hb9 : Below wr.heap.size wr (w8.alloc (.cells #[.slice va' (1 + rk.length) vc'] 34)) := HB9.out
                            have hlo : ∀ b, w5.heap.size ≤ b ∧ b < w7.heap.size → W.heap.size ≤ b ∧ (Value.slice oa2 out2.length oc2).ownBlock ≠ some b := fun b hb => ⟨Nat.le_trans HZW5.out hb.1, fun e => by have := (HWZ.out b e).1; omega⟩
                            rcases List.mem_append.1 hs with hs | hs
                            · rw [List.mem_singleton.1 hs]
                              exact (HLK.out.under hb9).weak fun b hb _ => hlo b hb
                            · exact ((HLI.out.kid s hs).under hb9).weak fun b hb _ => hlo b hb
                        have hout9 := out_row HOT8.out hlies (by rw [hnrl]; exact hown9) hgrow9 (by rcases hat9 with h | h; exact .inl h; exact .inr (by rw [h]; simp))
                        refine ⟨⟨z + 1, some ⟨gg9, 0, none⟩, cap9, out2 ++ [Tl.mk 0 0 va' vc' ([t] ++ rk)], by rw [hlen2], by go_num, by have := HZL.out; omega, by rw [hlen2]; have := HOF2.out; omega, Lib.hid hout9, Lib.hid ?_, Lib.hid ((HBZ.out.trans (HB9.out.mono HWz.out)).grown hgrow9 (Nat.le_trans HWz.out h9s) (fun o ho => (HO2.out.low o ho).1)), Lib.hid ((HSZ.out.below (HB9.out.mono HZZ.out)).grown hgrow9 (Nat.le_trans HZZ.out h9s) (fun o ho => (HWZ.out o ho).1)), Lib.hid (Nat.le_trans HZZ.out (Nat.le_trans h9s hgrow9.size)), Lib.hid fun o ho => ?_, Lib.hid ?_⟩, by have := HZL.out; simp [intOf]; omega⟩
                        · rw [List.map_append, ← HPO3.out]; simp [Tl.kids]
                        · have e' : gg9 = o := by simpa [Value.ownBlock] using ho
                          subst e'
                          rcases hat9 with h | h
                          · exact HWZ.out _ h
                          · have h1 := HZZ.out
                            have h2 := HB8.out.size
                            have h3 := heap_lt HQZ.out
                            exact ⟨.inr (by omega), by omega⟩
                        · exact (hgrow9.block T (Nat.lt_of_lt_of_le (heap_lt HQZ.out) h9s) (fun e => (HWZ.out T e.symm).2 rfl)).trans ((HB9.out.block T (heap_lt HQZ.out)).trans HQZ.out)
                      · have e7 : ¬ (out2.length : Int) < most := by omega
                        have HPO3 := Lib.hid (show out2.map (fun r => r.kids.map Tl.plain) = (rHead g u p d ⟨a, b, ab⟩ (k - a) ++ ((AF.take q).flatMap fun t => AR.map fun ks => t ++ ks) ++ ((AR.take most).take (z + 1)).map fun ks => [t.plain] ++ ks).take most by
                          rw [HSTZ.out, ← List.append_assoc, take_skip (by rw [← HPO2.out, List.length_map]; omega)]; exact HPO2.out)
                        clear hof
                        go_wp2
                        exact ⟨⟨z + 1, oa2, oc2, out2, rfl, by go_num, by have := HZL.out; omega, hom2, HO2, HPO3, HBZ, HSZ, HZZ, HWZ, HQZ⟩, by have := HZL.out; simp [intOf]; omega⟩
                    · have e6 : ¬ (z : Int) < rs2.length := by omega
                      have HPO3 := Lib.hid (show out2.map (fun r => r.kids.map Tl.plain) = (rHead g u p d ⟨a, b, ab⟩ (k - a) ++ (AF.take (q + 1)).flatMap fun t => AR.map fun ks => t ++ ks).take most by
                        have hzz : (AR.take most).take z = AR.take most := List.take_of_length_le (by rw [← take_map_kids HP2.out]; omega)
                        rw [HPO2.out, hzz, take_inner, flat_take_succ HAFQ.out, List.append_assoc])
                      have HWW := Lib.hid fun o ho => (HWZ.out o ho).1
                      clear hzl
                      go_wp2
                      exact ⟨⟨q + 1, oa2, oc2, out2, rfl, by go_num, by have := HQL.out; omega, hom2, HO2, HPO3, HBZ, HSZ, HZZ, HWW⟩, by have := HQL.out; simp [intOf]; omega⟩
                · have e5 : ¬ (q : Int) < ts.length := by omega
                  have HP3 := Lib.hid (show out.map (fun r => r.kids.map Tl.plain) = (rHead g u p d ⟨a, b, ab⟩ (k + 1 - a)).take most by
                    have hql2 : q = min most AF.length := by
                      have h1 := congrArg List.length HPT.out
                      rw [List.length_map, List.length_take] at h1; omega
                    have hAR : AR ≠ [] := by
                      intro h
                      have h1 := take_map_kids HP2.out
                      rw [h] at h1; simp at h1
                      exact HNE.out h1
                    have hqq : AF.take q = AF.take most := by
                      rw [hql2]
                      rcases Nat.le_total most AF.length with h | h
                      · rw [Nat.min_eq_left h]
                      · rw [Nat.min_eq_right h, List.take_length, List.take_of_length_le h]
                    rw [show k + 1 - a = (k - a) + 1 by omega, HSTEP.out, HOF.out, HPO.out, hqq]
                    exact take_flat _ _ _ _ (fun t _ h => by rw [List.map_eq_nil_iff] at h; exact hAR h))
                  clear hql
                  go_wp2
                  exact ⟨⟨k + 1, oa', oc', out, rfl, by go_num, by omega, by omega, hom, HOT, HP3, HBQ⟩, by simp [intOf]; omega⟩
        · have e2 : ¬ (rs.length : Int) < most := by omega
          have HEND := Lib.hid (show rs.map (fun r => r.kids.map Tl.plain) = (all g.prods u (.row p d ⟨a, b, ab⟩)).take most by
            rw [HPARTS.out, HPL.out]
            exact HFE.out (k - a) (by show k - a ≤ b - a + 1; omega) (by rw [← HPL.out, List.length_map]; omega))
          clear hkb hfull
          go_wp2
          go_ret
          unfold RRowsEnd
          exact ⟨HBR.out, oa, oc, rs, rfl, (own_cells HOR.out.own).1, (own_cells HOR.out.own).2, fun _ x hx => (HOR.out.low x.block (by rw [hx]; rfl)).1, fun r hr => (HOR.out.kids r hr).weak fun b hb _ => hb.1, HEND.out⟩
      · have e1 : ¬ (k : Int) ≤ b := by omega
        have HEND := Lib.hid (show rs.map (fun r => r.kids.map Tl.plain) = (all g.prods u (.row p d ⟨a, b, ab⟩)).take most by
          rw [HPARTS.out, HPL.out, show b - a + 1 = k - a by omega])
        clear hkb
        go_wp2
        go_ret
        unfold RRowsEnd
        exact ⟨HBR.out, oa, oc, rs, rfl, (own_cells HOR.out.own).1, (own_cells HOR.out.own).2, fun _ x hx => (HOR.out.low x.block (by rw [hx]; rfl)).1, fun r hr => (HOR.out.kids r hr).weak fun b hb _ => hb.1, HEND.out⟩

/-- Both, of all. -/
theorem docAll (ok : OkT g u) (his : Sp.SpanIs g.prods u H) : ∀ (n : Nat),
    (∀ (x : Int) (s : Spn) (up : List Key), -1000000 ≤ x ∧ x < 108 → InD u s → Ups up s → up.length + mu g.prods (.goal x s) ≤ 1000 → mu g.prods (.goal x s) ≤ n → TreesOwe g u BS BH H ap cp wa wc ls x s up) ∧
    (∀ (p d : Nat) (s : Spn) (up : List Key), p < g.prods.length → d ≤ (g.prods.getD p (0, [])).2.length → InD u s → Ups up s → up.length + mu g.prods (.row p d s) ≤ 1000 → mu g.prods (.row p d s) ≤ n → RowsOwe g u BS BH H ap cp wa wc ls p d s up) := by
  intro n
  induction n using Nat.strongRecOn with
  | ind n ih =>
    have key : ∀ (k : Nat), k < g.prods.length → ∀ y ∈ (g.prods.getD k (0, [])).2, -1000000 ≤ y ∧ y < 108 := fun k hk y hy => by
      rw [List.getD_eq_getElem?_getD, List.getElem?_eq_getElem hk] at hy
      exact ok.syms _ (List.getElem_mem hk) y hy
    refine ⟨fun x s up hx hs hup hul hm => docTrees_of ok his x s up hx hs hup (by omega) (fun k hk hkx hh => ?_), fun p d s up hp hd hs hup hul hm => docRows_of ok his p d s up hp hd hs hup (by omega) (fun i hdl hi => ?_) (fun i hdl hi => ?_)⟩
    · have hx8 := Dr.sym_in ok.six (mem_prodsOf.2 ⟨hk, hkx⟩)
      have h1 := mu_row g.prods (k := k) hs.ab (ok.six.len k) hx8 hh
      exact (ih _ (Nat.lt_of_lt_of_le h1 hm)).2 k 0 _ _ hk (Nat.zero_le _) (hs.with x) (hup.with hs.ab hx8) (by rw [List.length_append, List.length_singleton]; omega) (Nat.le_refl _)
    · have h1 := mu_fst g.prods (p := p) (d := d) (y := (g.prods.getD p (0, [])).2.getD d 0) hs.ab hi hs.le
      exact (ih _ (Nat.lt_of_lt_of_le h1 hm)).1 _ _ up (key p hp _ (getD_mem hdl)) (hs.fst hi) (hup.fst hi hs.le) (by omega) (Nat.le_refl _)
    · have h1 := mu_snd g.prods (p := p) (d := d) hs.ab (ok.six.len p) hdl hi hs.le
      exact (ih _ (Nat.lt_of_lt_of_le h1 hm)).2 p (d + 1) _ up hp hdl (hs.snd hi) (hup.snd hi hs.le) (by omega) (Nat.le_refl _)
/-- The whole form's trees, by the document. -/
theorem docTrees_any (ok : OkT g u) (his : Sp.SpanIs g.prods u H) (x : Int) (hx : -1000000 ≤ x ∧ x < 108) : TreesOwe g u BS BH H ap cp wa wc ls x ⟨0, u.length, none8⟩ [] :=
  (docAll ok his _).1 x ⟨0, u.length, none8⟩ [] hx (inD_whole u) ⟨fun y => by rw [hasA_none]; simp, fun k hk => by cases hk⟩ (by have := ok.ul; show 0 + ((u.length - 0) * 72 + free none8 * 8) ≤ 1000; rw [free_none]; omega) (Nat.le_refl _)
end Go.Proofs.Ytgfkkbpnphbdgaa

set_option linter.unusedVariables false
set_option linter.unusedSimpArgs false
namespace Go.Proofs.Ytgfkkbpnphbdgaa
open Go.RowKit
open Doc Dr

theorem rcheck_mid {v : Value} {g : Gr} {w : World} (hg : GramAt w v g) (hm : MidG g) : Calls Try.prog 41 #[v] w fun e w' => e = .returned (.bool (okB g)) ∧ Below w.heap.size w w' :=
  check_any rname_any v g w hg (by have := hm.t.1; omega) (by have := hm.n.1; omega) (by have := hm.p.1; omega) (fun p hp => by have := (hm.p.2 p hp).2.1; omega) (fun x hx => by
    rcases List.mem_append.1 hx with h | h
    · have := hm.t.2 x h; omega
    · have := hm.n.2 x h; omega)
/-- How the document's Trees ends. -/
def RAllEnd (g : Gr) (root : Int) (u : List Int) (m : Int) (w : World) (e : Ending) (w' : World) : Prop :=
  Below w.heap.size w w' ∧ (askB g root u m = true → ∃ (a : Option Addr) (c : Nat) (ts : List Tl), e = .returned (.tuple #[.slice a ts.length c, .bool true]) ∧ Lies (fun b => w.heap.size ≤ b) w' (.mk 0 0 a c ts) ∧ ts.map (fun t => [t.plain]) = (all g.prods u (wholeJ u root)).take m.toNat) ∧
    (askB g root u m = false → e = .returned (.tuple #[.slice none 0 0, .bool false]))
theorem rall_no {g : Gr} {root : Int} {u : List Int} {m : Int} {w w' : World} (h : ¬ AskP g root u m) (hb : Below w.heap.size w w') : RAllEnd g root u m w (.returned (.tuple #[.slice none 0 0, .bool false])) w' :=
  ⟨hb, fun h' => by rw [askB_false h] at h'; (cases h'), fun _ => rfl⟩
set_option maxRecDepth 100000 in
set_option maxHeartbeats 16000000 in
theorem rtrees_any (v : Value) (g : Gr) (root : Int) (wa : Option Addr) (wc : Nat) (u : List Int) (m : Int) (w : World) (hg : GramAtC w v g) (hm : MidG g) (hu : Cells w wa (nums u)) (hul : u.length ≤ 1000000000000) :
    Calls Try.prog 20 #[v, .int .i64 root, .slice wa u.length wc, .int .i64 m] w (RAllEnd g root u m w) := by
  have HG0 := Lib.hid hg
  have HMM := Lib.hid hm
  have hn1 := hm.n.1
  obtain ⟨a1, a2, a3, c1, c2, c3, ls, rfl, hp, k1, k2, k3, k4, k5, k6, k7, k8⟩ := hg
  obtain ⟨hbS, hsS, q0⟩ := one_alloc w (.cells #[.slice a1 g.terms.length c1, .slice a2 g.nons.length c2, .slice a3 ls.length c3] 25)
  have HG := Lib.hid (HG0.out.below hbS)
  have HU := Lib.hid (hu.below hbS)
  have HB := Lib.hid hbS
  have HQ := Lib.hid q0
  have HIS := Lib.hid fun s W (hW : GramAtC W (.agg #[.slice a1 g.terms.length c1, .slice a2 g.nons.length c2, .slice a3 ls.length c3]) g) => is_any _ g s W hW.gram (by omega)
  have HCK := Lib.hid fun W (hW : GramAtC W (.agg #[.slice a1 g.terms.length c1, .slice a2 g.nons.length c2, .slice a3 ls.length c3]) g) => rcheck_mid hW.gram HMM.out
  have HLS := Lib.hid (⟨hp, k3, k4, k8⟩ : ls.map Lay.plain = g.prods ∧ Cells w a3 (lays ls) ∧ (∀ p ∈ ls, Cells w p.addr (nums p.right)) ∧ ∀ p ∈ ls, p.right.length ≤ p.cap)
  clear hp k1 k2 k3 k4 k5 k6 k7 k8 HG0 hsS q0 hbS hu hm
  go_enter Try.func20, Try.ntmps20
  go_upto_region 1 with fail
  generalize w.alloc (.cells #[.slice a1 g.terms.length c1, .slice a2 g.nons.length c2, .slice a3 ls.length c3] 25) = S at *
  have hb2 : ∀ w2, Below S.heap.size S w2 → Hid (w2.cell? ⟨w.heap.size, 0, none⟩ = some (.slice a1 g.terms.length c1) ∧ w2.cell? ⟨w.heap.size, 1, none⟩ = some (.slice a2 g.nons.length c2) ∧ w2.cell? ⟨w.heap.size, 2, none⟩ = some (.slice a3 ls.length c3) ∧ w.heap.size < w2.heap.size) := fun w2 h => Lib.hid (by
    have z0 := (h.block _ (heap_lt HQ.out)).trans HQ.out
    exact ⟨(blk_cell z0 rfl).1, (blk_cell z0 rfl).1, (blk_cell z0 rfl).1, heap_lt z0⟩)
  have HF := Lib.hid hb2
  clear hb2
  obtain ⟨g0, g1, g2, l0⟩ := (HF.out S (Below.refl _ _)).out
  obtain ⟨cb, hcb⟩ : ∃ cb, okB g = cb := ⟨_, rfl⟩
  have HCB := Lib.hid hcb
  rw [hcb] at HCK
  clear hcb
  cases cb
  · have HNA := Lib.hid (show ¬ AskP g root u m from fun h => by have := (okB_iff g).2 h.1; rw [HCB.out] at this; cases this)
    go_wp2_with (go_at_call 41; (with_reducible refine (HCK.out _ HG.out).mono ?_); rintro e w2 ⟨rfl, hb2⟩)
    go_ret2
    exact rall_no HNA.out (HB.out.trans (hb2.mono HB.out.size))
  · have HCG := Lib.hid ((okB_iff g).1 HCB.out)
    obtain ⟨sb, hsb⟩ : ∃ sb, symB g root = sb := ⟨_, rfl⟩
    have HSB := Lib.hid hsb
    have HRT := HIS.out root
    rw [hsb] at HRT
    replace HRT := Lib.hid HRT
    clear hsb
    cases sb
    · have HNA := Lib.hid (show ¬ AskP g root u m from fun h => by have := h.2.1; rw [HSB.out] at this; cases this)
      go_wp2_with (first
        | (go_at_call 41; (with_reducible refine (HCK.out _ HG.out).mono ?_); rintro e w2 ⟨rfl, hb2⟩; obtain ⟨g0, g1, g2, l0⟩ := (HF.out w2 hb2).out; have HB2 := Lib.hid (HB.out.trans (hb2.mono HB.out.size)); have HG2 := Lib.hid (HG.out.below hb2))
        | (go_at_call 42; (with_reducible refine (HRT.out _ HG2.out).mono ?_); rintro e w3 ⟨rfl, hb3⟩; have HB3 := Lib.hid (HB2.out.trans (hb3.mono HB2.out.size))))
      go_ret2
      exact rall_no HNA.out HB3.out
    · by_cases hlm : u.length ≤ 12 ∧ 0 ≤ m ∧ m ≤ 200
      · obtain ⟨h12, hm0, hm2⟩ := hlm
        have e1 : ¬ (12 : Int) < (u.length : Int) := by omega
        have e2 : ¬ m < 0 := by omega
        have e3 : ¬ (200 : Int) < m := by omega
        go_upto_region 3 with (first
          | (go_at_call 41; (with_reducible refine (HCK.out _ HG.out).mono ?_); rintro e w2 ⟨rfl, hb2⟩; obtain ⟨g0, g1, g2, l0⟩ := (HF.out w2 hb2).out; have HB2 := Lib.hid hb2; have HG2 := Lib.hid (HG.out.below hb2))
          | (go_at_call 42; (with_reducible refine (HRT.out _ HG2.out).mono ?_); rintro e w3 ⟨rfl, hb3⟩; have HB3 := Lib.hid (HB2.out.trans (hb3.mono HB2.out.size))))
        have H12 := Lib.hid (⟨h12, hm0, hm2⟩ : u.length ≤ 12 ∧ 0 ≤ m ∧ m ≤ 200)
        clear h12 hm0 hm2 e2 e3
        go_upto_region 4 with fail
        clear g0 g1 g2 l0
        go_loopw [36] (fun i wr => ∃ k : Nat, k ≤ u.length ∧ i = .int .i64 k ∧ Hid (Below S.heap.size S wr) ∧ Hid (∀ s ∈ u.take k, symB g s = true)) (fun i _ => u.length - (intOf i).toNat)
        case atStart => exact ⟨0, by omega, rfl, HB3, Lib.hid (by simp)⟩
        case round =>
          obtain ⟨k, hk, rfl, HBR, HSO⟩ := hrel
          have HGR := Lib.hid (HG.out.below HBR.out)
          obtain ⟨g0, g1, g2, l0⟩ := (HF.out wr HBR.out).out
          by_cases hkl : k < u.length
          · obtain ⟨x, hx⟩ : ∃ x, u[k]? = some x := ⟨_, List.getElem?_eq_getElem hkl⟩
            obtain ⟨b, o, rfl, hbl, hcc⟩ := (HU.out.below HBR.out).get (by unfold nums; intro e; rw [List.map_eq_nil_iff] at e; rw [e] at hx; simp at hx)
            have u0 := hcc k _ (nums_at hx)
            have e4 : (k : Int) < u.length := by omega
            have HSX0 := HIS.out x
            have HX := Lib.hid hx
            obtain ⟨sb, hsb⟩ : ∃ sb, symB g x = sb := ⟨_, rfl⟩
            have HSB2 := Lib.hid hsb
            rw [hsb] at HSX0
            have HSX := Lib.hid HSX0
            clear hsb hcc hx HSX0
            cases sb
            · have HNA := Lib.hid (show ¬ AskP g root u m from fun h => by have := h.2.2.2.2.2 x (List.mem_of_getElem? HX.out); rw [HSB2.out] at this; cases this)
              go_wp2_with (go_at_call 42; (with_reducible refine (HSX.out _ HGR.out).mono ?_); rintro e w5 ⟨rfl, hb5⟩)
              go_ret2
              exact rall_no HNA.out (HB.out.trans ((HBR.out.trans (hb5.mono HBR.out.size)).mono HB.out.size))
            · have HKL := Lib.hid hkl
              clear hkl
              go_wp2_with (go_at_call 42; (with_reducible refine (HSX.out _ HGR.out).mono ?_); rintro e w5 ⟨rfl, hb5⟩)
              refine ⟨⟨k + 1, by have := HKL.out; omega, by go_num, Lib.hid (HBR.out.trans (hb5.mono HBR.out.size)), Lib.hid ?_⟩, by have := HKL.out; simp [intOf]; omega⟩
              intro s hs
              rw [List.take_add_one, HX.out] at hs
              simp only [Option.toList_some, List.mem_append, List.mem_singleton] at hs
              rcases hs with hs | rfl
              · exact HSO.out s hs
              · exact HSB2.out
          · have e4 : ¬ (k : Int) < u.length := by omega
            have hA : AskP g root u m := ⟨HCG.out, HSB.out, H12.out.1, H12.out.2.1, H12.out.2.2, fun s hs => HSO.out s (by rw [List.take_of_length_le (by omega)]; exact hs)⟩
            obtain ⟨M, rfl⟩ : ∃ M : Nat, m = M := Int.eq_ofNat_of_zero_le H12.out.2.1
            have HA := Lib.hid hA
            have hM := hA.2.2.2.2.1
            have hpb : ∀ p ∈ g.prods, (-1000000 ≤ p.1 ∧ p.1 ≤ 1000000) ∧ p.2.length ≤ 100000 ∧ ∀ s ∈ p.2, -1000000 ≤ s ∧ s ≤ 1000000 := fun p hp => by
              have h1 := (okT_of hA).six p hp
              have h2 := (okT_of hA).syms p hp
              exact ⟨by omega, by omega, fun s hs => by have := h2 s hs; omega⟩
            have HSPN := Lib.hid (spans_any2 _ g wa wc u wr HGR.out.gram (HU.out.below HBR.out) (by have := H12.out.1; omega) (by have := (okT_of hA).len; omega) hpb)
            have HBW := Lib.hid (HB.out.trans (HBR.out.mono HB.out.size))
            clear hkl hpb hA
            go_upto_region 9 with fail
            have HSPG := Lib.hid fun (w5 : World) (hb5 : Below wr.heap.size wr w5) (BS BH : Nat) (H : Sp.Key → Prop) (hsp : SpanAt w5 BS BH wa wc u H) (q1 q2 q3 : Value) (hv : Value.agg #[.slice a1 g.terms.length c1, .slice a2 g.nons.length c2, .slice a3 ls.length c3] = .agg #[q1, q2, q3]) (hq : w5.heap[BS]? = some (.cells #[q1, q2, q3, .slice wa u.length wc, .map (some BH)] 115)) => (by
              have hbw : Below w.heap.size w w5 := HBW.out.trans (hb5.mono HBW.out.size)
              injection hv with hv
              injection hv with hv
              injection hv with h1 hv
              injection hv with h2 hv
              injection hv with h3 _
              exact ⟨hsp, ⟨q1, q2, by rw [hq, ← h3]⟩, HLS.out.2.1.below hbw, fun p hp => (HLS.out.2.2.1 p hp).below hbw, HLS.out.2.2.2, HLS.out.1⟩ : SpG g u BS BH H a3 c3 wa wc ls w5)
            have HDT := Lib.hid fun (w5 : World) (BS BH : Nat) (H : Sp.Key → Prop) (his : Sp.SpanIs g.prods u H) (hsp : SpG g u BS BH H a3 c3 wa wc ls w5) => (by
              have h := docTrees_any (okT_of HA.out) his root (root_in HA.out) M none 0 0 w5 (by omega) hsp ⟨.inl rfl, Nat.le_refl _, fun _ => rfl⟩ rfl
              exact h : Calls Try.prog 44 #[.pointer (some ⟨BS, 0, none⟩), .int .i64 root, .int .i64 0, .int .i64 u.length, .int .i64 M, .slice none 0 0] w5 (RTreesEnd g u root ⟨0, u.length, none8⟩ M w5))
            unfold RTreesEnd at HDT
            go_wp2_with (first
              | (go_at_call 43; (with_reducible refine HSPN.out.mono ?_); rintro e w5 ⟨hb5, BS, BH, H, rfl, hsp, his, hbs, hbh, q1, q2, q3, hv, hq⟩; have HB5 := Lib.hid (HBW.out.trans (hb5.mono HBW.out.size)); have HT5 := Lib.hid (HDT.out w5 BS BH H his (HSPG.out w5 hb5 BS BH H hsp q1 q2 q3 hv hq)); clear hb5 hsp his hv hq)
              | (go_at_call 44; (with_reducible refine HT5.out.mono ?_); rintro e w6 ⟨hb6, ta, tc, ts, rfl, hlt, hpt⟩; have HB6 := Lib.hid (HB5.out.trans (hb6.mono HB5.out.size)); have HL6 := Lib.hid (hlt.weak (Q := fun b => w.heap.size ≤ b) fun b hb _ => Nat.le_trans HB5.out.size hb); have HP6 := Lib.hid hpt; clear hb6 hlt hpt))
            go_ret2
            exact ⟨HB6.out, fun _ => ⟨ta, tc, ts, rfl, HL6.out, HP6.out⟩, fun h => by rw [askB_true HA.out] at h; (cases h)⟩
      · have HNA := Lib.hid (show ¬ AskP g root u m from fun h => hlm ⟨h.2.2.1, h.2.2.2.1, h.2.2.2.2.1⟩)
        rcases (show (12 < u.length) ∨ (u.length ≤ 12 ∧ m < 0) ∨ (u.length ≤ 12 ∧ 0 ≤ m ∧ 200 < m) by omega) with h | ⟨h, h'⟩ | ⟨h, h', h''⟩
        · have e1 : (12 : Int) < (u.length : Int) := by omega
          clear hlm h
          go_wp2_with (first
          | (go_at_call 41; (with_reducible refine (HCK.out _ HG.out).mono ?_); rintro e w2 ⟨rfl, hb2⟩; obtain ⟨g0, g1, g2, l0⟩ := (HF.out w2 hb2).out; have HB2 := Lib.hid (HB.out.trans (hb2.mono HB.out.size)); have HG2 := Lib.hid (HG.out.below hb2))
          | (go_at_call 42; (with_reducible refine (HRT.out _ HG2.out).mono ?_); rintro e w3 ⟨rfl, hb3⟩; have HB3 := Lib.hid (HB2.out.trans (hb3.mono HB2.out.size))))
          go_ret2
          exact rall_no HNA.out HB3.out
        · have e1 : ¬ (12 : Int) < (u.length : Int) := by omega
          clear hlm h
          go_wp2_with (first
          | (go_at_call 41; (with_reducible refine (HCK.out _ HG.out).mono ?_); rintro e w2 ⟨rfl, hb2⟩; obtain ⟨g0, g1, g2, l0⟩ := (HF.out w2 hb2).out; have HB2 := Lib.hid (HB.out.trans (hb2.mono HB.out.size)); have HG2 := Lib.hid (HG.out.below hb2))
          | (go_at_call 42; (with_reducible refine (HRT.out _ HG2.out).mono ?_); rintro e w3 ⟨rfl, hb3⟩; have HB3 := Lib.hid (HB2.out.trans (hb3.mono HB2.out.size))))
          go_ret2
          exact rall_no HNA.out HB3.out
        · have e1 : ¬ (12 : Int) < (u.length : Int) := by omega
          have e2 : ¬ m < 0 := by omega
          clear hlm h h'
          go_wp2_with (first
          | (go_at_call 41; (with_reducible refine (HCK.out _ HG.out).mono ?_); rintro e w2 ⟨rfl, hb2⟩; obtain ⟨g0, g1, g2, l0⟩ := (HF.out w2 hb2).out; have HB2 := Lib.hid (HB.out.trans (hb2.mono HB.out.size)); have HG2 := Lib.hid (HG.out.below hb2))
          | (go_at_call 42; (with_reducible refine (HRT.out _ HG2.out).mono ?_); rintro e w3 ⟨rfl, hb3⟩; have HB3 := Lib.hid (HB2.out.trans (hb3.mono HB2.out.size))))
          go_ret2
          exact rall_no HNA.out HB3.out
end Go.Proofs.Ytgfkkbpnphbdgaa
