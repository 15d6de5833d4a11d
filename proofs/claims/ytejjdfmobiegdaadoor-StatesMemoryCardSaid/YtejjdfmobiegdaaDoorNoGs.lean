/- What Trim gives of a grammar that may not be (cut out of other texts). -/
import Derived.Test.YtejjdfmobiegdaaDoorFirstS
import Derived.Test.YtejjdfmobiegdaaDoorReach
import Derived.Test.YtejjdfmobiegdaaDoorSpec
import Derived.Test.YtejjdfmobiegdaaDoorChk
import Derived.Test.YtejjdfmobiegdaaDoorGParse
import Derived.Test.YtejjdfmobiegdaaDoorPlay
import Derived.Laws.OwnMore
import Derived.Test.YtejjdfmobiegdaaDoorItB
import Derived.Test.YtejjdfmobiegdaaDoorFirstN
set_option linter.unusedVariables false
namespace Go.Proofs.YtejjdfmobiegdaaDoor
open Go.RowKit
open Doc

section
variable {g : Gr} {p : Int × List Int}
end
theorem lays_len (l : List Lay) : (lays l).length = l.length * 2 := by
  induction l with
  | nil => rfl
  | cons p l ih => show ([_, _] ++ lays l).length = _; rw [List.length_append, ih]; simp; omega

end Go.Proofs.YtejjdfmobiegdaaDoor

set_option linter.unusedVariables false
namespace Go.Proofs.YtejjdfmobiegdaaDoor
open Go.RowKit
open Doc

theorem lays_set : ∀ (l : List Lay) (j : Nat) (p : Lay), lays (l.set j p) = ((lays l).set (j * 2) (.int .i64 p.left)).set (j * 2 + 1) (.slice p.addr p.right.length p.cap)
  | [], j, p => by simp [lays]
  | q :: l, 0, p => by simp [lays]
  | q :: l, j + 1, p => by
    have ih := lays_set l j p
    show [_, _] ++ lays (l.set j p) = (([_, _] ++ lays l).set _ _).set _ _
    rw [ih, List.set_append_right _ _ (by simp; omega), List.set_append_right _ _ (by simp; omega)]
    have e1 : (j + 1) * 2 - [Value.int .i64 q.left, .slice q.addr q.right.length q.cap].length = j * 2 := by simp; omega
    have e2 : (j + 1) * 2 + 1 - [Value.int .i64 q.left, .slice q.addr q.right.length q.cap].length = j * 2 + 1 := by simp; omega
    rw [e1, e2]

end Go.Proofs.YtejjdfmobiegdaaDoor

set_option linter.unusedVariables false
namespace Go.Proofs.YtejjdfmobiegdaaDoor
open Go.RowKit
open Doc

def NamesM (l : List (List UInt8)) : Prop := l.length ≤ 100 ∧ ∀ x ∈ l, x.length ≤ 100
def ProdsM (l : List (Int × List Int)) : Prop := l.length ≤ 100 ∧ ∀ p ∈ l, p.1 ≤ maxI ∧ p.2.length ≤ 100 ∧ ∀ s ∈ p.2, s ≤ maxI
/-- A grammar of small sizes, whatever its numbers. -/
structure MidG (g : Gr) : Prop where
  t : NamesM g.terms
  n : NamesM g.nons
  p : ProdsM g.prods
/-- A grammar that may be is smaller still. -/
structure TinyG (g : Gr) : Prop where
  t : g.terms.length ≤ 8 ∧ ∀ x ∈ g.terms, x.length ≤ 100
  n : g.nons.length ≤ 8 ∧ ∀ x ∈ g.nons, x.length ≤ 100
  p : g.prods.length ≤ 24 ∧ ∀ p ∈ g.prods, p.1 ≤ maxI ∧ p.2.length ≤ 6 ∧ ∀ s ∈ p.2, s ≤ maxI
theorem TinyG.mid {g : Gr} (h : TinyG g) : MidG g := ⟨⟨by have := h.t.1; omega, h.t.2⟩, ⟨by have := h.n.1; omega, h.n.2⟩, ⟨by have := h.p.1; omega, fun p hp => ⟨(h.p.2 p hp).1, by have := (h.p.2 p hp).2.1; omega, (h.p.2 p hp).2.2⟩⟩⟩

/-- A row lies so, whatever becomes of the blocks ahead of b. -/
def CF (b : Nat) (W : World) (a : Option Addr) (xs : List Value) : Prop := ∀ W' : World, (∀ k, b ≤ k → k < W.heap.size → W'.heap[k]? = W.heap[k]?) → Cells W' a xs
theorem cf_own {b : Nat} {W : World} {e size n cap : Nat} {a : Option Addr} {xs : List Value} (h : W.ownsRow b e size (.slice a n cap) n xs) : CF b W a xs := fun W' hW => (own_cells (own_same h fun g hg hl => hW g (own_block h hg).1 hl)).1
/-- As GramAt, and no production's row is longer than what is behind it. -/
def GramAtC (w : World) (v : Value) (g : Gr) : Prop :=
  ∃ (at_ an ap : Option Addr) (ct cn cp : Nat) (ls : List Lay), v = .agg #[.slice at_ g.terms.length ct, .slice an g.nons.length cn, .slice ap ls.length cp] ∧
    ls.map Lay.plain = g.prods ∧ Cells w at_ (strs g.terms) ∧ Cells w an (strs g.nons) ∧ Cells w ap (lays ls) ∧ (∀ p ∈ ls, Cells w p.addr (nums p.right)) ∧ g.terms.length ≤ ct ∧ g.nons.length ≤ cn ∧ ls.length ≤ cp ∧ ∀ p ∈ ls, p.right.length ≤ p.cap
theorem GramAtC.gram {w : World} {v : Value} {g : Gr} (h : GramAtC w v g) : GramAt w v g := by
  obtain ⟨a, b, c, ca, cb, cc, ls, hv, hp, h1, h2, h3, h4, h5, h6, h7, _⟩ := h
  exact ⟨a, b, c, ca, cb, cc, ls, hv, hp, h1, h2, h3, h4, h5, h6, h7⟩
theorem GramAtC.below {w w' : World} {v : Value} {g : Gr} (h : GramAtC w v g) (hb : Below w.heap.size w w') : GramAtC w' v g := by
  obtain ⟨a, b, c, ca, cb, cc, ls, hv, hp, h1, h2, h3, h4, h5⟩ := h
  exact ⟨a, b, c, ca, cb, cc, ls, hv, hp, h1.below hb, h2.below hb, h3.below hb, fun p hp => (h4 p hp).below hb, h5⟩
def GramFromC (B : Nat) (w : World) (v : Value) (g : Gr) : Prop := ∀ W : World, (∀ k, B ≤ k → k < w.heap.size → W.heap[k]? = w.heap[k]?) → GramAtC W v g
def HasM (b B : Nat) (W : World) : Prop := ∃ (at_ an ap : Option Addr) (n1 n2 n3 ct cn cp : Nat) (g : Gr), W.heap[B]? = some (.cells #[.slice at_ n1 ct, .slice an n2 cn, .slice ap n3 cp] 29) ∧ GramFromC b W (.agg #[.slice at_ n1 ct, .slice an n2 cn, .slice ap n3 cp]) g ∧ MidG g

theorem hasM_mk {b B : Nat} {W : World} {ts ns : List (List UInt8)} {at_ an ap : Option Addr} {ct cn cp n1 n2 n3 : Nat} (ls : List Lay) (e1 : ts.length = n1) (e2 : ns.length = n2) (e3 : ls.length = n3)
    (hq : W.heap[B]? = some (.cells #[.slice at_ n1 ct, .slice an n2 cn, .slice ap n3 cp] 29)) (h1 : CF b W at_ (strs ts)) (h2 : CF b W an (strs ns)) (h3 : CF b W ap (lays ls)) (h4 : ∀ q ∈ ls, CF b W q.addr (nums q.right))
    (l1 : n1 ≤ ct) (l2 : n2 ≤ cn) (l3 : n3 ≤ cp) (l4 : ∀ q ∈ ls, q.right.length ≤ q.cap) (m1 : NamesM ts) (m2 : NamesM ns) (m3 : ProdsM (ls.map Lay.plain)) : HasM b B W := by
  subst e1 e2 e3
  exact ⟨at_, an, ap, _, _, _, ct, cn, cp, ⟨ts, ns, ls.map Lay.plain⟩, hq, fun W' hW => ⟨at_, an, ap, ct, cn, cp, ls, rfl, rfl, h1 W' hW, h2 W' hW, h3 W' hW, fun q hq => h4 q hq W' hW, l1, l2, l3, l4⟩, ⟨m1, m2, m3⟩⟩

structure OwnG (b B : Nat) (w : World) (bt bn bp ct cn cp : Nat) (ts ns : List (List UInt8)) (ls : List Lay) : Prop where
  q : w.heap[B]? = some (.cells #[.slice (some ⟨bt, 0, none⟩) ts.length ct, .slice (some ⟨bn, 0, none⟩) ns.length cn, .slice (some ⟨bp, 0, none⟩) ls.length cp] 29)
  t : w.ownsRow b 9 1 (.slice (some ⟨bt, 0, none⟩) ts.length ct) ts.length (strs ts)
  n : w.ownsRow b 9 1 (.slice (some ⟨bn, 0, none⟩) ns.length cn) ns.length (strs ns)
  p : w.ownsRow b 68 2 (.slice (some ⟨bp, 0, none⟩) ls.length cp) ls.length (lays ls)
  r : ∀ q ∈ ls, w.ownsRow b 3 1 (.slice q.addr q.right.length q.cap) q.right.length (nums q.right)
  d : bt ≠ bn
  l1 : 1 ≤ ls.length
  k1 : 1 ≤ ts.length
  m : TinyG ⟨ts, ns, ls.map Lay.plain⟩

section
variable {b B : Nat} {w : World} {bt bn bp ct cn cp : Nat} {ts ns : List (List UInt8)} {ls : List Lay}

theorem OwnG.apart (h : OwnG b B w bt bn bp ct cn cp ts ns ls) {e size n : Nat} {v : Value} {xs : List Value} (ho : w.ownsRow b e size v n xs) (he : e ≠ 29) : v.ownBlock ≠ some B := by
  intro hv
  obtain ⟨_, _, c, hc⟩ := own_block ho hv
  rw [h.q] at hc
  cases hc
  exact he rfl
theorem OwnG.keep (h : OwnG b B w bt bn bp ct cn cp ts ns ls) {w' : World} (hk : ∀ g, g < w.heap.size → w'.heap[g]? = w.heap[g]?) : OwnG b B w' bt bn bp ct cn cp ts ns ls where
  q := (hk B (heap_lt h.q)).trans h.q
  t := own_same h.t fun g _ hl => hk g hl
  n := own_same h.n fun g _ hl => hk g hl
  p := own_same h.p fun g _ hl => hk g hl
  r := fun q hq => own_same (h.r q hq) fun g _ hl => hk g hl
  d := h.d
  l1 := h.l1
  k1 := h.k1
  m := h.m
theorem OwnG.below (h : OwnG b B w bt bn bp ct cn cp ts ns ls) {w' : World} (hb : Below w.heap.size w w') : OwnG b B w' bt bn bp ct cn cp ts ns ls := h.keep fun g hl => hb.block g hl
theorem OwnG.low (h : OwnG b B w bt bn bp ct cn cp ts ns ls) : b ≤ bt ∧ b ≤ bn ∧ b ≤ bp ∧ bt < w.heap.size ∧ bn < w.heap.size ∧ bp < w.heap.size ∧ ts.length ≤ 8 ∧ ns.length ≤ 8 ∧ ls.length ≤ 24 :=
  ⟨(own_block h.t rfl).1, (own_block h.n rfl).1, (own_block h.p rfl).1, (own_block h.t rfl).2.1, (own_block h.n rfl).2.1, (own_block h.p rfl).2.1, h.m.t.1, h.m.n.1, by have := h.m.p.1; simpa using this⟩
theorem OwnG.neB (h : OwnG b B w bt bn bp ct cn cp ts ns ls) : B ≠ bt ∧ B ≠ bn ∧ B ≠ bp :=
  ⟨fun e => h.apart h.t (by decide) (by rw [e]; rfl), fun e => h.apart h.n (by decide) (by rw [e]; rfl), fun e => h.apart h.p (by decide) (by rw [e]; rfl)⟩
theorem OwnG.same (h : OwnG b B w bt bn bp ct cn cp ts ns ls) : HasM b B w :=
  hasM_mk ls rfl rfl rfl h.q (cf_own h.t) (cf_own h.n) (cf_own h.p) (fun q hq => cf_own (h.r q hq)) (own_cells h.t).2 (own_cells h.n).2 (own_cells h.p).2 (fun q hq => (own_cells (h.r q hq)).2) h.m.mid.t h.m.mid.n h.m.mid.p

/-- The productions' row is written anew, in place. -/
theorem OwnG.rowed (h : OwnG b B w bt bn bp ct cn cp ts ns ls) {W : World} (ls' : List Lay) (hl : ls'.length = ls.length) (ht : W.ownsRow b 68 2 (.slice (some ⟨bp, 0, none⟩) ls.length cp) ls.length (lays ls')) (hg : w.grownBy W (some bp)) (hr : ∀ q ∈ ls', q ∈ ls ∨ (CF b W q.addr (nums q.right) ∧ q.right.length ≤ q.cap)) (hm : ProdsM (ls'.map Lay.plain)) : HasM b B W := by
  have keep : ∀ {e size n : Nat} {a' : Option Addr} {c' : Nat} {xs : List Value}, w.ownsRow b e size (.slice a' n c') n xs → (Value.slice a' n c').ownBlock ≠ some bp → CF b W a' xs := fun ho hn => cf_own (own_same ho fun g hgb hl => hg.block g hl fun e => hn (e ▸ hgb))
  refine hasM_mk ls' rfl rfl hl ((hg.block B (heap_lt h.q) fun e => h.neB.2.2 (Option.some.inj e)).trans h.q) (keep h.t fun e => own_apart h.t h.p (by decide) e rfl) (keep h.n fun e => own_apart h.n h.p (by decide) e rfl) (cf_own ht) (fun q hq => ?_) (own_cells h.t).2 (own_cells h.n).2 (own_cells ht).2 (fun q hq => (hr q hq).elim (fun h1 => (own_cells (h.r q h1)).2) (fun h1 => h1.2)) h.m.mid.t h.m.mid.n hm
  rcases hr q hq with hq | ⟨hq, _⟩
  · exact keep (h.r q hq) fun e => own_apart (h.r q hq) h.p (by decide) e rfl
  · exact hq

theorem prodsM_set (h : TinyG ⟨ts, ns, ls.map Lay.plain⟩) (j : Nat) (q : Lay) (h1 : q.left ≤ maxI) (h2 : q.right.length ≤ 100) (h3 : ∀ s ∈ q.right, s ≤ maxI) : ProdsM ((ls.set j q).map Lay.plain) := by
  refine ⟨by have := h.p.1; simp at this ⊢; omega, fun p hp => ?_⟩
  obtain ⟨z, hz, rfl⟩ := List.mem_map.1 hp
  rcases List.mem_or_eq_of_mem_set hz with hz | rfl
  · exact h.mid.p.2 _ (List.mem_map.2 ⟨z, hz, rfl⟩)
  · exact ⟨h1, h2, h3⟩

theorem lays_setL {q : Lay} {j : Nat} (hq : ls[j]? = some q) (x : Int) : lays (ls.set j ⟨x, q.right, q.addr, q.cap⟩) = (lays ls).set (j * 2) (.int .i64 x) := by
  have hj := (List.getElem?_eq_some_iff.1 hq).1
  rw [lays_set]
  apply List.ext_getElem?
  intro k
  by_cases hk : k = j * 2 + 1
  · subst hk
    rw [List.getElem?_set_self (by rw [List.length_set, lays_len]; omega), List.getElem?_set_ne (by omega), (lays_at ls j q hq).2]
  · rw [List.getElem?_set_ne (by omega)]
theorem lays_setR {q : Lay} {j : Nat} (hq : ls[j]? = some q) (r : List Int) (a : Option Addr) (c : Nat) : lays (ls.set j ⟨q.left, r, a, c⟩) = (lays ls).set (j * 2 + 1) (.slice a r.length c) := by
  have hj := (List.getElem?_eq_some_iff.1 hq).1
  rw [lays_set]
  congr 1
  apply List.ext_getElem?
  intro k
  by_cases hk : k = j * 2
  · subst hk
    rw [List.getElem?_set_self (by rw [lays_len]; omega), (lays_at ls j q hq).1]
  · rw [List.getElem?_set_ne (by omega)]

/-- A left is written anew. -/
theorem OwnG.left (h : OwnG b B w bt bn bp ct cn cp ts ns ls) {j : Nat} {q : Lay} (hq : ls[j]? = some q) (x : Int) (hx : x ≤ maxI) : HasM b B (w.setCell ⟨bp, j * 2, none⟩ (.int .i64 x)) := by
  obtain ⟨ht, hg⟩ := h.p.stored (j * 2) (.int .i64 x)
  have hm := h.m.mid.p.2 _ (List.mem_map.2 ⟨q, List.mem_of_getElem? hq, rfl⟩)
  refine h.rowed (ls.set j ⟨x, q.right, q.addr, q.cap⟩) (by simp) (by rw [lays_setL hq]; exact ht) hg (fun z hz => ?_) (prodsM_set h.m _ _ hx hm.2.1 hm.2.2)
  rcases List.mem_or_eq_of_mem_set hz with hz | rfl
  · exact .inl hz
  · have ho := h.r q (List.mem_of_getElem? hq)
    exact .inr ⟨cf_own (own_same ho fun g hgb hl => hg.block g hl fun e => own_apart ho h.p (by decide) hgb e.symm), (own_cells ho).2⟩
/-- A right is written anew, by a row of its own. -/
theorem OwnG.right (h : OwnG b B w bt bn bp ct cn cp ts ns ls) {j : Nat} {q : Lay} (hq : ls[j]? = some q) {r : List Int} {a : Option Addr} {c : Nat} (ho : w.ownsRow b 3 1 (.slice a r.length c) r.length (nums r)) (h2 : r.length ≤ 100) (h3 : ∀ s ∈ r, s ≤ maxI) : HasM b B (w.setCell ⟨bp, j * 2 + 1, none⟩ (.slice a r.length c)) := by
  obtain ⟨ht, hg⟩ := h.p.stored (j * 2 + 1) (.slice a r.length c)
  have hm := h.m.mid.p.2 _ (List.mem_map.2 ⟨q, List.mem_of_getElem? hq, rfl⟩)
  refine h.rowed (ls.set j ⟨q.left, r, a, c⟩) (by simp) (by rw [lays_setR hq]; exact ht) hg (fun z hz => ?_) (prodsM_set h.m _ _ hm.1 h2 h3)
  rcases List.mem_or_eq_of_mem_set hz with hz | rfl
  · exact .inl hz
  · exact .inr ⟨cf_own (own_same ho fun g hgb hl => hg.block g hl fun e => own_apart ho h.p (by decide) hgb e.symm), (own_cells ho).2⟩

end

end Go.Proofs.YtejjdfmobiegdaaDoor

set_option linter.unusedVariables false
namespace Go.Proofs.YtejjdfmobiegdaaDoor
open Go.RowKit
open Doc

theorem check_mid (v : Value) (g : Gr) (w : World) (hg : GramAt w v g) (hm : MidG g) :
    Calls Tryd.prog 44 #[v] w fun e w' => e = .returned (.int .i64 (chkI g)) ∧ Below w.heap.size w w' :=
  chk_any v g w hg ⟨by have := hm.t.1; omega, by have := hm.n.1; omega, by have := hm.p.1; omega, fun p hp => by have := (hm.p.2 p hp).2.1; omega⟩ (fun p hp => ⟨(hm.p.2 p hp).1, (hm.p.2 p hp).2.2⟩) (fun x hx => by have := hm.t.2 x hx; unfold maxLen; omega) (fun x hx => by have := hm.n.2 x hx; unfold maxLen; omega)
theorem check_not (v : Value) (g : Gr) (w : World) (hg : GramAt w v g) (hm : MidG g) (hc : ¬ CheckG g) :
    Calls Tryd.prog 44 #[v] w fun e w' => e = .returned (.int .i64 1) ∧ Below w.heap.size w w' :=
  (check_mid v g w hg hm).mono fun e w' ⟨he, hb⟩ => ⟨he.trans (by rw [show chkI g = 1 from if_neg fun h => hc ((chk_iff g).1 h)]), hb⟩

set_option maxHeartbeats 1000000 in
theorem trim_no (v : Value) (g : Gr) (w : World) (hg : GramAt w v g) (hm : MidG g) (hc : ¬ CheckG g) :
    Calls Tryd.prog 71 #[v] w fun e w' => e = .returned (.tuple #[.slice none 0 0, .int .i64 1]) ∧ Below w.heap.size w w' := by
  have hg0 := hg
  obtain ⟨a1, a2, a3, c1, c2, c3, ls, rfl, _⟩ := hg
  have hS : Below w.heap.size w (w.alloc (.cells #[.slice a1 g.terms.length c1, .slice a2 g.nons.length c2, .slice a3 ls.length c3] 29)) := (Below.refl _ _).alloc (Nat.le_refl _) _
  have HCA := Lib.hid (check_not _ g _ (hg0.below hS) hm hc)
  have HS := Lib.hid hS
  have q0 := heap_alloc_new w (.cells #[.slice a1 g.terms.length c1, .slice a2 g.nons.length c2, .slice a3 ls.length c3] 29)
  have l0 := heap_lt q0
  have y0 := (blk_cell (i := 0) (u := .slice a1 g.terms.length c1) q0 rfl).1
  have y1 := (blk_cell (i := 1) (u := .slice a2 g.nons.length c2) q0 rfl).1
  have y2 := (blk_cell (i := 2) (u := .slice a3 ls.length c3) q0 rfl).1
  clear hg0 hS q0 hm hc
  go_enter Tryd.func71, Tryd.ntmps71
  go_wp2_with (go_at_call 44; refine HCA.out.mono ?_; rintro e w2 ⟨rfl, hb2⟩)
  go_ret2
  exact ⟨rfl, HS.out.trans (hb2.mono HS.out.size)⟩

end Go.Proofs.YtejjdfmobiegdaaDoor
