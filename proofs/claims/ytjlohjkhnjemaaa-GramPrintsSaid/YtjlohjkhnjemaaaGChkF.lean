/- GramChecks: the sixteen grammars that may not be, and how they lie. -/
import Derived.Test.YtjlohjkhnjemaaaPlay
import Derived.Test.YtjlohjkhnjemaaaPrintG
import Derived.Test.YtjlohjkhnjemaaaMoreF
import Derived.Test.YtjlohjkhnjemaaaRFormF
import Derived.Laws.OwnMore
set_option linter.unusedVariables false
namespace Go.Proofs.Ytjlohjkhnjemaaa
open Go.RowKit
open Doc

def g5 : Gr := ⟨[[112], [109], [105], [108], [114]], [[69], [84], [70]], [(100, [100, 1, 101]), (100, [101]), (101, [101, 2, 102]), (101, [102]), (102, [3]), (102, [4, 100, 5])]⟩
def g0G : Gr := ⟨[[97]], [[83]], [(100, [1])]⟩
theorem g5_parse : parse (textsL.getD 5 []) = .ok g5 := by decide +kernel
theorem g0_parse : parse (textsL.getD 0 []) = .ok g0G := by decide +kernel
theorem g0_check : CheckG g0G := (chk_iff _).1 (by decide +kernel)
def termG (k : Nat) (s : List UInt8) : Gr := { g5 with terms := g5.terms.set k s }
def nonG (k : Nat) (s : List UInt8) : Gr := { g5 with nons := g5.nons.set k s }
def leftG (k : Nat) (x : Int) : Gr := { g5 with prods := g5.prods.set k (x, (g5.prods.getD k (0, [])).2) }
def rightG (k : Nat) (r : List Int) : Gr := { g5 with prods := g5.prods.set k ((g5.prods.getD k (0, [])).1, r) }
def badG (n : Nat) : Nat → Gr
  | 0 => { g5 with terms := [] }
  | 1 => { g5 with nons := [] }
  | 2 => { g5 with prods := [] }
  | 3 => termG (n % 5) [65]
  | 4 => nonG (n % 3) [97]
  | 5 => termG 0 [109]
  | 6 => nonG 2 [69]
  | 7 => termG 1 [97, 98, 99, 100, 101, 102, 103, 104, 105]
  | 8 => leftG (n % 6) 1
  | 9 => leftG (n % 6) 103
  | 10 => rightG 0 [0, 0, 0, 0, 0, 0, 0]
  | 11 => rightG 0 [0]
  | 12 => rightG 0 [6]
  | 13 => rightG 0 [103]
  | 14 => rightG 1 [100, 1, 101]
  | _ => { g5 with nons := g5.nons ++ [[90]] }
theorem badG_no : ∀ n : Fin 17, ∀ i : Fin 16, ¬ ChkP (badG n.val i.val) := by decide +kernel
def SmallB (g : Gr) : Prop := (g.terms.length ≤ 1000000 ∧ g.nons.length ≤ 1000000 ∧ g.prods.length ≤ 1000000 ∧ ∀ p ∈ g.prods, p.2.length ≤ 1000000) ∧ (∀ p ∈ g.prods, p.1 ≤ maxI ∧ ∀ s ∈ p.2, s ≤ maxI) ∧ (∀ x ∈ g.terms, x.length ≤ 1000) ∧ ∀ x ∈ g.nons, x.length ≤ 1000
instance (g : Gr) : Decidable (SmallB g) := by unfold SmallB; exact inferInstance
theorem badG_small : ∀ n : Fin 17, ∀ i : Fin 16, SmallB (badG n.val i.val) := by decide +kernel

/-- What is told of a grammar that may not be. -/
theorem bad_print {n i : Nat} (hn : n < 17) (hi : i < 16) {v : Value} {W : World} (h : GramAt W v (badG n i)) :
    Calls Try.prog 13 #[v] W fun e w' => e = .returned (.tuple #[.string ⟨#[]⟩, .int .i64 1]) ∧ Below W.heap.size W w' := by
  have hs := badG_small ⟨n, hn⟩ ⟨i, hi⟩
  have hb := badG_no ⟨n, hn⟩ ⟨i, hi⟩
  refine (print_any v (badG n i) W h hs.1 hs.2.1 (fun x hx => by have := hs.2.2.1 x hx; omega) (fun x hx => by have := hs.2.2.2 x hx; omega)).mono fun e w' ⟨he, hw⟩ => ⟨?_, hw⟩
  rw [he]
  have h1 : printS (badG n i) = [] := if_neg fun hh => hb hh.1
  have h2 : printE (badG n i) = 1 := if_neg fun hh => hb hh.1
  rw [h1, h2]
theorem bad_check {n i : Nat} (hn : n < 17) (hi : i < 16) {v : Value} {W : World} (h : GramAt W v (badG n i)) :
    Calls Try.prog 16 #[v] W fun e w' => e = .returned (.int .i64 1) ∧ Below W.heap.size W w' := by
  have hs := badG_small ⟨n, hn⟩ ⟨i, hi⟩
  have hb := badG_no ⟨n, hn⟩ ⟨i, hi⟩
  refine (chk_any v (badG n i) W h hs.1 hs.2.1 (fun x hx => by have := hs.2.2.1 x hx; unfold maxLen; omega) (fun x hx => by have := hs.2.2.2 x hx; unfold maxLen; omega)).mono fun e w' ⟨he, hw⟩ => ⟨?_, hw⟩
  rw [he]
  have h1 : chkI (badG n i) = 1 := if_neg hb
  rw [h1]
theorem bad_rcheck {n i : Nat} (hn : n < 17) (hi : i < 16) {v : Value} {W : World} (h : GramAt W v (badG n i)) :
    Calls Try.prog 15 #[v] W fun e w' => e = .returned (.bool false) ∧ Below W.heap.size W w' := by
  have hs := badG_small ⟨n, hn⟩ ⟨i, hi⟩
  have hb := badG_no ⟨n, hn⟩ ⟨i, hi⟩
  refine (check_any rname_any v (badG n i) W h hs.1.1 hs.1.2.1 hs.1.2.2.1 hs.1.2.2.2 (fun x hx => by
    rcases List.mem_append.1 hx with hx | hx
    · have := hs.2.2.1 x hx; omega
    · have := hs.2.2.2 x hx; omega)).mono fun e w' ⟨he, hw⟩ => ⟨?_, hw⟩
  rw [he]
  have h1 : okB (badG n i) = false := by
    cases hk : okB (badG n i) with
    | false => rfl
    | true => exact absurd ((chk_iff _).2 ((okB_iff _).1 hk)) hb
  rw [h1]

def HasG (B : Nat) (W : World) (g : Gr) : Prop := ∃ (at_ an ap : Option Addr) (ct cn cp : Nat), W.heap[B]? = some (.cells #[.slice at_ g.terms.length ct, .slice an g.nons.length cn, .slice ap g.prods.length cp] 28) ∧ GramAt W (.agg #[.slice at_ g.terms.length ct, .slice an g.nons.length cn, .slice ap g.prods.length cp]) g

theorem has_mk {B : Nat} {W : World} {g : Gr} {at_ an ap : Option Addr} {ct cn cp n1 n2 n3 : Nat} (ls : List Lay) (e1 : g.terms.length = n1) (e2 : g.nons.length = n2) (e3 : g.prods.length = n3)
    (hq : W.heap[B]? = some (.cells #[.slice at_ n1 ct, .slice an n2 cn, .slice ap n3 cp] 28)) (hp : ls.map Lay.plain = g.prods) (h1 : Cells W at_ (strs g.terms)) (h2 : Cells W an (strs g.nons)) (h3 : Cells W ap (lays ls)) (h4 : ∀ q ∈ ls, Cells W q.addr (nums q.right))
    (l1 : n1 ≤ ct) (l2 : n2 ≤ cn) (l3 : n3 ≤ cp) : HasG B W g := by
  subst e1 e2 e3
  have hl : ls.length = g.prods.length := by rw [← hp, List.length_map]
  exact ⟨at_, an, ap, ct, cn, cp, hq, at_, an, ap, ct, cn, cp, ls, by rw [hl], hp, h1, h2, h3, h4, l1, l2, by rw [hl]; exact l3⟩

/-- The grammar that was read of the sixth text, its value in block B. -/
structure Own5 (b B : Nat) (w : World) (bt bn bp ct cn cp : Nat) (ls : List Lay) : Prop where
  q : w.heap[B]? = some (.cells #[.slice (some ⟨bt, 0, none⟩) 5 ct, .slice (some ⟨bn, 0, none⟩) 3 cn, .slice (some ⟨bp, 0, none⟩) 6 cp] 28)
  t : w.ownsRow b 9 1 (.slice (some ⟨bt, 0, none⟩) 5 ct) 5 (strs g5.terms)
  n : w.ownsRow b 9 1 (.slice (some ⟨bn, 0, none⟩) 3 cn) 3 (strs g5.nons)
  p : w.ownsRow b 91 2 (.slice (some ⟨bp, 0, none⟩) 6 cp) 6 (lays ls)
  l : ls.map Lay.plain = g5.prods
  r : ∀ q ∈ ls, w.ownsRow b 3 1 (.slice q.addr q.right.length q.cap) q.right.length (nums q.right)
  d : bt ≠ bn

section
variable {b B : Nat} {w : World} {bt bn bp ct cn cp : Nat} {ls : List Lay}

theorem Own5.apart (h : Own5 b B w bt bn bp ct cn cp ls) {e size n : Nat} {v : Value} {xs : List Value} (ho : w.ownsRow b e size v n xs) (he : e ≠ 28) : v.ownBlock ≠ some B := by
  intro hv
  obtain ⟨_, _, c, hc⟩ := own_block ho hv
  rw [h.q] at hc
  cases hc
  exact he rfl
theorem Own5.len (h : Own5 b B w bt bn bp ct cn cp ls) : ls.length = 6 := by
  have := congrArg List.length h.l; rw [List.length_map] at this; exact this
theorem Own5.below (h : Own5 b B w bt bn bp ct cn cp ls) {w' : World} (hb : Below w.heap.size w w') : Own5 b B w' bt bn bp ct cn cp ls where
  q := (hb.block B (heap_lt h.q)).trans h.q
  t := own_same h.t fun g _ hl => hb.block g hl
  n := own_same h.n fun g _ hl => hb.block g hl
  p := own_same h.p fun g _ hl => hb.block g hl
  l := h.l
  r := fun q hq => own_same (h.r q hq) fun g _ hl => hb.block g hl
  d := h.d

/-- A field of the value is emptied. -/
theorem Own5.emptied (h : Own5 b B w bt bn bp ct cn cp ls) (n : Nat) : HasG B (w.setCell ⟨B, 0, none⟩ (.slice none 0 0)) (badG n 0) ∧ HasG B (w.setCell ⟨B, 1, none⟩ (.slice none 0 0)) (badG n 1) ∧ HasG B (w.setCell ⟨B, 2, none⟩ (.slice none 0 0)) (badG n 2) := by
  have keep : ∀ (i : Nat) {e size n : Nat} {a : Option Addr} {c : Nat} {xs : List Value}, w.ownsRow b e size (.slice a n c) n xs → e ≠ 28 → Cells (w.setCell ⟨B, i, none⟩ (.slice none 0 0)) a xs := by
    intro i e size n a c xs ho he
    exact (own_cells (own_same ho fun g hg _ => Below.heap_setCell _ _ _ _ (show g ≠ B from fun e' => h.apart ho he (e' ▸ hg)))).1
  have k1 := (own_cells h.t).2
  have k2 := (own_cells h.n).2
  have k3 := (own_cells h.p).2
  refine ⟨?_, ?_, ?_⟩
  · exact has_mk (g := { g5 with terms := [] }) (at_ := none) (ct := 0) (n1 := 0) (n2 := 3) (n3 := 6) ls rfl rfl rfl ((heap_set w B 0 _ _ _ h.q (by simp)).trans (by simp)) h.l (.inl rfl) (keep 0 h.n (by decide)) (keep 0 h.p (by decide)) (fun q hq => keep 0 (h.r q hq) (by decide)) (Nat.le_refl _) k2 k3
  · exact has_mk (g := { g5 with nons := [] }) (an := none) (cn := 0) (n1 := 5) (n2 := 0) (n3 := 6) ls rfl rfl rfl ((heap_set w B 1 _ _ _ h.q (by simp)).trans (by simp)) h.l (keep 1 h.t (by decide)) (.inl rfl) (keep 1 h.p (by decide)) (fun q hq => keep 1 (h.r q hq) (by decide)) k1 (Nat.le_refl _) k3
  · exact has_mk (g := { g5 with prods := [] }) (ap := none) (cp := 0) (n1 := 5) (n2 := 3) (n3 := 0) [] rfl rfl rfl ((heap_set w B 2 _ _ _ h.q (by simp)).trans (by simp)) rfl (keep 2 h.t (by decide)) (keep 2 h.n (by decide)) (.inl rfl) (fun q hq => by simp at hq) k1 k2 (Nat.le_refl _)

/-- A name is put in place of another. -/
theorem Own5.term (h : Own5 b B w bt bn bp ct cn cp ls) (j : Nat) (s : List UInt8) : HasG B (w.setCell ⟨bt, j, none⟩ (.string ⟨s.toArray⟩)) (termG j s) := by
  obtain ⟨ht, hg⟩ := h.t.stored j (.string ⟨s.toArray⟩)
  have keep : ∀ {e size n : Nat} {a : Option Addr} {c : Nat} {xs : List Value}, w.ownsRow b e size (.slice a n c) n xs → (Value.slice a n c).ownBlock ≠ some bt → Cells (w.setCell ⟨bt, j, none⟩ (.string ⟨s.toArray⟩)) a xs := fun ho hn => (own_cells (own_same ho fun g hgb hl => hg.block g hl fun e => hn (e ▸ hgb))).1
  have hc := own_cells ht
  have hB : B ≠ bt := fun e => h.apart h.t (by decide) (by rw [e]; rfl)
  refine has_mk ls (by unfold termG; simp [g5]) rfl rfl ((hg.block B (heap_lt h.q) fun e => hB (Option.some.inj e)).trans h.q) h.l ?_ (keep h.n fun e => h.d (Option.some.inj e).symm) (keep h.p fun e => own_apart h.p h.t (by decide) e rfl) (fun q hq => keep (h.r q hq) fun e => own_apart (h.r q hq) h.t (by decide) e rfl) hc.2 (own_cells h.n).2 (own_cells h.p).2
  have e : strs (termG j s).terms = (strs g5.terms).set j (.string ⟨s.toArray⟩) := by unfold termG strs; rw [List.map_set]
  rw [e]; exact hc.1
theorem Own5.non (h : Own5 b B w bt bn bp ct cn cp ls) (j : Nat) (s : List UInt8) : HasG B (w.setCell ⟨bn, j, none⟩ (.string ⟨s.toArray⟩)) (nonG j s) := by
  obtain ⟨ht, hg⟩ := h.n.stored j (.string ⟨s.toArray⟩)
  have keep : ∀ {e size n : Nat} {a : Option Addr} {c : Nat} {xs : List Value}, w.ownsRow b e size (.slice a n c) n xs → (Value.slice a n c).ownBlock ≠ some bn → Cells (w.setCell ⟨bn, j, none⟩ (.string ⟨s.toArray⟩)) a xs := fun ho hn => (own_cells (own_same ho fun g hgb hl => hg.block g hl fun e => hn (e ▸ hgb))).1
  have hc := own_cells ht
  have hB : B ≠ bn := fun e => h.apart h.n (by decide) (by rw [e]; rfl)
  refine has_mk ls rfl (by unfold nonG; simp [g5]) rfl ((hg.block B (heap_lt h.q) fun e => hB (Option.some.inj e)).trans h.q) h.l (keep h.t fun e => h.d (Option.some.inj e)) ?_ (keep h.p fun e => own_apart h.p h.n (by decide) e rfl) (fun q hq => keep (h.r q hq) fun e => own_apart (h.r q hq) h.n (by decide) e rfl) (own_cells h.t).2 hc.2 (own_cells h.p).2
  have e : strs (nonG j s).nons = (strs g5.nons).set j (.string ⟨s.toArray⟩) := by unfold nonG strs; rw [List.map_set]
  rw [e]; exact hc.1
/-- A production is put in place of another: its left. -/
theorem Own5.left (h : Own5 b B w bt bn bp ct cn cp ls) (j : Nat) (hj : j < 6) (x : Int) : HasG B (w.setCell ⟨bp, j * 2, none⟩ (.int .i64 x)) (leftG j x) := by
  obtain ⟨ht, hg⟩ := h.p.stored (j * 2) (.int .i64 x)
  have keep : ∀ {e size n : Nat} {a : Option Addr} {c : Nat} {xs : List Value}, w.ownsRow b e size (.slice a n c) n xs → (Value.slice a n c).ownBlock ≠ some bp → Cells (w.setCell ⟨bp, j * 2, none⟩ (.int .i64 x)) a xs := fun ho hn => (own_cells (own_same ho fun g hgb hl => hg.block g hl fun e => hn (e ▸ hgb))).1
  have hc := own_cells ht
  have hB : B ≠ bp := fun e => h.apart h.p (by decide) (by rw [e]; rfl)
  have hlen := h.len
  obtain ⟨q, hq⟩ : ∃ q, ls[j]? = some q := ⟨_, List.getElem?_eq_getElem (by omega)⟩
  have hq5 : g5.prods[j]? = some q.plain := by rw [← h.l, List.getElem?_map, hq]; rfl
  have hmem : ∀ z ∈ ls.set j ⟨x, q.right, q.addr, q.cap⟩, Cells w z.addr (nums z.right) → True := fun _ _ _ => trivial
  refine has_mk (ls.set j ⟨x, q.right, q.addr, q.cap⟩) rfl rfl (by unfold leftG; simp [g5]) ((hg.block B (heap_lt h.q) fun e => hB (Option.some.inj e)).trans h.q) ?_ (keep h.t fun e => own_apart h.t h.p (by decide) e rfl) (keep h.n fun e => own_apart h.n h.p (by decide) e rfl) ?_ (fun z hz => ?_) (own_cells h.t).2 (own_cells h.n).2 hc.2
  · unfold leftG; simp only; rw [List.map_set, h.l, List.getD_eq_getElem?_getD, hq5]; rfl
  · have e : lays (ls.set j ⟨x, q.right, q.addr, q.cap⟩) = (lays ls).set (j * 2) (.int .i64 x) := by
      rw [lays_set]
      apply List.ext_getElem?
      intro k
      by_cases hk : k = j * 2 + 1
      · subst hk
        rw [List.getElem?_set_self (by rw [List.length_set, lays_len]; omega), List.getElem?_set_ne (by omega), (lays_at ls j q hq).2]
      · rw [List.getElem?_set_ne (by omega)]
    rw [e]; exact hc.1
  · rcases List.mem_or_eq_of_mem_set hz with hz | rfl
    · exact keep (h.r z hz) fun e => own_apart (h.r z hz) h.p (by decide) e rfl
    · exact keep (h.r q (List.mem_of_getElem? hq)) fun e => own_apart (h.r q (List.mem_of_getElem? hq)) h.p (by decide) e rfl
/-- Its right. -/
theorem Own5.right (h : Own5 b B w bt bn bp ct cn cp ls) (j : Nat) (hj : j < 6) (r : List Int) (a : Option Addr) (c : Nat) (k : Nat) (hk : r.length = k) {W : World} (ht : W.ownsRow b 91 2 (.slice (some ⟨bp, 0, none⟩) 6 cp) 6 ((lays ls).set (j * 2 + 1) (.slice a k c))) (hg : w.grownBy W (some bp)) (hr : Cells W a (nums r)) : HasG B W (rightG j r) := by
  subst hk
  have keep : ∀ {e size n : Nat} {a' : Option Addr} {c' : Nat} {xs : List Value}, w.ownsRow b e size (.slice a' n c') n xs → (Value.slice a' n c').ownBlock ≠ some bp → Cells W a' xs := fun ho hn => (own_cells (own_same ho fun g hgb hl => hg.block g hl fun e => hn (e ▸ hgb))).1
  have hc := own_cells ht
  have hB : B ≠ bp := fun e => h.apart h.p (by decide) (by rw [e]; rfl)
  have hlen := h.len
  obtain ⟨q, hq⟩ : ∃ q, ls[j]? = some q := ⟨_, List.getElem?_eq_getElem (by omega)⟩
  have hq5 : g5.prods[j]? = some q.plain := by rw [← h.l, List.getElem?_map, hq]; rfl
  refine has_mk (ls.set j ⟨q.left, r, a, c⟩) rfl rfl (by unfold rightG; simp [g5]) ((hg.block B (heap_lt h.q) fun e => hB (Option.some.inj e)).trans h.q) ?_ (keep h.t fun e => own_apart h.t h.p (by decide) e rfl) (keep h.n fun e => own_apart h.n h.p (by decide) e rfl) ?_ (fun z hz => ?_) (own_cells h.t).2 (own_cells h.n).2 hc.2
  · unfold rightG; simp only; rw [List.map_set, h.l, List.getD_eq_getElem?_getD, hq5]; rfl
  · have e : lays (ls.set j ⟨q.left, r, a, c⟩) = (lays ls).set (j * 2 + 1) (.slice a r.length c) := by
      rw [lays_set]
      congr 1
      apply List.ext_getElem?
      intro k
      by_cases hk : k = j * 2
      · subst hk
        rw [List.getElem?_set_self (by rw [lays_len]; omega), (lays_at ls j q hq).1]
      · rw [List.getElem?_set_ne (by omega)]
    rw [e]; exact hc.1
  · rcases List.mem_or_eq_of_mem_set hz with hz | rfl
    · exact keep (h.r z hz) fun e => own_apart (h.r z hz) h.p (by decide) e rfl
    · exact hr
theorem Own5.right_new (h : Own5 b B w bt bn bp ct cn cp ls) (j : Nat) (hj : j < 6) (cs : Array Value) (r : List Int) (hc : cs.toList = nums r) (k : Nat) (hk : r.length = k) : HasG B ((w.setCell ⟨bp, j * 2 + 1, none⟩ (.slice (some ⟨w.heap.size, 0, none⟩) k k)).alloc (.cells cs 3)) (rightG j r) := by
  obtain ⟨ht, hg⟩ := h.p.stored (j * 2 + 1) (.slice (some ⟨w.heap.size, 0, none⟩) k k)
  refine h.right j hj r (some ⟨w.heap.size, 0, none⟩) k k hk (own_same ht fun g _ hl => Below.heap_alloc _ _ _ hl) (gb_below hg ((Below.refl _ _).alloc (by simp) _)) ?_
  have := cells_new (w.setCell ⟨bp, j * 2 + 1, none⟩ (.slice (some ⟨w.heap.size, 0, none⟩) k k)) cs 3
  rw [hc] at this
  simpa using this
theorem Own5.right_old (h : Own5 b B w bt bn bp ct cn cp ls) {q : Lay} (hq : ls[0]? = some q) : HasG B (w.setCell ⟨bp, 1 * 2 + 1, none⟩ (.slice q.addr q.right.length q.cap)) (rightG 1 [100, 1, 101]) := by
  obtain ⟨ht, hg⟩ := h.p.stored (1 * 2 + 1) (.slice q.addr q.right.length q.cap)
  have hq5 : g5.prods[0]? = some q.plain := by rw [← h.l, List.getElem?_map, hq]; rfl
  have hr : q.right = [100, 1, 101] := by
    have := Option.some.inj hq5
    exact (congrArg Prod.snd this).symm
  have ho := h.r q (List.mem_of_getElem? hq)
  refine h.right 1 (by decide) [100, 1, 101] q.addr q.cap q.right.length (by rw [hr]) ht hg ?_
  have := (own_cells (own_same ho fun g hgb hl => hg.block g hl fun e => own_apart ho h.p (by decide) hgb e.symm)).1
  rwa [show nums q.right = nums [100, 1, 101] from congrArg nums hr] at this
theorem Own5.low (h : Own5 b B w bt bn bp ct cn cp ls) : b ≤ bt ∧ b ≤ bn ∧ b ≤ bp ∧ bt < w.heap.size ∧ bn < w.heap.size ∧ bp < w.heap.size :=
  ⟨(own_block h.t rfl).1, (own_block h.n rfl).1, (own_block h.p rfl).1, (own_block h.t rfl).2.1, (own_block h.n rfl).2.1, (own_block h.p rfl).2.1⟩
theorem Own5.cellT (h : Own5 b B w bt bn bp ct cn cp ls) (j : Nat) (hj : j < 5) : w.cell? ⟨bt, j, none⟩ = (strs g5.terms)[j]? := World.ownsRow.cellAt h.t j (by omega)
theorem Own5.cellN (h : Own5 b B w bt bn bp ct cn cp ls) (j : Nat) (hj : j < 3) : w.cell? ⟨bn, j, none⟩ = (strs g5.nons)[j]? := World.ownsRow.cellAt h.n j (by omega)
theorem Own5.cellL (h : Own5 b B w bt bn bp ct cn cp ls) (j : Nat) (hj : j < 6) : ∃ q, ls[j]? = some q ∧ w.cell? ⟨bp, j * 2, none⟩ = some (.int .i64 q.left) ∧ w.cell? ⟨bp, j * 2 + 1, none⟩ = some (.slice q.addr q.right.length q.cap) := by
  have hlen := h.len
  obtain ⟨q, hq⟩ : ∃ q, ls[j]? = some q := ⟨_, List.getElem?_eq_getElem (by omega)⟩
  exact ⟨q, hq, (World.ownsRow.cellAt h.p _ (by omega)).trans (lays_at ls j q hq).1, (World.ownsRow.cellAt h.p _ (by omega)).trans (lays_at ls j q hq).2⟩
theorem Own5.someT (h : Own5 b B w bt bn bp ct cn cp ls) (j : Nat) (hj : j < 5) : ∃ u, w.cell? ⟨bt, j, none⟩ = some u := ⟨_, (h.cellT j hj).trans (List.getElem?_eq_getElem (by show j < (strs g5.terms).length; simp [strs, g5]; omega))⟩
theorem Own5.someN (h : Own5 b B w bt bn bp ct cn cp ls) (j : Nat) (hj : j < 3) : ∃ u, w.cell? ⟨bn, j, none⟩ = some u := ⟨_, (h.cellN j hj).trans (List.getElem?_eq_getElem (by show j < (strs g5.nons).length; simp [strs, g5]; omega))⟩
theorem Own5.more (h : Own5 b B w bt bn bp ct cn cp ls) {w4 : World} {gg c4 : Nat} (ho : w4.ownsRow b 9 1 (.slice (some ⟨gg, 0, none⟩) 4 c4) 4 (strs g5.nons ++ [.string ⟨#[90]⟩])) (hg : w.grownBy w4 (some bn)) : HasG B (w4.setCell ⟨B, 1, none⟩ (.slice (some ⟨gg, 0, none⟩) 4 c4)) { g5 with nons := g5.nons ++ [[90]] } := by
  have hBn : B ≠ bn := fun e => h.apart h.n (by decide) (by rw [e]; rfl)
  have hq4 := (hg.block B (heap_lt h.q) fun e => hBn (Option.some.inj e)).trans h.q
  have keep : ∀ {e size n : Nat} {a : Option Addr} {c : Nat} {xs : List Value}, w.ownsRow b e size (.slice a n c) n xs → (Value.slice a n c).ownBlock ≠ some bn → e ≠ 28 → Cells (w4.setCell ⟨B, 1, none⟩ (.slice (some ⟨gg, 0, none⟩) 4 c4)) a xs := by
    intro e size n a c xs ho hn he
    exact (own_cells (own_same (own_same ho fun g hgb hl => hg.block g hl fun e => hn (e ▸ hgb)) fun g hgb _ => Below.heap_setCell _ _ _ _ (show g ≠ B from fun e' => h.apart ho he (e' ▸ hgb)))).1
  have hBg : B ≠ gg := by
    intro e
    obtain ⟨_, _, c, hc⟩ := own_block ho (g := gg) rfl
    rw [← e, hq4] at hc
    cases hc
  have ho' := own_cells (own_same ho (w' := w4.setCell ⟨B, 1, none⟩ (.slice (some ⟨gg, 0, none⟩) 4 c4)) fun g hgb _ => Below.heap_setCell _ _ _ _ (show g ≠ B from fun e' => hBg ((e'.symm.trans (Option.some.inj hgb).symm))))
  exact has_mk (g := { g5 with nons := g5.nons ++ [[90]] }) ls (n1 := 5) (n2 := 4) (n3 := 6) rfl rfl rfl ((heap_set w4 B 1 _ _ _ hq4 (by simp)).trans (by simp)) h.l (keep h.t (fun e => h.d (Option.some.inj e)) (by decide)) ho'.1 (keep h.p (fun e => own_apart h.p h.n (by decide) e rfl) (by decide)) (fun q hq => keep (h.r q hq) (fun e => own_apart (h.r q hq) h.n (by decide) e rfl) (by decide)) (own_cells h.t).2 ho'.2 (own_cells h.p).2
theorem make7 (W : World) : (Instr.makeSlice 45 (.int .i64 7) (.int .i64 7)).run Try.prog W = .ok (.slice (some ⟨W.heap.size, 0, none⟩) 7 7) (W.alloc (.cells #[.int .i64 0, .int .i64 0, .int .i64 0, .int .i64 0, .int .i64 0, .int .i64 0, .int .i64 0] 3)) := by kernel_rfl
end

end Go.Proofs.Ytjlohjkhnjemaaa
