/- Trees made of numbers: exegeteplay.Tree: a derivation of its symbol: over any world. -/
import Derived.Test.YtgfkkbpnphbdgaaTreeB
import Derived.Test.YtgfkkbpnphbdgaaAppAll
import Derived.Test.YtgfkkbpnphbdgaaRaw
import Derived.Deep.CutBlock
set_option linter.unusedVariables false
namespace Go.Proofs.Ytgfkkbpnphbdgaa
open Go.RowKit
open Doc

/-! What a derivation of a grammar that may be is made of. -/
def tinyI (s : Int) : Prop := -1000 ≤ s ∧ s ≤ 1000
mutual
def tinyT : Tr → Prop | .mk s p ks => tinyI s ∧ tinyI p ∧ tinyK ks
def tinyK : List Tr → Prop | [] => True | t :: l => tinyT t ∧ tinyK l
end
theorem tinyK_iff : ∀ {ks : List Tr}, tinyK ks ↔ ∀ k ∈ ks, tinyT k
  | [] => by simp [tinyK]
  | t :: l => by simp only [tinyK, List.mem_cons, forall_eq_or_imp]; rw [tinyK_iff]
theorem tiny_mild (t : Tr) : tinyT t → mildT t := by
  induction t using Tr.ind with
  | h s p ks ih =>
    intro h
    rw [tinyT] at h
    rw [mildT]
    unfold tinyI at h
    unfold mildI
    refine ⟨by omega, by omega, mildK_mk fun k hk => ih k hk (tinyK_iff.1 h.2.2 k hk)⟩
theorem symB_tiny {g : Gr} (hc : CheckG g) {s : Int} (h : symB g s = true) : 1 ≤ s ∧ s ≤ 108 := by
  have h1 := hc.t8
  have h2 := hc.n8
  unfold symB nonB at h
  simp at h
  omega
theorem check_tinyT {g : Gr} (hc : CheckG g) (t : Tr) : ∀ root, checkT g t root = true → tinyT t := by
  induction t using Tr.ind with
  | h s p ks ih =>
    intro root h
    rw [tinyT]
    unfold tinyI
    rcases (check_cases h).2 with ⟨h1, h2, h3⟩ | ⟨n, h1, h2, h3⟩
    · have := symB_tiny hc h3
      exact ⟨by omega, by omega, by rw [h2]; trivial⟩
    · have h4 := (List.getElem?_eq_some_iff.1 h2).1
      have h5 := hc.p24
      have h6 := symB_tiny hc (left_symB hc h2).1
      simp only at h6
      exact ⟨by omega, by omega, tinyK_iff.2 fun k hk => ih k hk _ (h3 k hk)⟩
def bndT : Nat → Nat | 0 => 1 | d + 1 => 1 + 6 * bndT d
theorem bnd_pos (d : Nat) : 1 ≤ bndT d := by cases d <;> simp only [bndT] <;> omega
theorem bnd_le {d : Nat} (h : d ≤ 5) : bndT d ≤ 9331 := by
  have : ∀ n : Fin 6, bndT n.val ≤ 9331 := by decide
  exact this ⟨d, by omega⟩
theorem sizeK_bnd {b : Nat} : ∀ {ks : List Tr}, (∀ k ∈ ks, sizeT k ≤ b) → sizeK ks ≤ ks.length * b
  | [], _ => by simp [sizeK]
  | t :: l, h => by
    have h1 := h t List.mem_cons_self
    have h2 := sizeK_bnd (ks := l) fun k hk => h k (List.mem_cons_of_mem _ hk)
    simp only [sizeK, List.length_cons]
    rw [Nat.succ_mul]
    omega

/-! The tree that grows, kid by kid, in its block. -/
structure Kd (T : Nat) (sym p : Int) (w W : World) (kv rv : Value) (cnt : Nat) (xs : List Value) (ks : List Tl) : Prop where
  t : W.heap[T]? = some (.cells #[.int .i64 sym, .int .i64 p, kv] 39)
  k : Below w.heap.size w W
  own : W.ownsRow (T + 1) 39 3 rv cnt xs
  kids : ∀ t ∈ ks, Lies (fun b => T < b ∧ rv.ownBlock ≠ some b) W t
  hT : w.heap.size ≤ T
section
variable {T : Nat} {sym p : Int} {w W : World} {kv rv : Value} {cnt : Nat} {xs : List Value} {ks : List Tl}
theorem Kd.keep (h : Kd T sym p w W kv rv cnt xs ks) {W' : World} (hb : Below w.heap.size w W') (hs : W.heap.size ≤ W'.heap.size) (hk : ∀ b, b < W.heap.size → W'.heap[b]? = W.heap[b]?) : Kd T sym p w W' kv rv cnt xs ks where
  t := (hk T (heap_lt h.t)).trans h.t
  k := hb
  own := own_same h.own fun g _ hl => hk g hl
  kids := fun t ht => (h.kids t ht).keep hs (fun b _ hl => hk b hl) (fun _ hp _ => hp)
  hT := h.hT
theorem Kd.below (h : Kd T sym p w W kv rv cnt xs ks) {W' : World} (hb : Below W.heap.size W W') : Kd T sym p w W' kv rv cnt xs ks := h.keep (h.k.trans (hb.mono h.k.size)) hb.size fun b hl => hb.block b hl
theorem Kd.setT (h : Kd T sym p w W kv rv cnt xs ks) (v : Value) : Kd T sym p w (W.setCell ⟨T, 2, none⟩ v) v rv cnt xs ks := by
  have hk : ∀ b, b ≠ T → (W.setCell ⟨T, 2, none⟩ v).heap[b]? = W.heap[b]? := fun b hb => Below.heap_setCell _ _ _ _ hb
  refine ⟨?_, h.k.setCell (p := ⟨T, 2, none⟩) h.hT _, own_same h.own fun g hg _ => hk g (by have := (own_block h.own hg).1; omega), fun t ht => (h.kids t ht).keep (by simp) (fun b hb _ => hk b (by omega)) (fun _ hp _ => hp), h.hT⟩
  rw [heap_set W T 2 v _ _ h.t (by simp)]
  rfl
theorem Kd.add (h : Kd T sym p w W kv rv cnt xs ks) {W' : World} {tk : Tl} (h' : Kd T sym p w W' kv rv cnt xs ks) (hl : Lies (fun b => W.heap.size ≤ b) W' tk) : Kd T sym p w W' kv rv cnt xs (ks ++ [tk]) := by
  refine ⟨h'.t, h'.k, h'.own, fun t ht => ?_, h'.hT⟩
  rcases List.mem_append.1 ht with ht | ht
  · exact h'.kids t ht
  · rw [List.mem_singleton] at ht
    subst ht
    have hlt := heap_lt h.t
    refine hl.weak fun b hb _ => ⟨by omega, fun e => ?_⟩
    have := (own_block h.own e).2.1
    omega
theorem Kd.grow (h : Kd T sym p w W kv rv cnt xs ks) {W' : World} {g cap cnt' : Nat} {xs' : List Value} (ho : W'.ownsRow (T + 1) 39 3 (.slice (some ⟨g, 0, none⟩) cnt' cap) cnt' xs') (hg : W.grownBy W' rv.ownBlock) (ha : rv.ownBlock = some g ∨ g = W.heap.size) : Kd T sym p w W' kv (.slice (some ⟨g, 0, none⟩) cnt' cap) cnt' xs' ks := by
  have hk : ∀ b, b < W.heap.size → rv.ownBlock ≠ some b → W'.heap[b]? = W.heap[b]? := fun b hb hn => hg.block b hb hn.symm
  have hlo : ∀ b, b ≤ T → rv.ownBlock ≠ some b := fun b hb e => by have := (own_block h.own e).1; omega
  have hlt := heap_lt h.t
  have hbel : Below (T + 1) W W' := (Below.refl _ _).grown hg (by omega) fun k hk => (own_block h.own hk).1
  refine ⟨(hk T hlt (hlo T (Nat.le_refl _))).trans h.t, h.k.trans (hbel.mono (by have := h.hT; omega)), ho, ?_, h.hT⟩
  intro t ht
  refine (h.kids t ht).keep hbel.size (fun b hb hl => hk b hl hb.2) (fun b hb hl => ⟨hb.1, fun e => ?_⟩)
  have e' : g = b := by simpa [Value.ownBlock] using e
  rcases ha with ha | ha
  · exact hb.2 (e' ▸ ha)
  · omega
end
theorem Kd.done {T : Nat} {sym p : Int} {w W : World} {g cap : Nat} {ks : List Tl} {t : Tl} (h : Kd T sym p w W (.slice (some ⟨g, 0, none⟩) (ks.length + 1) cap) (.slice (some ⟨g, 0, none⟩) (ks.length + 1) cap) (ks.length + 1) (tls ks ++ [.int .i64 t.sym, .int .i64 t.prod, .slice t.a t.kids.length t.c]) (ks ++ [t])) :
    Kd T sym p w W (.slice (some ⟨g, 0, none⟩) (ks ++ [t]).length cap) (.slice (some ⟨g, 0, none⟩) (ks ++ [t]).length cap) (ks ++ [t]).length (tls (ks ++ [t])) (ks ++ [t]) := by
  have e : (ks ++ [t]).length = ks.length + 1 := by simp
  have e2 : tls (ks ++ [t]) = tls ks ++ [.int .i64 t.sym, .int .i64 t.prod, .slice t.a t.kids.length t.c] := by rw [tls_app]; rfl
  rw [e, e2]
  exact h
theorem Kd.fin {T : Nat} {sym p : Int} {w W WF : World} {ka : Option Addr} {kc : Nat} {ks : List Tl} (h : Kd T sym p w W (.slice ka ks.length kc) (.slice ka ks.length kc) ks.length (tls ks) ks) (hs : WF.heap.size = W.heap.size) (hk : ∀ b, T < b → WF.heap[b]? = W.heap[b]?) : Lies (fun b => w.heap.size ≤ b) WF (Tl.mk sym p ka kc ks) := by
  have hTT := h.hT
  refine .mk (own_cells (own_same h.own fun g hg _ => hk g (by have := (own_block h.own hg).1; omega))).1 (own_cells h.own).2 ?_ ?_
  · intro hne x hx
    have hl : 0 < ks.length := List.length_pos_iff.2 hne
    have hown := h.own
    subst hx
    have := (own_block hown (g := x.block) (by simp [Value.ownBlock])).1
    omega
  · intro t ht
    exact (h.kids t ht).keep (by omega) (fun b hb _ => hk b hb.1) (fun b hb _ => by omega)

theorem infoTq : (Try.prog.info? 39).map (fun i => (i.zero, i.size, i.bytes)) = some (some (.agg #[.int .i64 0, .int .i64 0, .slice none 0 0]), 3, 40) := by kernel_rfl
/-- The productions of a nonterminal, by their places. -/
def idxF (sym : Int) : List (Int × List Int) → Nat → List Int
  | [], _ => []
  | q :: l, i => if q.1 = sym then (i : Int) :: idxF sym l (i + 1) else idxF sym l (i + 1)
theorem idxF_app (sym : Int) (q : Int × List Int) : ∀ (l : List (Int × List Int)) (i : Nat), idxF sym (l ++ [q]) i = idxF sym l i ++ if q.1 = sym then [((i + l.length : Nat) : Int)] else []
  | [], i => by simp [idxF]
  | r :: l, i => by
    rw [List.cons_append, idxF, idxF, idxF_app sym q l (i + 1), show i + 1 + l.length = i + (r :: l).length by simp; omega]
    split <;> simp
theorem idxF_step (sym : Int) (ls : List Lay) (k : Nat) {q : Lay} (hq : ls[k]? = some q) : idxF sym ((ls.take (k + 1)).map Lay.plain) 0 = idxF sym ((ls.take k).map Lay.plain) 0 ++ if q.left = sym then [(k : Int)] else [] := by
  have hk := (List.getElem?_eq_some_iff.1 hq).1
  rw [List.take_add_one, hq, List.map_append]
  show idxF sym (_ ++ [q.plain]) 0 = _
  rw [idxF_app, List.length_map, List.length_take, Nat.zero_add, Nat.min_eq_left (by omega)]
  rfl
theorem idxF_mem (sym : Int) : ∀ (l : List (Int × List Int)) (i : Nat) (x : Int), x ∈ idxF sym l i ↔ ∃ j q, l[j]? = some q ∧ q.1 = sym ∧ x = ((i + j : Nat) : Int)
  | [], i, x => by simp [idxF]
  | r :: l, i, x => by
    rw [idxF]
    constructor
    · intro h
      by_cases hr : r.1 = sym
      · rw [if_pos hr] at h
        rcases List.mem_cons.1 h with h | h
        · exact ⟨0, r, rfl, hr, by simpa using h⟩
        · obtain ⟨j, q, h1, h2, h3⟩ := (idxF_mem sym l (i + 1) x).1 h
          exact ⟨j + 1, q, by simpa using h1, h2, by rw [h3]; congr 1; omega⟩
      · rw [if_neg hr] at h
        obtain ⟨j, q, h1, h2, h3⟩ := (idxF_mem sym l (i + 1) x).1 h
        exact ⟨j + 1, q, by simpa using h1, h2, by rw [h3]; congr 1; omega⟩
    · rintro ⟨j, q, h1, h2, h3⟩
      cases j with
      | zero =>
        simp at h1
        subst h1
        rw [if_pos h2]
        exact List.mem_cons.2 (.inl (by simpa using h3))
      | succ j =>
        have : x ∈ idxF sym l (i + 1) := (idxF_mem sym l (i + 1) x).2 ⟨j, q, by simpa using h1, h2, by rw [h3]; congr 1; omega⟩
        split
        · exact List.mem_cons_of_mem _ this
        · exact this
theorem idxF_len (sym : Int) : ∀ (l : List (Int × List Int)) (i : Nat), (idxF sym l i).length ≤ l.length
  | [], i => by simp [idxF]
  | r :: l, i => by
    have := idxF_len sym l (i + 1)
    rw [idxF]
    split <;> simp only [List.length_cons] <;> omega

end Go.Proofs.Ytgfkkbpnphbdgaa
