/- Trees: a text that says a tree is read as that tree: the reader's own recursion; over any world. -/
import Derived.Test.YtflfmcikfiaoiaaTreeP
import Derived.Test.YtflfmcikfiaoiaaParse
import Derived.Test.YtflfmcikfiaoiaaRaw
import Derived.Deep.RegionLaw
import Derived.Deep.CutBlock
set_option linter.unusedVariables false
namespace Go.Proofs.Ytflfmcikfiaoiaa
open Go.RowKit
open Doc

/-! Reading, from the kids that are read on. -/
def aftF (g : Gr) (sym : Int) (f : Nat) (done : List Tr) (l : List UInt8) (n : Nat) : Option (Tr × List UInt8 × Nat) :=
  match rdK g f l n with
  | none => none
  | some y => if y.2.1.head? = some 41 then
      match derOf g sym (done ++ y.1) with
      | none => none
      | some p => some (.mk sym p (done ++ y.1), y.2.1.drop 1, y.2.2)
    else none
theorem rd_open (g : Gr) (f : Nat) {l : List UInt8} (n : Nat) (h : l.head? = some 40) {x : Int × List UInt8 × Nat} (hx : symR g (l.drop 1) n = some x) : rdT g (f + 1) l n = aftF g x.1 f [] x.2.1 x.2.2 := by
  rw [rdT, if_pos h, hx]
  unfold aftF
  simp only [List.nil_append]
  cases rdK g f x.2.1 x.2.2 with
  | none => rfl
  | some y =>
    simp only
    split
    · cases derOf g x.1 y.1 <;> rfl
    · rfl
theorem rd_open_no (g : Gr) (f : Nat) {l : List UInt8} (n : Nat) (h : l.head? = some 40) (hx : symR g (l.drop 1) n = none) : rdT g (f + 1) l n = none := by
  rw [rdT, if_pos h, hx]
theorem rd_leaf (g : Gr) (f : Nat) {l : List UInt8} (n : Nat) (h : l.head? ≠ some 40) : rdT g (f + 1) l n = match symR g l n with
    | none => none
    | some x => if x.1 = 0 then none else some (.mk x.1 (-1) [], x.2.1, x.2.2) := by
  rw [rdT, if_neg h]
  cases symR g l n <;> rfl
theorem aft_more (g : Gr) (sym : Int) (f : Nat) (done : List Tr) {l : List UInt8} (n : Nat) (h : l.head? = some 32) {x : Tr × List UInt8 × Nat} (hx : rdT g f (l.drop 1) n = some x) : aftF g sym (f + 1) done l n = aftF g sym f (done ++ [x.1]) x.2.1 x.2.2 := by
  unfold aftF
  rw [rdK, if_pos h, hx]
  simp only
  cases hk : rdK g f x.2.1 x.2.2 with
  | none => rfl
  | some y =>
    simp only
    rw [show done ++ x.1 :: y.1 = done ++ [x.1] ++ y.1 by simp]
theorem aft_more_no (g : Gr) (sym : Int) (f : Nat) (done : List Tr) {l : List UInt8} (n : Nat) (h : l.head? = some 32) (hx : rdT g f (l.drop 1) n = none) : aftF g sym (f + 1) done l n = none := by
  unfold aftF
  rw [rdK, if_pos h, hx]
theorem aft_end (g : Gr) (sym : Int) (f : Nat) (done : List Tr) {l : List UInt8} (n : Nat) (h : l.head? ≠ some 32) : aftF g sym (f + 1) done l n = if l.head? = some 41 then
      match derOf g sym done with
      | none => none
      | some p => some (.mk sym p done, l.drop 1, n)
    else none := by
  unfold aftF
  rw [rdK, if_neg h]
  simp only [List.append_nil]
theorem rd_num (g : Gr) : ∀ f l n, n ≤ 400 → (∀ x, rdT g f l n = some x → x.2.2 ≤ 400 ∧ x.2.1 <:+ l) ∧ (∀ x, rdK g f l n = some x → x.2.2 ≤ 400 ∧ x.2.1 <:+ l)
  | 0, l, n, hn => ⟨fun x h => by simp [rdT] at h, fun x h => by simp [rdK] at h⟩
  | f + 1, l, n, hn => by
    have sx : ∀ {l : List UInt8} {n : Nat} {y : Int × List UInt8 × Nat}, symR g l n = some y → y.2.2 ≤ 400 ∧ y.2.1 <:+ l := fun {l n y} h => by
      obtain ⟨h1, h2, _, h4⟩ := symR_ok h
      exact ⟨by omega, by rw [h4]; exact List.dropWhile_suffix _⟩
    constructor
    · intro x h
      simp only [rdT] at h
      split at h
      · cases hs : symR g (l.drop 1) n with
        | none => rw [hs] at h; cases h
        | some y =>
          rw [hs] at h
          simp only at h
          have h1 := sx hs
          cases hk : rdK g f y.2.1 y.2.2 with
          | none => rw [hk] at h; cases h
          | some z =>
            rw [hk] at h
            simp only at h
            have h2 := (rd_num g f y.2.1 y.2.2 h1.1).2 _ hk
            split at h
            · cases hd : derOf g y.1 z.1 with
              | none => rw [hd] at h; cases h
              | some p =>
                rw [hd] at h
                cases h
                exact ⟨h2.1, (List.drop_suffix _ _).trans (h2.2.trans (h1.2.trans (List.drop_suffix _ _)))⟩
            · cases h
      · cases hs : symR g l n with
        | none => rw [hs] at h; cases h
        | some y =>
          rw [hs] at h
          simp only at h
          have h1 := sx hs
          split at h
          · cases h
          · cases h; exact h1
    · intro x h
      simp only [rdK] at h
      split at h
      · cases ht : rdT g f (l.drop 1) n with
        | none => rw [ht] at h; cases h
        | some y =>
          rw [ht] at h
          simp only at h
          have h1 := (rd_num g f _ n hn).1 _ ht
          cases hk : rdK g f y.2.1 y.2.2 with
          | none => rw [hk] at h; cases h
          | some z =>
            rw [hk] at h
            have h2 := (rd_num g f _ _ h1.1).2 _ hk
            cases h
            exact ⟨h2.1, h2.2.trans (h1.2.trans (List.drop_suffix _ _))⟩
      · cases h; exact ⟨hn, List.suffix_refl _⟩

theorem Asc.suff {s s' : ByteArray} (h : Asc s) (hs : s'.data.toList <:+ s.data.toList) : Asc s' := trivial

/-! Where the reader stands among a tree's kids. -/
structure Cur (R T B2 : Nat) (x1 x2 x3 : Value) (sym : Int) (w W : World) (s : ByteArray) (n : Nat) (kv rv : Value) (cnt : Nat) (xs : List Value) (ks : List Tl) : Prop where
  rd : RdAt R W x1 x2 x3 s n
  t : W.heap[T]? = some (.cells #[.int .i64 sym, .int .i64 0, kv] 71)
  k : Kept R w W
  z : W.heap[B2]? = some (.cells #[.int .i64 0, .int .i64 0, .slice none 0 0] 71)
  own : W.ownsRow (T + 1) 71 3 rv cnt xs
  kids : ∀ t ∈ ks, Lies (fun b => T < b ∧ rv.ownBlock ≠ some b) W t
  hT : w.heap.size ≤ T
  hB : w.heap.size ≤ B2
  hTB : B2 < T
section
variable {R T B2 : Nat} {x1 x2 x3 : Value} {sym : Int} {w W : World} {s : ByteArray} {n : Nat} {kv rv : Value} {cnt : Nat} {xs : List Value} {ks : List Tl}
theorem Cur.below (h : Cur R T B2 x1 x2 x3 sym w W s n kv rv cnt xs ks) {W' : World} (hb : Below W.heap.size W W') : Cur R T B2 x1 x2 x3 sym w W' s n kv rv cnt xs ks where
  rd := h.rd.below hb
  t := (hb.block _ (heap_lt h.t)).trans h.t
  k := h.k.below hb
  z := (hb.block _ (heap_lt h.z)).trans h.z
  own := own_same h.own fun g _ hg => hb.block g hg
  kids := fun t ht => (h.kids t ht).under hb
  hT := h.hT
  hB := h.hB
  hTB := h.hTB
theorem Cur.drew (h : Cur R T B2 x1 x2 x3 sym w W s n kv rv cnt xs ks) : Cur R T B2 x1 x2 x3 sym w W.drew s n kv rv cnt xs ks := h.below (Below.refl _ _).drew
theorem Cur.alloc (h : Cur R T B2 x1 x2 x3 sym w W s n kv rv cnt xs ks) (o : Obj) : Cur R T B2 x1 x2 x3 sym w (W.alloc o) s n kv rv cnt xs ks := h.below ((Below.refl _ _).alloc (Nat.le_refl _) _)
theorem Cur.setT (h : Cur R T B2 x1 x2 x3 sym w W s n kv rv cnt xs ks) (v : Value) : Cur R T B2 x1 x2 x3 sym w (W.setCell ⟨T, 2, none⟩ v) s n v rv cnt xs ks := by
  have hk : ∀ b, b ≠ T → (W.setCell ⟨T, 2, none⟩ v).heap[b]? = W.heap[b]? := fun b hb => Below.heap_setCell _ _ _ _ hb
  have hR : R ≠ T := by have := h.k.lt; have := h.hT; omega
  refine ⟨(hk R hR).trans h.rd, ?_, h.k.set T 2 (.inr h.hT) v, (hk B2 (by have := h.hTB; omega)).trans h.z, own_same h.own fun g hg _ => hk g (by have := (own_block h.own hg).1; omega), fun t ht => (h.kids t ht).keep (by simp) (fun b hb _ => hk b (by omega)) (fun _ hp _ => hp), h.hT, h.hB, h.hTB⟩
  rw [heap_set W T 2 v _ _ h.t (by simp)]
  rfl
theorem Cur.call (h : Cur R T B2 x1 x2 x3 sym w W s n kv rv cnt xs ks) {W' : World} {s' : ByteArray} {n' : Nat} {tk : Tl} (hk : Kept R W W') (hr : RdAt R W' x1 x2 x3 s' n') (hl : Lies (fun b => W.heap.size ≤ b) W' tk) : Cur R T B2 x1 x2 x3 sym w W' s' n' kv rv cnt xs (ks ++ [tk]) := by
  have hTR : ∀ b, w.heap.size ≤ b → b ≠ R := fun b hb => by have := h.k.lt; omega
  have hlt := heap_lt h.t
  refine ⟨hr, (hk.k _ hlt (hTR T h.hT)).trans h.t, h.k.trans hk, (hk.k _ (heap_lt h.z) (hTR B2 h.hB)).trans h.z, own_same h.own fun g hg hl => hk.k g hl (hTR g (by have := (own_block h.own hg).1; have := h.hT; omega)), ?_, h.hT, h.hB, h.hTB⟩
  intro t ht
  rcases List.mem_append.1 ht with ht | ht
  · exact (h.kids t ht).keep hk.s (fun b hb hl => hk.k b hl (hTR b (by have := h.hT; omega))) (fun _ hp _ => hp)
  · rw [List.mem_singleton] at ht
    subst ht
    refine hl.weak fun b hb _ => ⟨by omega, fun e => ?_⟩
    have := (own_block h.own e).2.1
    omega
theorem Cur.grow (h : Cur R T B2 x1 x2 x3 sym w W s n kv rv cnt xs ks) {W' : World} {g cap cnt' : Nat} {xs' : List Value} (ho : W'.ownsRow (T + 1) 71 3 (.slice (some ⟨g, 0, none⟩) cnt' cap) cnt' xs') (hg : W.grownBy W' rv.ownBlock) (ha : rv.ownBlock = some g ∨ g = W.heap.size) : Cur R T B2 x1 x2 x3 sym w W' s n kv (.slice (some ⟨g, 0, none⟩) cnt' cap) cnt' xs' ks := by
  have hk : ∀ b, b < W.heap.size → rv.ownBlock ≠ some b → W'.heap[b]? = W.heap[b]? := fun b hb hn => hg.block b hb hn.symm
  have hlo : ∀ b, b ≤ T → rv.ownBlock ≠ some b := fun b hb e => by have := (own_block h.own e).1; omega
  have hlt := heap_lt h.t
  have hRT : R < T := by have := h.k.lt; have := h.hT; omega
  have hbel : Below (T + 1) W W' := (Below.refl _ _).grown hg (by omega) fun k hk => (own_block h.own hk).1
  refine ⟨(hk R (heap_lt h.rd) (hlo R (by omega))).trans h.rd, (hk T hlt (hlo T (Nat.le_refl _))).trans h.t, ⟨h.k.lt, h.k.b.trans (hbel.mono (by omega)), Nat.le_trans h.k.s hbel.size, fun j hj hn => (hk j (Nat.lt_of_lt_of_le hj h.k.s) (hlo j (by have := h.hT; omega))).trans (h.k.k j hj hn)⟩, (hk B2 (heap_lt h.z) (hlo B2 (by have := h.hTB; omega))).trans h.z, ho, ?_, h.hT, h.hB, h.hTB⟩
  intro t ht
  refine (h.kids t ht).keep hbel.size (fun b hb hl => hk b hl hb.2) (fun b hb hl => ⟨hb.1, fun e => ?_⟩)
  have e' : g = b := by simpa [Value.ownBlock] using e
  rcases ha with ha | ha
  · exact hb.2 (e' ▸ ha)
  · omega
theorem Cur.store {g cap : Nat} (h : Cur R T B2 x1 x2 x3 sym w W s n kv (.slice (some ⟨g, 0, none⟩) cnt cap) cnt xs ks) (j : Nat) (u : Value) : Cur R T B2 x1 x2 x3 sym w (W.setCell ⟨g, j, none⟩ u) s n kv (.slice (some ⟨g, 0, none⟩) cnt cap) cnt (xs.set j u) ks := by
  have hgT : T + 1 ≤ g := (own_block h.own (by simp [Value.ownBlock])).1
  have hk : ∀ b, b ≠ g → (W.setCell ⟨g, j, none⟩ u).heap[b]? = W.heap[b]? := fun b hb => Below.heap_setCell _ _ _ _ hb
  have hRT : R < T := by have := h.k.lt; have := h.hT; omega
  refine ⟨(hk R (by omega)).trans h.rd, (hk T (by omega)).trans h.t, h.k.set g j (.inr (by have := h.hT; omega)) u, (hk B2 (by have := h.hTB; omega)).trans h.z, (h.own.stored j u).1, fun t ht => (h.kids t ht).keep (by simp) (fun b hb _ => hk b fun e => hb.2 (by simp [Value.ownBlock, e])) (fun _ hp _ => hp), h.hT, h.hB, h.hTB⟩
theorem Cur.cell {g cap : Nat} (h : Cur R T B2 x1 x2 x3 sym w W s n kv (.slice (some ⟨g, 0, none⟩) cnt cap) cnt xs ks) (j : Nat) (hj : j < cnt * 3) {u : Value} (hu : xs[j]? = some u) : W.cell? ⟨g, j, none⟩ = some u ∧ W.frozen? ⟨g, j, none⟩ = false :=
  ⟨(h.own.cellAt j hj).trans hu, h.own.frozenAt j⟩
end
theorem Cur.read {R T B2 : Nat} {x1 x2 x3 : Value} {sym : Int} {w W : World} {s : ByteArray} {n : Nat} {kv rv : Value} {cnt : Nat} {xs : List Value} {ks : List Tl} (h : Cur R T B2 x1 x2 x3 sym w W s n kv rv cnt xs ks) {W' : World} {s' : ByteArray} {n' : Nat} (hk : Kept R W W') (hr : RdAt R W' x1 x2 x3 s' n') : Cur R T B2 x1 x2 x3 sym w W' s' n' kv rv cnt xs ks := by
  have hTR : ∀ b, w.heap.size ≤ b → b ≠ R := fun b hb => by have := h.k.lt; omega
  exact ⟨hr, (hk.k _ (heap_lt h.t) (hTR T h.hT)).trans h.t, h.k.trans hk, (hk.k _ (heap_lt h.z) (hTR B2 h.hB)).trans h.z, own_same h.own fun g hg hl => hk.k g hl (hTR g (by have := (own_block h.own hg).1; have := h.hT; omega)), fun t ht => (h.kids t ht).keep hk.s (fun b hb hl => hk.k b hl (hTR b (by have := h.hT; omega))) (fun _ hp _ => hp), h.hT, h.hB, h.hTB⟩
theorem tls_put (ks : List Tl) (m : Nat) (hm : ks.length = m) (t : Tl) (a b c : Value) : (((tls ks ++ [a, b, c]).set (m * 3) (.int .i64 t.sym)).set (m * 3 + 1) (.int .i64 t.prod)).set (m * 3 + 2) (.slice t.a t.kids.length t.c) = tls (ks ++ [t]) := by
  have hl : (tls ks).length = m * 3 := by rw [tls_len, hm]
  rw [tls_app]
  rw [List.set_append_right _ _ (by omega), List.set_append_right _ _ (by omega), List.set_append_right _ _ (by omega), hl]
  rw [show m * 3 - m * 3 = 0 by omega, show m * 3 + 1 - m * 3 = 1 by omega, show m * 3 + 2 - m * 3 = 2 by omega]
  rfl
theorem tls_new (ks : List Tl) (m : Nat) (hm : ks.length = m) (a b c : Value) : (tls ks ++ [a, b, c])[m * 3]? = some a ∧ (tls ks ++ [a, b, c])[m * 3 + 1]? = some b ∧ (tls ks ++ [a, b, c])[m * 3 + 2]? = some c := by
  have hl : (tls ks).length = m * 3 := by rw [tls_len, hm]
  refine ⟨?_, ?_, ?_⟩
  · rw [List.getElem?_append_right (by omega), hl, show m * 3 - m * 3 = 0 by omega]; rfl
  · rw [List.getElem?_append_right (by omega), hl, show m * 3 + 1 - m * 3 = 1 by omega]; rfl
  · rw [List.getElem?_append_right (by omega), hl, show m * 3 + 2 - m * 3 = 2 by omega]; rfl

theorem Cur.done {R T B2 : Nat} {x1 x2 x3 : Value} {sym : Int} {w W : World} {s : ByteArray} {n : Nat} {ks : List Tl} {g cap : Nat} {t : Tl} {a b c : Value} (h : Cur R T B2 x1 x2 x3 sym w W s n (.slice (some ⟨g, 0, none⟩) (ks.length + 1) cap) (.slice (some ⟨g, 0, none⟩) (ks.length + 1) cap) (ks.length + 1) ((((tls ks ++ [a, b, c]).set (ks.length * 3) (.int .i64 t.sym)).set (ks.length * 3 + 1) (.int .i64 t.prod)).set (ks.length * 3 + 2) (.slice t.a t.kids.length t.c)) (ks ++ [t])) :
    Cur R T B2 x1 x2 x3 sym w W s n (.slice (some ⟨g, 0, none⟩) (ks ++ [t]).length cap) (.slice (some ⟨g, 0, none⟩) (ks ++ [t]).length cap) (ks ++ [t]).length (tls (ks ++ [t])) (ks ++ [t]) := by
  rw [tls_put ks ks.length rfl t a b c] at h
  have e : (ks ++ [t]).length = ks.length + 1 := by simp
  rw [e]
  exact h
theorem Cur.fin {R T B2 : Nat} {x1 x2 x3 : Value} {sym : Int} {w W WF : World} {s : ByteArray} {n : Nat} {ka : Option Addr} {kc : Nat} {ks : List Tl} (h : Cur R T B2 x1 x2 x3 sym w W s n (.slice ka ks.length kc) (.slice ka ks.length kc) ks.length (tls ks) ks) (hs : WF.heap.size = W.heap.size) (hk : ∀ b, b ≠ T → b ≠ B2 → WF.heap[b]? = W.heap[b]?) (p : Int) : Lies (fun b => w.heap.size ≤ b) WF (Tl.mk sym p ka kc ks) := by
  have hTB := h.hTB
  have hTT := h.hT
  refine .mk (own_cells (own_same h.own fun g hg _ => hk g (by have := (own_block h.own hg).1; omega) (by have := (own_block h.own hg).1; omega))).1 (own_cells h.own).2 ?_ ?_
  · intro hne x hx
    have hl : 0 < ks.length := List.length_pos_iff.2 hne
    have hown := h.own
    subst hx
    have := (own_block hown (g := x.block) (by simp [Value.ownBlock])).1
    omega
  · intro t ht
    exact (h.kids t ht).keep (by omega) (fun b hb _ => hk b (by omega) (by omega)) (fun b hb _ => by omega)

theorem infoTr : (Try.prog.info? 71).map (fun i => (i.zero, i.size, i.bytes)) = some (some (.agg #[.int .i64 0, .int .i64 0, .slice none 0 0]), 3, 40) := by kernel_rfl

theorem gram_open {w : World} {a1 a2 a3 : Option Addr} {c1 c2 c3 : Nat} {g : Gr} (h : GramAt w (.agg #[.slice a1 g.terms.length c1, .slice a2 g.nons.length c2, .slice a3 g.prods.length c3]) g) : ∃ ls : List Lay, ls.map Lay.plain = g.prods ∧ Cells w a3 (lays ls) ∧ ∀ p ∈ ls, Cells w p.addr (nums p.right) := by
  obtain ⟨_, _, _, _, _, _, ls, heq, hp, k1, k2, k3, k4, k5, k6, k7⟩ := h
  have h2 : (.slice a3 g.prods.length c3 : Value) = _ := congrArg (fun v => match v with | .agg x => x.getD 2 undef | _ => undef) heq
  have h3 := (Value.slice.inj h2).1
  exact ⟨ls, hp, by rw [h3]; exact k3, k4⟩

/-- How tree ends, where a tree is read. -/
def TreeEnd (R : Nat) (x1 x2 x3 : Value) (y : Tr × List UInt8 × Nat) (w : World) (e : Ending) (w' : World) : Prop :=
  Kept R w w' ∧ ∃ (t : Tl) (s' : ByteArray), t.plain = y.1 ∧ e = .returned (.agg #[.int .i64 t.sym, .int .i64 t.prod, .slice t.a t.kids.length t.c]) ∧ Lies (fun b => w.heap.size ≤ b) w' t ∧ s'.data.toList = y.2.1 ∧ RdAt R w' x1 x2 x3 s' y.2.2
def restZ (R : Nat) (w : World) : Nat := match w.heap[R]? with
  | some (.cells cs _ _) => match (cs[3]? : Option Value) with
    | some (Value.string s) => s.size
    | _ => 0
  | _ => 0
theorem restZ_at {R : Nat} {w : World} {x1 x2 x3 : Value} {s : ByteArray} {n : Nat} (h : RdAt R w x1 x2 x3 s n) : restZ R w = s.size := by
  unfold restZ
  rw [h]
  rfl
theorem Cur.less {R T B2 : Nat} {x1 x2 x3 : Value} {sym : Int} {w W : World} {s : ByteArray} {n : Nat} {kv rv : Value} {cnt : Nat} {xs : List Value} {ks : List Tl} (h : Cur R T B2 x1 x2 x3 sym w W s n kv rv cnt xs ks) {m k : Nat} (hs : s.size ≤ m) (hm : m < k) : restZ R W < k := by
  rw [restZ_at h.rd]; omega
theorem size_list (s : ByteArray) : s.size = s.data.toList.length := by simp

set_option maxRecDepth 100000 in
set_option maxHeartbeats 8000000 in
theorem tree_any (R : Nat) (a1 a2 a3 : Option Addr) (c1 c2 c3 : Nat) (g : Gr) (w0 : World) (hg : GramAt w0 (.agg #[.slice a1 g.terms.length c1, .slice a2 g.nons.length c2, .slice a3 g.prods.length c3]) g) (hf : Fits g) (hR : w0.heap.size ≤ R) : ∀ (f : Nat) (s : ByteArray) (n : Nat) (w : World) (y : Tr × List UInt8 × Nat),
    RdAt R w (.slice a1 g.terms.length c1) (.slice a2 g.nons.length c2) (.slice a3 g.prods.length c3) s n → Below w0.heap.size w0 w → Asc s → s.size < f → f ≤ 980000 → n ≤ 400 → rdT g f s.data.toList n = some y →
    Calls Try.prog 114 #[.pointer (some ⟨R, 0, none⟩)] w (TreeEnd R (.slice a1 g.terms.length c1) (.slice a2 g.nons.length c2) (.slice a3 g.prods.length c3) y w) := by
  intro f
  induction f using Nat.strongRecOn with
  | _ f ih =>
  intro s n w y h hbw ha hlen hf2 hn hy
  obtain ⟨i0, hi0, hz0, hz1, hz2⟩ := info_of infoTr
  obtain ⟨f, rfl⟩ : ∃ f', f = f' + 1 := ⟨f - 1, by omega⟩
  have HIH := Lib.hid ih
  have HG := Lib.hid hg
  have HF := Lib.hid hf
  have HAS := Lib.hid ha
  have hlR := heap_lt h
  have hss : s.size ≤ 980000 := by omega
  obtain ⟨hbA, hsA, qA⟩ := one_alloc w (.cells #[.int .i64 0, .int .i64 0, .slice none 0 0] 71)
  have hkA : Kept R w (w.alloc (.cells #[.int .i64 0, .int .i64 0, .slice none 0 0] 71)) := (Kept.refl hlR).below hbA
  have hrA := h.below hbA
  have HSYM := Lib.hid fun (W : World) (s' : ByteArray) (hs : s'.data.toList <:+ s.data.toList) (hk : Kept R w W) (hr : RdAt R W (.slice a1 g.terms.length c1) (.slice a2 g.nons.length c2) (.slice a3 g.prods.length c3) s' n) => symbol_any R _ _ _ g s' n w0 W hg hf (hbw.trans (hk.b.mono hR)) hR hr (ha.suff hs) (by rw [size_list]; have := hs.length_le; rw [← size_list s] at this; omega) hn
  have HBW := Lib.hid hbw
  have HKA := Lib.hid hkA
  have HRA := Lib.hid hrA
  have HQA := Lib.hid qA
  have HSA := Lib.hid hsA
  clear ih hg hf ha hbw hbA hsA qA hkA hrA h
  by_cases hh : s.data.toList.head? = some 40
  · cases hsy : symR g (s.data.toList.drop 1) n with
    | none => rw [rd_open_no g f n hh hsy] at hy; cases hy
    | some x =>
      have HY0 := Lib.hid ((rd_open g f n hh hsy).symm.trans hy)
      have hso := symR_ok hsy
      have HTY := Lib.hid (took_yes HRA.out 40 hh)
      have HSY := Lib.hid fun W (hk : Kept R w W) hr => HSYM.out W ⟨(s.data.toList.drop 1).toArray⟩ (List.drop_suffix _ _) hk hr
      have e1 : symR g (⟨(s.data.toList.drop 1).toArray⟩ : ByteArray).data.toList n = some x := hsy
      rw [e1] at HSY
      have hxs : x.2.1 <:+ s.data.toList := by rw [hso.2.2.2]; exact (List.dropWhile_suffix _).trans (List.drop_suffix _ _)
      have hxl : x.2.1.length + 1 ≤ s.size := by
        have h1 := (List.dropWhile_suffix notSign (l := s.data.toList.drop 1)).length_le
        rw [← hso.2.2.2, List.length_drop] at h1
        have h2 : 0 < s.data.toList.length := by
          cases hl : s.data.toList with
          | nil => rw [hl] at hh; cases hh
          | cons c l => simp
        rw [size_list]
        omega
      have HXS := Lib.hid hxs
      have hxn : x.2.2 ≤ 400 := by have := hso.1; have := hso.2.1; omega
      obtain ⟨xs, xl, xn⟩ := x
      simp only at HY0 hxl hxn HXS HSY
      clear hsy hso hh hy e1 hxs HSYM
      go_enter Try.func114, Try.ntmps114
      go_upto_region 6 with (first
        | (go_at_call 143; refine HTY.out.mono ?_; rintro e w2 ⟨rfl, hr2, hk2⟩)
        | (go_at_call 144; refine (HSY.out _ (HKA.out.trans hk2) hr2).mono ?_; rintro e w3 ⟨hk3, s3, rfl, hs3, hr3⟩))
      have hk03 := (HKA.out.trans hk2).trans hk3
      obtain ⟨hbS, hsS, qS⟩ := one_alloc w3 (.cells #[.int .i64 xs, .int .i64 0, .slice none 0 0] 71)
      have hRT : R < w.heap.size := hlR
      have hT : w.heap.size + 1 ≤ w3.heap.size := by have h1 := hk2.s; have h2 := hk3.s; have h3 := HSA.out; omega
      have hz3 := (hbS.block w.heap.size (by omega)).trans ((hk3.k w.heap.size (by have h1 := hk2.s; have h3 := HSA.out; omega) (by omega)).trans ((hk2.k w.heap.size (by have h3 := HSA.out; omega) (by omega)).trans HQA.out))
      have HC0 : Hid (Cur R w3.heap.size w.heap.size (.slice a1 g.terms.length c1) (.slice a2 g.nons.length c2) (.slice a3 g.prods.length c3) xs w (w3.alloc (.cells #[.int .i64 xs, .int .i64 0, .slice none 0 0] 71)) s3 xn (.slice none 0 0) (.slice none 0 0) 0 [] []) := Lib.hid
        ⟨hr3.below hbS, qS, hk03.below hbS, hz3, World.ownsRow_nil _ _ _ _, fun _ h => (by cases h), by omega, Nat.le_refl _, by omega⟩
      have HS3 := Lib.hid hs3
      clear hk2 hr2 hk3 hs3 hr3 hk03 hbS hsS qS hz3 HTY HSY
      generalize w3.alloc (.cells #[.int .i64 xs, .int .i64 0, .slice none 0 0] 71) = S at *
      generalize w3.heap.size = T at *
      go_loopw [21] (fun _ wr => ∃ (f2 : Nat) (s2 : ByteArray) (n2 : Nat) (ka : Option Addr) (kc : Nat) (ks : List Tl), Hid (Cur R T w.heap.size (.slice a1 g.terms.length c1) (.slice a2 g.nons.length c2) (.slice a3 g.prods.length c3) xs w wr s2 n2 (.slice ka ks.length kc) (.slice ka ks.length kc) ks.length (tls ks) ks) ∧ s2.size < f2 ∧ f2 ≤ f ∧ ks.length + s2.size ≤ 980000 ∧ Hid (Asc s2) ∧ n2 ≤ 400 ∧ Hid (aftF g xs f2 (ks.map Tl.plain) s2.data.toList n2 = some y)) (fun _ wr => restZ R wr)
      case atStart =>
        exact ⟨f, s3, xn, none, 0, [], HC0, by rw [size_list, HS3.out]; omega, Nat.le_refl _, by rw [size_list, HS3.out]; simp only [List.length_nil]; omega, Lib.hid (HAS.out.suff (by rw [HS3.out]; exact HXS.out)), hxn, Lib.hid (by rw [HS3.out]; exact HY0.out)⟩
      case round =>
        clear HC0 HS3 HY0
        obtain ⟨f2, s2, n2, ka, kc, ks, HC, h1, h2, h3, HA2, h4, HY⟩ := hrel
        obtain ⟨f3, rfl⟩ : ∃ f', f2 = f' + 1 := ⟨f2 - 1, by omega⟩
        by_cases hsp : s2.data.toList.head? = some 32
        · cases ht : rdT g f3 (s2.data.toList.drop 1) n2 with
          | none =>
            have := HY.out
            rw [aft_more_no g xs f3 (ks.map Tl.plain) n2 hsp ht] at this
            cases this
          | some z =>
            have HY3 := Lib.hid ((aft_more g xs f3 (ks.map Tl.plain) n2 hsp ht).symm.trans HY.out)
            have HTK := Lib.hid (took_yes HC.out.rd 32 hsp)
            have hlen2 : (s2.data.toList.drop 1).length + 1 ≤ s2.size := by
              have h2 : 0 < s2.data.toList.length := by
                cases hl : s2.data.toList with
                | nil => rw [hl] at hsp; cases hsp
                | cons c l => simp
              rw [List.length_drop, size_list]
              omega
            have hzn := (rd_num g f3 _ n2 h4).1 _ ht
            have HZN := Lib.hid hzn
            have hCALL : ∀ (W : World) (kv rv : Value) (cnt : Nat) (vs : List Value) (kk : List Tl), Cur R T w.heap.size (.slice a1 g.terms.length c1) (.slice a2 g.nons.length c2) (.slice a3 g.prods.length c3) xs w W ⟨(s2.data.toList.drop 1).toArray⟩ n2 kv rv cnt vs kk →
                Calls Try.prog 114 #[.pointer (some ⟨R, 0, none⟩)] W fun e w' => ∃ (t : Tl) (s' : ByteArray), Hid (t.plain = z.1) ∧ e = .returned (.agg #[.int .i64 t.sym, .int .i64 t.prod, .slice t.a t.kids.length t.c]) ∧ Hid (s'.data.toList = z.2.1) ∧ Hid (Kept R W w') ∧ Hid (Cur R T w.heap.size (.slice a1 g.terms.length c1) (.slice a2 g.nons.length c2) (.slice a3 g.prods.length c3) xs w w' s' z.2.2 kv rv cnt vs (kk ++ [t])) := fun W kv rv cnt vs kk hc =>
              (HIH.out f3 (by omega) ⟨(s2.data.toList.drop 1).toArray⟩ n2 W z hc.rd (HBW.out.trans (hc.k.b.mono hR)) (HA2.out.suff (List.drop_suffix _ _)) (by show (s2.data.toList.drop 1).length < f3; omega) (by omega) h4 ht).mono fun e w' ⟨hk, t, s', hp, he, hli, hs', hr'⟩ => ⟨t, s', Lib.hid hp, he, Lib.hid hs', Lib.hid hk, Lib.hid (hc.call hk hr' hli)⟩
            have HCALL := Lib.hid hCALL
            have HA3 := HA2
            have hkl : ks.length ≤ 980000 := by omega
            clear hzn hCALL ht hsp HY HIH
            go_upto_region 7 with (go_at_call 143; refine HTK.out.mono ?_; rintro e w4 ⟨rfl, hr4, hk4⟩)
            have HL := Lib.hid (HC.out.read hk4 hr4)
            have hzr : restZ R wr = s2.size := restZ_at HC.out.rd
            clear hr4 hk4 HTK HC
            obtain ⟨cT, zT⟩ := blk_cell (i := 2) HL.out.t rfl
            have lT := heap_lt HL.out.t
            have hTR : ¬ T = R := by have h1 := HL.out.hT; have h2 := HL.out.k.lt; omega
            have hlenA : (s2.data.toList.drop 1).length + 1 ≤ s2.size ∧ s2.size < f3 + 1 ∧ ks.length + s2.size ≤ 980000 ∧ f3 + 1 ≤ f := ⟨hlen2, h1, h3, h2⟩
            have hmeas : (s2.data.toList.drop 1).length < restZ R wr := by rw [hzr]; omega
            clear h2 h3 hlen2 h1 hzr
            have hidx : (ks.length : Int) < (ks.length : Int) + 1 := by omega
            go_region_law (first
              | (go_simp; go_at_call 114; with_reducible refine (HCALL.out _ _ _ _ _ _ HL.out.drew).mono ?_
                 rintro e w5 ⟨tk, s5, hpl, rfl, hs5, HK5, HC5⟩
                 obtain ⟨cT5, zT5⟩ := blk_cell (i := 2) HC5.out.t rfl
                 have lT5 := heap_lt HC5.out.t)
              | (go_simp; go_at_call 114; with_reducible refine (HCALL.out _ _ _ _ _ _ (HL.out.alloc (.cells #[.int .i64 0, .int .i64 0, .slice none 0 0] 71)).drew).mono ?_
                 rintro e w5 ⟨tk, s5, hpl, rfl, hs5, HK5, HC5⟩
                 have HZ5 := Lib.hid ((HK5.out.k w4.heap.size (by simp) (by have h2 := HL.out.k.lt; have h3 := HL.out.k.s; omega)).trans (heap_alloc_new w4 (.cells #[.int .i64 0, .int .i64 0, .slice none 0 0] 71)))
                 obtain ⟨cT5, zT5⟩ := blk_cell (i := 2) HC5.out.t rfl
                 have lT5 := heap_lt HC5.out.t)
              | (refine step_append_lies _ (by rfl) _ _ _ (by rfl) (T + 1) 71 i0 _ 3 40 Try.underlying69 hi0 hz0 hz1 hz2 rfl (by omega) _ ks.length (tls ks) (by rfl) ((HC5.out.alloc (.cells #[.int .i64 0, .int .i64 0, .slice none 0 0] 71)).own) ⟨w5.heap.size, 0, none⟩ 1 1 [.int .i64 0, .int .i64 0, .slice none 0 0] (by rfl) (by rfl) (World.news_of_block (cs := #[.int .i64 0, .int .i64 0, .slice none 0 0]) (t := 71) (fr := (0, 0)) (heap_alloc_new w5 (.cells #[.int .i64 0, .int .i64 0, .slice none 0 0] 71))) (by simp [Value.oneCell']) (by omega) (by unfold maxLen; omega) (by omega) (by have := heap_lt HC5.out.t; simp <;> omega) _ rfl ?_
                 intro g6 cap6 w6 hown6 hgrow6 hat6 hlt6
                 have HC6 := Lib.hid ((HC5.out.alloc (.cells #[.int .i64 0, .int .i64 0, .slice none 0 0] 71)).grow hown6 hgrow6 hat6)
                 obtain ⟨cT6, zT6⟩ := blk_cell (i := 2) HC6.out.t rfl
                 have lT6 := heap_lt HC6.out.t
                 obtain ⟨x0, y0⟩ := HC6.out.cell (ks.length * 3) (by omega) (tls_new ks ks.length rfl _ _ _).1
                 obtain ⟨x1, y1⟩ := HC6.out.cell (ks.length * 3 + 1) (by omega) (tls_new ks ks.length rfl _ _ _).2.1
                 obtain ⟨x2, y2⟩ := HC6.out.cell (ks.length * 3 + 2) (by omega) (tls_new ks ks.length rfl _ _ _).2.2
                 have hgT := (own_block HC6.out.own (g := g6) (by simp [Value.ownBlock])).1)
              | (refine step_append_lies _ (by rfl) _ _ _ (by rfl) (T + 1) 71 i0 _ 3 40 Try.underlying69 hi0 hz0 hz1 hz2 rfl (by omega) _ ks.length (tls ks) (by rfl) (HC5.out.own) ⟨w4.heap.size, 0, none⟩ 1 1 [.int .i64 0, .int .i64 0, .slice none 0 0] (by rfl) (by rfl) (World.news_of_block (cs := #[.int .i64 0, .int .i64 0, .slice none 0 0]) (t := 71) (fr := (0, 0)) HZ5.out) (by simp [Value.oneCell']) (by omega) (by unfold maxLen; omega) (by omega) (by have := heap_lt HC5.out.t; simp <;> omega) _ rfl ?_
                 intro g6 cap6 w6 hown6 hgrow6 hat6 hlt6
                 have HC6 := Lib.hid (HC5.out.grow hown6 hgrow6 hat6)
                 obtain ⟨cT6, zT6⟩ := blk_cell (i := 2) HC6.out.t rfl
                 have lT6 := heap_lt HC6.out.t
                 obtain ⟨x0, y0⟩ := HC6.out.cell (ks.length * 3) (by omega) (tls_new ks ks.length rfl _ _ _).1
                 obtain ⟨x1, y1⟩ := HC6.out.cell (ks.length * 3 + 1) (by omega) (tls_new ks ks.length rfl _ _ _).2.1
                 obtain ⟨x2, y2⟩ := HC6.out.cell (ks.length * 3 + 2) (by omega) (tls_new ks ks.length rfl _ _ _).2.2
                 have hgT := (own_block HC6.out.own (g := g6) (by simp [Value.ownBlock])).1))
            all_goals
              clear HL HC5 HK5 cT zT lT cT5 zT5 lT5 x0 y0 x1 y1 x2 y2 cT6 zT6 lT6 hgT hown6 hgrow6 hat6 hlt6 hidx
              have hzs : s5.size ≤ (s2.data.toList.drop 1).length := by rw [size_list, hs5.out]; exact HZN.out.2.length_le
              have HAZ : Hid (Asc s5) := Lib.hid (HA3.out.suff (by rw [hs5.out]; exact HZN.out.2.trans (List.drop_suffix _ _)))
              have HLN := Lib.hid hlenA
              have HMS := Lib.hid hmeas
              clear hlenA hmeas
              go_wp2
              go_roundw
              case rel =>
                refine ⟨f3, s5, z.2.2, some ⟨g6, 0, none⟩, cap6, ks ++ [tk], Lib.hid (Cur.done (t := tk) (a := .int .i64 0) (b := .int .i64 0) (c := .slice none 0 0) (by with_reducible first | exact (((HC6.out.store _ _).store _ _).store _ _).setT _ | exact (((HC6.out.setT _).store _ _).store _ _).store _ _)), ?_, by have := HLN.out; omega, ?_, HAZ, HZN.out.1, Lib.hid (by rw [List.map_append, hs5.out]; have h9 := HY3.out; rw [← hpl.out] at h9; exact h9)⟩
                · have := HLN.out; omega
                · have := HLN.out; rw [List.length_append]; simp only [List.length_cons, List.length_nil]; omega
              case measure =>
                refine Cur.less (by with_reducible first | exact (((HC6.out.store _ _).store _ _).store _ _).setT _ | exact (((HC6.out.setT _).store _ _).store _ _).store _ _) hzs HMS.out
        · have HEND := Lib.hid ((aft_end g xs f3 (ks.map Tl.plain) n2 hsp).symm.trans HY.out)
          have HTK := Lib.hid (took_no HC.out.rd 32 hsp)
          clear hsp HY HIH
          by_cases hcl : s2.data.toList.head? = some 41
          · cases hd : derOf g xs (ks.map Tl.plain) with
            | none =>
              have := HEND.out
              rw [if_pos hcl, hd] at this
              cases this
            | some p =>
              have hy := HEND.out
              rw [if_pos hcl, hd] at hy
              simp only at hy
              obtain rfl : (.mk xs p (ks.map Tl.plain), s2.data.toList.drop 1, n2) = y := Option.some.inj hy
              have HIXP := Lib.hid (idxP_some (show g.prods.findIdx? (derP xs (ks.map Tl.plain)) = some p from hd))
              clear hy hd HEND h1 h2
              go_upto_region 8 with (go_at_call 143; refine HTK.out.mono ?_; rintro e w4 ⟨rfl, hr4, hk4⟩)
              have HL := Lib.hid (HC.out.read hk4 hr4)
              have HTC := Lib.hid (took_yes hr4 41 hcl)
              have HMO := Lib.hid fun W => must_ok R W
              clear hr4 hk4 hcl HTK HC
              go_upto_region 9 with (first
                | (go_at_call 143; refine HTC.out.mono ?_; rintro e w5 ⟨rfl, hr5, hk5⟩)
                | (go_at_call 115; refine (HMO.out _).mono ?_; rintro e w6 ⟨rfl, hw⟩; rw [← hw]; clear hw))
              have HL5 := Lib.hid (HL.out.read hk5 hr5)
              clear hr5 hk5 HTC HL
              obtain ⟨ls, hp, k3, k4⟩ := gram_open HG.out
              have hpl : ls.length = g.prods.length := by rw [← hp, List.length_map]
              have hb5 := HBW.out.trans (HL5.out.k.b.mono hR)
              have hll : ls.length ≤ 1000000 := by have := HF.out.2.2.1; omega
              have hlies : Lies (fun b => T < b) w5 (Tl.mk xs 0 ka kc ks) := Lies.mk (own_cells HL5.out.own).1 (own_cells HL5.out.own).2 (fun hne x hx => by subst hx; have := (own_block HL5.out.own (g := x.block) (by simp [Value.ownBlock])).1; omega) (fun t ht => (HL5.out.kids t ht).weak fun b hb _ => hb.1)
              have HIF := Lib.hid (indexTree_any ls a3 c3 (fun b => T < b) T xs 0 ka kc ks w5 (k3.below hb5) hll HL5.out.t (fun q hq => ⟨(k4 q hq).below hb5, by have := HF.out.2.2.2 q.plain (by rw [← hp]; exact List.mem_map_of_mem hq); exact this⟩) hlies (by omega))
              rw [hp, HIXP.out, hpl] at HIF
              have d2 := (blk_cell (i := 2) HL5.out.rd rfl).1
              have lR := heap_lt HL5.out.rd
              have hp0 : (0 : Int) ≤ p := by omega
              have hp1 : decide ((p : Int) ≥ 0) = true := decide_eq_true hp0
              have hTB := HL5.out.hTB
              have hne1 : ¬ w.heap.size = T := by omega
              have hne2 : ¬ T = w.heap.size := by omega
              clear hp hpl k3 k4 hb5 hll hlies HIXP
              go_upto_region 10 with (go_at_call 145; refine HIF.out.mono ?_; rintro e w6 ⟨rfl, hb6⟩; have q6 := (hb6.block _ (heap_lt HL5.out.t)).trans HL5.out.t; have r6 := (hb6.block _ (heap_lt HL5.out.z)).trans HL5.out.z; obtain ⟨t0, y0⟩ := blk_cell (i := 0) q6 rfl; obtain ⟨t1, y1⟩ := blk_cell (i := 1) q6 rfl; obtain ⟨t2, y2⟩ := blk_cell (i := 2) q6 rfl; obtain ⟨z0, v0⟩ := blk_cell (i := 0) r6 rfl; obtain ⟨z1, v1⟩ := blk_cell (i := 1) r6 rfl; obtain ⟨z2, v2⟩ := blk_cell (i := 2) r6 rfl; have lT6 := heap_lt q6; have lB6 := heap_lt r6; have HL6 := Lib.hid (HL5.out.below hb6); have HR6 := Lib.hid r6; clear q6 r6 hb6)
              go_wp2_with (go_at_call 115; refine (HMO.out _).mono ?_; rintro e w7 ⟨rfl, hw⟩; rw [← hw]; clear hw)
              have hTT := HL6.out.hT
              have hz6 : (w6.setCell ⟨T, 1, none⟩ (.int .i64 p)).heap[w.heap.size]? = some (.cells #[.int .i64 0, .int .i64 0, .slice none 0 0] 71) := (Below.heap_setCell _ _ _ _ (show w.heap.size ≠ T from hne1)).trans HR6.out
              have hfar : ∀ b, b ≠ T → b ≠ w.heap.size → ((((w6.setCell ⟨T, 1, none⟩ (.int .i64 p)).setCell ⟨w.heap.size, 0, none⟩ (.int .i64 xs)).setCell ⟨w.heap.size, 1, none⟩ (.int .i64 p)).setCell ⟨w.heap.size, 2, none⟩ (.slice ka ks.length kc)).heap[b]? = w6.heap[b]? := fun b h1 h2 => (store3_far _ _ _ b h2).trans (Below.heap_setCell _ _ _ _ h1)
              refine bodyPost_ret (v := .agg #[.int .i64 xs, .int .i64 p, .slice ka ks.length kc]) ?_ rfl ⟨?_, Tl.mk xs p ka kc ks, ⟨(s2.data.toList.drop 1).toArray⟩, ?_, rfl, ?_, rfl, ?_⟩
              · rw [results_cell1 (p := 2) (ty := 71) rfl]
                show ((asAddr (.pointer (some ⟨w.heap.size, 0, none⟩))).run _ _).andThen _ = _
                show (loadVar 71 ⟨w.heap.size, 0, none⟩).run _ _ = _
                exact run_loadVar_row _ w.heap.size 71 71 _ (0, 0) _ (store3 hz6 _ _ _) Try.underlying71 rfl (by kernel_rfl)
              · exact (((HL6.out.k.set T 1 (.inr hTT) _).set _ 0 (.inr (Nat.le_refl _)) _).set _ 1 (.inr (Nat.le_refl _)) _).set _ 2 (.inr (Nat.le_refl _)) _
              · rw [Tl.plain_mk]
              · exact HL6.out.fin (by simp) hfar p
              · exact (hfar R (by have h1 := HL6.out.hT; have h2 := HL6.out.k.lt; omega) (by omega)).trans HL6.out.rd
          · have := HEND.out
            rw [if_neg hcl] at this
            cases this
  · have hlf := (rd_leaf g f n hh).symm.trans hy
    cases hsy : symR g s.data.toList n with
    | none => rw [hsy] at hlf; cases hlf
    | some x =>
      rw [hsy] at hlf
      simp only at hlf
      by_cases hx0 : x.1 = 0
      · rw [if_pos hx0] at hlf
        cases hlf
      · rw [if_neg hx0] at hlf
        obtain rfl : (.mk x.1 (-1) [], x.2.1, x.2.2) = y := Option.some.inj hlf
        have HTY := Lib.hid (took_no HRA.out 40 hh)
        have HSY := Lib.hid fun W (hk : Kept R w W) hr => HSYM.out W s (List.suffix_refl _) hk hr
        rw [hsy] at HSY
        obtain ⟨xs, xl, xn⟩ := x
        simp only at hx0 HSY
        have hx1 : (xs != 0) = true := bne_iff_ne.2 hx0
        have HMO := Lib.hid fun W => must_ok R W
        clear hsy hlf hh hy hx0 HSYM HIH
        go_enter Try.func114, Try.ntmps114
        go_upto_region 3 with (first
          | (go_at_call 143; refine HTY.out.mono ?_; rintro e w2 ⟨rfl, hr2, hk2⟩)
          | (go_at_call 144; refine (HSY.out _ (HKA.out.trans hk2) hr2).mono ?_; rintro e w3 ⟨hk3, s3, rfl, hs3, hr3⟩))
        have hk03 := (HKA.out.trans hk2).trans hk3
        obtain ⟨hbS, hsS, qS⟩ := one_alloc w3 (.cells #[.int .i64 xs, .int .i64 (-1), .slice none 0 0] 71)
        have hT : w.heap.size + 1 ≤ w3.heap.size := by have h1 := hk2.s; have h2 := hk3.s; have h3 := HSA.out; omega
        have hz3 := (hbS.block w.heap.size (by omega)).trans ((hk3.k w.heap.size (by have h1 := hk2.s; have h3 := HSA.out; omega) (by omega)).trans ((hk2.k w.heap.size (by have h3 := HSA.out; omega) (by omega)).trans HQA.out))
        have HS3 := Lib.hid hs3
        have HK3 := Lib.hid (hk03.below hbS)
        have HR3 := Lib.hid (hr3.below hbS)
        have HZ3 := Lib.hid hz3
        have hne1 : ¬ w.heap.size = w3.heap.size := by omega
        have hne2 : ¬ w3.heap.size = w.heap.size := by omega
        obtain ⟨t0, y0⟩ := blk_cell (i := 0) qS rfl
        obtain ⟨t1, y1⟩ := blk_cell (i := 1) qS rfl
        obtain ⟨t2, y2⟩ := blk_cell (i := 2) qS rfl
        obtain ⟨z0, v0⟩ := blk_cell (i := 0) hz3 rfl
        obtain ⟨z1, v1⟩ := blk_cell (i := 1) hz3 rfl
        obtain ⟨z2, v2⟩ := blk_cell (i := 2) hz3 rfl
        have lT := heap_lt qS
        have lB := heap_lt hz3
        clear hk2 hr2 hk3 hs3 hr3 hk03 hbS hsS qS hz3 HTY HSY
        generalize w3.alloc (.cells #[.int .i64 xs, .int .i64 (-1), .slice none 0 0] 71) = S at *
        generalize w3.heap.size = T at *
        go_wp2_with (go_at_call 115; refine (HMO.out _).mono ?_; rintro e w7 ⟨rfl, hw⟩; rw [← hw]; clear hw)
        refine bodyPost_ret (v := .agg #[.int .i64 xs, .int .i64 (-1), .slice none 0 0]) ?_ rfl ⟨?_, Tl.mk xs (-1) none 0 [], s3, ?_, rfl, ?_, HS3.out, ?_⟩
        · rw [results_cell1 (p := 2) (ty := 71) rfl]
          show ((asAddr (.pointer (some ⟨w.heap.size, 0, none⟩))).run _ _).andThen _ = _
          show (loadVar 71 ⟨w.heap.size, 0, none⟩).run _ _ = _
          exact run_loadVar_row _ w.heap.size 71 71 _ (0, 0) _ (store3 HZ3.out _ _ _) Try.underlying71 rfl (by kernel_rfl)
        · exact ((HK3.out.set _ 0 (.inr (Nat.le_refl _)) _).set _ 1 (.inr (Nat.le_refl _)) _).set _ 2 (.inr (Nat.le_refl _)) _
        · rw [Tl.plain_mk]; rfl
        · exact Lies.leaf _ _ _ _ _ _
        · exact (store3_far _ _ _ R (by omega)).trans HR3.out

end Go.Proofs.Ytflfmcikfiaoiaa
