/- The builder in memory: three rows of its own; each row's own block. -/
import Derived.Test.YtdnlbmdmaiacaaaForm
import Derived.Test.YtdnlbmdmaiacaaaSlices
namespace Go.Proofs.Ytdnlbmdmaiacaaa
open Go.RowKit
open Doc

theorem own_same {w w' : World} {B e size n : Nat} {v : Value} {xs : List Value} (h : w.ownsRow B e size v n xs) (hb : ∀ g, v.ownBlock = some g → g < w.heap.size → w'.heap[g]? = w.heap[g]?) : w'.ownsRow B e size v n xs := by
  refine ⟨h.1, ?_⟩
  rcases h.2 with h0 | ⟨g, cap, cur, hv, hB, hg, rest⟩
  · exact .inl h0
  · refine .inr ⟨g, cap, cur, hv, hB, ?_, rest⟩
    have hlt : g < w.heap.size := by
      rcases Nat.lt_or_ge g w.heap.size with h | h
      · exact h
      · rw [Array.getElem?_eq_none h] at hg; cases hg
    rw [hb g (by rw [hv]; rfl) hlt, hg]

theorem own_block {w : World} {B e size n : Nat} {v : Value} {xs : List Value} (h : w.ownsRow B e size v n xs) {g : Nat} (hg : v.ownBlock = some g) : B ≤ g ∧ g < w.heap.size ∧ ∃ cur, w.heap[g]? = some (.cells cur e (0, 0)) := by
  rcases h.2 with ⟨hv, _⟩ | ⟨g', cap, cur, hv, hB, hgg, rest⟩
  · rw [hv] at hg; cases hg
  · rw [hv] at hg
    have : g' = g := by simpa [Value.ownBlock] using hg
    subst this
    refine ⟨hB, ?_, cur, hgg⟩
    rcases Nat.lt_or_ge g' w.heap.size with h | h
    · exact h
    · rw [Array.getElem?_eq_none h] at hgg; cases hgg

/-- Rows of unlike elements are unlike rows. -/
theorem own_apart {w : World} {B B' e e' size size' n n' : Nat} {v v' : Value} {xs xs' : List Value} (h : w.ownsRow B e size v n xs) (h' : w.ownsRow B' e' size' v' n' xs') (he : e ≠ e') {g : Nat} (hg : v.ownBlock = some g) : v'.ownBlock ≠ some g := by
  intro hg'
  obtain ⟨_, _, c, hc⟩ := own_block h hg
  obtain ⟨_, _, c', hc'⟩ := own_block h' hg'
  rw [hc] at hc'
  cases hc'
  exact he rfl

/-- The builder at block b, its rows behind it: terminals, nonterminals, productions. -/
structure Bld (b : Nat) (w : World) (ts ns : List (List UInt8)) (ls : List Lay) (at_ an ap : Option Addr) (ct cn cp : Nat) : Prop where
  blk : w.heap[b]? = some (.cells #[.slice at_ ts.length ct, .slice an ns.length cn, .slice ap ls.length cp] 122)
  t : w.ownsRow (b + 1) 9 1 (.slice at_ ts.length ct) ts.length (strs ts)
  n : w.ownsRow (b + 1) 9 1 (.slice an ns.length cn) ns.length (strs ns)
  p : w.ownsRow (b + 1) 37 2 (.slice ap ls.length cp) ls.length (lays ls)
  r : ∀ q ∈ ls, w.ownsRow (b + 1) 3 1 (.slice q.addr q.right.length q.cap) q.right.length (nums q.right)
  d : ∀ x y, at_ = some x → an = some y → x.block ≠ y.block
  r6 : ∀ q ∈ ls, q.right.length ≤ 6

section
variable {b : Nat} {w : World} {ts ns : List (List UInt8)} {ls : List Lay} {at_ an ap : Option Addr} {ct cn cp : Nat}

theorem Bld.lt (h : Bld b w ts ns ls at_ an ap ct cn cp) : b < w.heap.size := by
  rcases Nat.lt_or_ge b w.heap.size with h1 | h1
  · exact h1
  · have := h.blk; rw [Array.getElem?_eq_none h1] at this; cases this

theorem Bld.below (h : Bld b w ts ns ls at_ an ap ct cn cp) {w' : World} (hb : Below w.heap.size w w') : Bld b w' ts ns ls at_ an ap ct cn cp where
  blk := by rw [hb.block b h.lt, h.blk]
  t := own_same h.t fun g _ hl => hb.block g hl
  n := own_same h.n fun g _ hl => hb.block g hl
  p := own_same h.p fun g _ hl => hb.block g hl
  r := fun q hq => own_same (h.r q hq) fun g _ hl => hb.block g hl
  d := h.d
  r6 := h.r6

theorem Bld.alloc (h : Bld b w ts ns ls at_ an ap ct cn cp) (o : Obj) : Bld b (w.alloc o) ts ns ls at_ an ap ct cn cp := h.below ((Below.refl _ _).alloc (Nat.le_refl _) _)

theorem Bld.cell (h : Bld b w ts ns ls at_ an ap ct cn cp) :
    w.cell? ⟨b, 0, none⟩ = some (.slice at_ ts.length ct) ∧ w.cell? ⟨b, 1, none⟩ = some (.slice an ns.length cn) ∧ w.cell? ⟨b, 2, none⟩ = some (.slice ap ls.length cp) := by
  have hn := fun j u => World.news_of_block (w := w) h.blk j u
  have hadd : ∀ i, (⟨b, 0, none⟩ : Addr).add i = ⟨b, i, none⟩ := fun i => by unfold Addr.add; split <;> simp_all
  exact ⟨(hadd 0) ▸ hn 0 _ rfl, (hadd 1) ▸ hn 1 _ rfl, (hadd 2) ▸ hn 2 _ rfl⟩

theorem own_cells {w : World} {B e size n cap : Nat} {a : Option Addr} {xs : List Value} (h : w.ownsRow B e size (.slice a n cap) n xs) : Cells w a xs ∧ n ≤ cap := by
  obtain ⟨a', cap', hv, hc⟩ := cells_own h
  cases hv
  refine ⟨hc, ?_⟩
  rcases h.2 with ⟨hv, h0⟩ | ⟨g, cap', cur, hv, _, _, hn, _⟩
  · omega
  · cases hv; exact hn

theorem Bld.gram (h : Bld b w ts ns ls at_ an ap ct cn cp) : GramAt w (.agg #[.slice at_ ts.length ct, .slice an ns.length cn, .slice ap ls.length cp]) ⟨ts, ns, ls.map Lay.plain⟩ :=
  ⟨at_, an, ap, ct, cn, cp, ls, rfl, rfl, (own_cells h.t).1, (own_cells h.n).1, (own_cells h.p).1, fun q hq => (own_cells (h.r q hq)).1, (own_cells h.t).2, (own_cells h.n).2, (own_cells h.p).2⟩

theorem heap_set (w : World) (b i : Nat) (u : Value) (cs : Array Value) (t : TypeId) (hb : w.heap[b]? = some (.cells cs t)) (_ : i < cs.size) : (w.setCell ⟨b, i, none⟩ u).heap[b]? = some (.cells (cs.set! i u) t) := by
  simp only [World.setCell, Array.getElem?_modify, hb, Option.map_some, Array.set!, if_true]
  rfl

theorem Bld.put_n (h : Bld b w ts ns ls at_ an ap ct cn cp) {g cap : Nat} {w1 : World} {x : List UInt8} (hown : w1.ownsRow (b + 1) 9 1 (.slice (some ⟨g, 0, none⟩) (ns.length + 1) cap) (ns.length + 1) (strs ns ++ [.string ⟨x.toArray⟩]))
    (hgrow : w.grownBy w1 (Value.slice an ns.length cn).ownBlock) (hat : (Value.slice an ns.length cn).ownBlock = some g ∨ w.heap.size ≤ g) :
    Bld b (w1.setCell ⟨b, 1, none⟩ (.slice (some ⟨g, 0, none⟩) (ns.length + 1) cap)) ts (ns ++ [x]) ls at_ (some ⟨g, 0, none⟩) ap ct cap cp := by
  have hbn : ∀ k, (Value.slice an ns.length cn).ownBlock = some k → b < k := fun k hk => (own_block h.n hk).1
  have hb1 : w1.heap[b]? = w.heap[b]? := hgrow.block b h.lt (fun e => by have := hbn b e.symm; omega)
  have hset : ∀ k, k ≠ b → (w1.setCell ⟨b, 1, none⟩ (.slice (some ⟨g, 0, none⟩) (ns.length + 1) cap)).heap[k]? = w1.heap[k]? := fun k hk => Below.heap_setCell _ _ _ _ hk
  have hkeep : ∀ {e size n : Nat} {v : Value} {xs : List Value}, w.ownsRow (b + 1) e size v n xs → (∀ k, v.ownBlock = some k → (Value.slice an ns.length cn).ownBlock ≠ some k) → (w1.setCell ⟨b, 1, none⟩ (.slice (some ⟨g, 0, none⟩) (ns.length + 1) cap)).ownsRow (b + 1) e size v n xs := by
    intro e size n v xs ho hne
    refine own_same ho fun k hk hl => ?_
    rw [hset k (by have := (own_block ho hk).1; omega), hgrow.block k hl (fun e => hne k hk e.symm)]
  have hdt : ∀ k, (Value.slice at_ ts.length ct).ownBlock = some k → (Value.slice an ns.length cn).ownBlock ≠ some k := by
    intro k hk hk'
    cases at_ with
    | none => cases hk
    | some x => cases an with
      | none => cases hk'
      | some y =>
        simp only [Value.ownBlock, Option.some.injEq] at hk hk'
        exact h.d x y rfl rfl (hk.trans hk'.symm)
  refine ⟨?_, hkeep h.t hdt, ?_, hkeep h.p (fun k hk => own_apart h.p h.n (by decide) hk), fun q hq => hkeep (h.r q hq) (fun k hk => own_apart (h.r q hq) h.n (by decide) hk), ?_, h.r6⟩
  · rw [heap_set w1 b 1 _ _ _ (hb1.trans h.blk) (by simp)]
    simp
  · have e : strs (ns ++ [x]) = strs ns ++ [.string ⟨x.toArray⟩] := by simp [strs]
    rw [e, List.length_append]
    refine own_same hown fun k hk _ => hset k ?_
    simp only [Value.ownBlock, Option.some.injEq] at hk
    have := (own_block hown (g := g) rfl).1
    omega
  · intro x' y hx hy
    cases hy
    intro e
    rcases hat with hat | hat
    · exact hdt g (by rw [hx]; simp [Value.ownBlock, e]) hat
    · have := (own_block h.t (g := g) (by rw [hx]; simp [Value.ownBlock, e])).2.1
      omega

theorem Bld.put_t (h : Bld b w ts ns ls at_ an ap ct cn cp) {g cap : Nat} {w1 : World} {x : List UInt8} (hown : w1.ownsRow (b + 1) 9 1 (.slice (some ⟨g, 0, none⟩) (ts.length + 1) cap) (ts.length + 1) (strs ts ++ [.string ⟨x.toArray⟩]))
    (hgrow : w.grownBy w1 (Value.slice at_ ts.length ct).ownBlock) (hat : (Value.slice at_ ts.length ct).ownBlock = some g ∨ w.heap.size ≤ g) :
    Bld b (w1.setCell ⟨b, 0, none⟩ (.slice (some ⟨g, 0, none⟩) (ts.length + 1) cap)) (ts ++ [x]) ns ls (some ⟨g, 0, none⟩) an ap cap cn cp := by
  have hbn : ∀ k, (Value.slice at_ ts.length ct).ownBlock = some k → b < k := fun k hk => (own_block h.t hk).1
  have hb1 : w1.heap[b]? = w.heap[b]? := hgrow.block b h.lt (fun e => by have := hbn b e.symm; omega)
  have hset : ∀ k, k ≠ b → (w1.setCell ⟨b, 0, none⟩ (.slice (some ⟨g, 0, none⟩) (ts.length + 1) cap)).heap[k]? = w1.heap[k]? := fun k hk => Below.heap_setCell _ _ _ _ hk
  have hkeep : ∀ {e size n : Nat} {v : Value} {xs : List Value}, w.ownsRow (b + 1) e size v n xs → (∀ k, v.ownBlock = some k → (Value.slice at_ ts.length ct).ownBlock ≠ some k) → (w1.setCell ⟨b, 0, none⟩ (.slice (some ⟨g, 0, none⟩) (ts.length + 1) cap)).ownsRow (b + 1) e size v n xs := by
    intro e size n v xs ho hne
    refine own_same ho fun k hk hl => ?_
    rw [hset k (by have := (own_block ho hk).1; omega), hgrow.block k hl (fun e => hne k hk e.symm)]
  have hdt : ∀ k, (Value.slice an ns.length cn).ownBlock = some k → (Value.slice at_ ts.length ct).ownBlock ≠ some k := by
    intro k hk hk'
    cases at_ with
    | none => cases hk'
    | some x => cases an with
      | none => cases hk
      | some y =>
        simp only [Value.ownBlock, Option.some.injEq] at hk hk'
        exact h.d x y rfl rfl (hk'.trans hk.symm)
  refine ⟨?_, ?_, hkeep h.n hdt, hkeep h.p (fun k hk => own_apart h.p h.t (by decide) hk), fun q hq => hkeep (h.r q hq) (fun k hk => own_apart (h.r q hq) h.t (by decide) hk), ?_, h.r6⟩
  · rw [heap_set w1 b 0 _ _ _ (hb1.trans h.blk) (by simp)]
    simp
  · have e : strs (ts ++ [x]) = strs ts ++ [.string ⟨x.toArray⟩] := by simp [strs]
    rw [e, List.length_append]
    refine own_same hown fun k hk _ => hset k ?_
    simp only [Value.ownBlock, Option.some.injEq] at hk
    have := (own_block hown (g := g) rfl).1
    omega
  · intro x' y hx hy
    cases hx
    intro e
    rcases hat with hat | hat
    · exact hdt g (by rw [hy]; exact congrArg some e.symm) hat
    · have := (own_block h.n (g := g) (by rw [hy]; exact congrArg some e.symm)).2.1
      omega

theorem Bld.put_p (h : Bld b w ts ns ls at_ an ap ct cn cp) {g cap : Nat} {w1 : World} {q : Lay} (hown : w1.ownsRow (b + 1) 37 2 (.slice (some ⟨g, 0, none⟩) (ls.length + 1) cap) (ls.length + 1) (lays ls ++ [.int .i64 q.left, .slice q.addr q.right.length q.cap]))
    (hgrow : w.grownBy w1 (Value.slice ap ls.length cp).ownBlock) (hq : w.ownsRow (b + 1) 3 1 (.slice q.addr q.right.length q.cap) q.right.length (nums q.right)) (hq6 : q.right.length ≤ 6) :
    Bld b (w1.setCell ⟨b, 2, none⟩ (.slice (some ⟨g, 0, none⟩) (ls.length + 1) cap)) ts ns (ls ++ [q]) at_ an (some ⟨g, 0, none⟩) ct cn cap := by
  have hbn : ∀ k, (Value.slice ap ls.length cp).ownBlock = some k → b < k := fun k hk => (own_block h.p hk).1
  have hb1 : w1.heap[b]? = w.heap[b]? := hgrow.block b h.lt (fun e => by have := hbn b e.symm; omega)
  have hset : ∀ k, k ≠ b → (w1.setCell ⟨b, 2, none⟩ (.slice (some ⟨g, 0, none⟩) (ls.length + 1) cap)).heap[k]? = w1.heap[k]? := fun k hk => Below.heap_setCell _ _ _ _ hk
  have hkeep : ∀ {e size n : Nat} {v : Value} {xs : List Value}, w.ownsRow (b + 1) e size v n xs → (∀ k, v.ownBlock = some k → (Value.slice ap ls.length cp).ownBlock ≠ some k) → (w1.setCell ⟨b, 2, none⟩ (.slice (some ⟨g, 0, none⟩) (ls.length + 1) cap)).ownsRow (b + 1) e size v n xs := by
    intro e size n v xs ho hne
    refine own_same ho fun k hk hl => ?_
    rw [hset k (by have := (own_block ho hk).1; omega), hgrow.block k hl (fun e => hne k hk e.symm)]
  refine ⟨?_, hkeep h.t (fun k hk => own_apart h.t h.p (by decide) hk), hkeep h.n (fun k hk => own_apart h.n h.p (by decide) hk), ?_, ?_, h.d, ?_⟩
  · rw [heap_set w1 b 2 _ _ _ (hb1.trans h.blk) (by simp)]
    simp
  · have e : lays (ls ++ [q]) = lays ls ++ [.int .i64 q.left, .slice q.addr q.right.length q.cap] := by simp [lays]
    rw [e, List.length_append]
    refine own_same hown fun k hk _ => hset k ?_
    simp only [Value.ownBlock, Option.some.injEq] at hk
    have := (own_block hown (g := g) rfl).1
    omega
  · intro q' hq'
    rcases List.mem_append.1 hq' with hq' | hq'
    · exact hkeep (h.r q' hq') (fun k hk => own_apart (h.r q' hq') h.p (by decide) hk)
    · rw [List.mem_singleton.1 hq']
      exact hkeep hq (fun k hk => own_apart hq h.p (by decide) hk)
  · intro q' hq'
    rcases List.mem_append.1 hq' with hq' | hq'
    · exact h.r6 q' hq'
    · rw [List.mem_singleton.1 hq']; exact hq6
theorem Bld.same (h : Bld b w ts ns ls at_ an ap ct cn cp) {w' : World} (hb : w'.heap[b]? = w.heap[b]?) (ht : ∀ g, (Value.slice at_ ts.length ct).ownBlock = some g → w'.heap[g]? = w.heap[g]?) (hn : ∀ g, (Value.slice an ns.length cn).ownBlock = some g → w'.heap[g]? = w.heap[g]?)
    (hp : ∀ g, (Value.slice ap ls.length cp).ownBlock = some g → w'.heap[g]? = w.heap[g]?) (hr : ∀ q ∈ ls, ∀ g, (Value.slice q.addr q.right.length q.cap).ownBlock = some g → w'.heap[g]? = w.heap[g]?) : Bld b w' ts ns ls at_ an ap ct cn cp where
  blk := hb.trans h.blk
  t := own_same h.t fun g hg _ => ht g hg
  n := own_same h.n fun g hg _ => hn g hg
  p := own_same h.p fun g hg _ => hp g hg
  r := fun q hq => own_same (h.r q hq) fun g hg _ => hr q hq g hg
  d := h.d
  r6 := h.r6
end

/-- Blocks of other elements than these are as they were. -/
def Stays (es : List TypeId) (w w' : World) : Prop := ∀ (k : Nat) (cs : Array Value) (e : TypeId) (fr : Nat × Nat), w.heap[k]? = some (Obj.cells cs e fr) → e ∉ es → w'.heap[k]? = some (Obj.cells cs e fr)
theorem Stays.trans {es : List TypeId} {a b c : World} (h : Stays es a b) (k : Stays es b c) : Stays es a c := fun i cs e fr hi he => k i cs e fr (h i cs e fr hi he) he
theorem heap_lt {w : World} {k : Nat} {o : Obj} (h : w.heap[k]? = some o) : k < w.heap.size := by
  rcases Nat.lt_or_ge k w.heap.size with h1 | h1
  · exact h1
  · rw [Array.getElem?_eq_none h1] at h; cases h
theorem Stays.of_below (es : List TypeId) {w w' : World} (h : Below w.heap.size w w') : Stays es w w' := fun k _ _ _ hk _ => (h.block k (heap_lt hk)).trans hk
theorem Stays.grown {es : List TypeId} {w w' : World} {v : Value} {B e size n : Nat} {xs : List Value} (ho : w.ownsRow B e size v n xs) (he : e ∈ es) (hg : w.grownBy w' v.ownBlock) : Stays es w w' := fun k cs e' fr hk hn => by
  refine (hg.block k (heap_lt hk) fun hkk => ?_).trans hk
  obtain ⟨_, _, cur, hc⟩ := own_block ho hkk.symm
  rw [hk] at hc
  cases hc
  exact hn he
theorem Stays.set {es : List TypeId} {w : World} {b i : Nat} {u : Value} {cs : Array Value} {t : TypeId} {fr : Nat × Nat} (hb : w.heap[b]? = some (.cells cs t fr)) (ht : t ∈ es) : Stays es w (w.setCell ⟨b, i, none⟩ u) := fun k cs' e' fr' hk hn => by
  refine (Below.heap_setCell _ _ _ _ ?_).trans hk
  rintro rfl
  rw [hb] at hk
  cases hk
  exact hn ht

end Go.Proofs.Ytdnlbmdmaiacaaa
