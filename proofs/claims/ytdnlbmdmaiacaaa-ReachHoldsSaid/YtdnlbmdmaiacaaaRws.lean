/- A grammar's rows, owned: terminals, nonterminals, productions, each production's right; worlds that are grown by one row. -/
import Derived.Test.YtdnlbmdmaiacaaaProdF
import Derived.Test.YtdnlbmdmaiacaaaAddNon
import Derived.Test.YtdnlbmdmaiacaaaBld
namespace Go.Proofs.Ytdnlbmdmaiacaaa
open Go.RowKit
open Doc

theorem gb_refl (w : World) (o : Option Nat) : w.grownBy w o := ⟨rfl, rfl, rfl, Nat.le_refl _, fun _ _ _ => rfl⟩
theorem gb_trans {w a c : World} {o o' : Option Nat} (h : w.grownBy a o) (k : a.grownBy c o') (hr : ∀ x, o' = some x → o = some x ∨ w.heap.size ≤ x) : w.grownBy c o :=
  ⟨k.os.trans h.os, k.tape.trans h.tape, k.output.trans h.output, Nat.le_trans h.size k.size, fun i hi hne => (k.block i (Nat.lt_of_lt_of_le hi h.size) (fun e => by
    rcases hr i e.symm with h' | h'
    · exact hne h'.symm
    · omega)).trans (h.block i hi hne)⟩
theorem gb_below {w a c : World} {o : Option Nat} (h : w.grownBy a o) (k : Below w.heap.size a c) : w.grownBy c o :=
  ⟨k.os.trans h.os, k.tape.trans h.tape, k.output.trans h.output, Nat.le_trans h.size k.size, fun i hi hne => (k.block i hi).trans (h.block i hi hne)⟩
theorem gb_of {w c : World} {o : Option Nat} (k : Below w.heap.size w c) : w.grownBy c o := gb_below (gb_refl w o) k
theorem below_gb {w c : World} {o : Option Nat} {b : Nat} (k : w.grownBy c o) (hb : b ≤ w.heap.size) (ho : ∀ x, o = some x → b ≤ x) : Below b w c := (Below.refl b w).grown k hb ho

theorem own_base' {w : World} {B B' e size n : Nat} {v : Value} {xs : List Value} (h : w.ownsRow B e size v n xs) (hB : B' ≤ B) : w.ownsRow B' e size v n xs := by
  refine ⟨h.1, ?_⟩
  rcases h.2 with h0 | ⟨g, cap, cur, hv, hg, rest⟩
  · exact .inl h0
  · exact .inr ⟨g, cap, cur, hv, Nat.le_trans hB hg, rest⟩
/-- A grammar's value, as it lies from block b on. -/
def GramFrom' (B : Nat) (w : World) (v : Value) (g : Gr) : Prop := ∀ W : World, (∀ k, B ≤ k → k < w.heap.size → W.heap[k]? = w.heap[k]?) → GramAt W v g

structure Rws (b : Nat) (w : World) (ts ns : List (List UInt8)) (ls : List Lay) (at_ an ap : Option Addr) (ct cn cp : Nat) : Prop where
  t : w.ownsRow b 9 1 (.slice at_ ts.length ct) ts.length (strs ts)
  n : w.ownsRow b 9 1 (.slice an ns.length cn) ns.length (strs ns)
  p : w.ownsRow b 37 2 (.slice ap ls.length cp) ls.length (lays ls)
  r : ∀ q ∈ ls, w.ownsRow b 3 1 (.slice q.addr q.right.length q.cap) q.right.length (nums q.right)
  d : ∀ x y, at_ = some x → an = some y → x.block ≠ y.block

section
variable {b : Nat} {w : World} {ts ns : List (List UInt8)} {ls : List Lay} {at_ an ap : Option Addr} {ct cn cp : Nat}

theorem Rws.same (h : Rws b w ts ns ls at_ an ap ct cn cp) {w' : World} (ht : ∀ g, (Value.slice at_ ts.length ct).ownBlock = some g → w'.heap[g]? = w.heap[g]?) (hn : ∀ g, (Value.slice an ns.length cn).ownBlock = some g → w'.heap[g]? = w.heap[g]?)
    (hp : ∀ g, (Value.slice ap ls.length cp).ownBlock = some g → w'.heap[g]? = w.heap[g]?) (hr : ∀ q ∈ ls, ∀ g, (Value.slice q.addr q.right.length q.cap).ownBlock = some g → w'.heap[g]? = w.heap[g]?) : Rws b w' ts ns ls at_ an ap ct cn cp where
  t := own_same h.t fun g hg _ => ht g hg
  n := own_same h.n fun g hg _ => hn g hg
  p := own_same h.p fun g hg _ => hp g hg
  r := fun q hq => own_same (h.r q hq) fun g hg _ => hr q hq g hg
  d := h.d
theorem Rws.keep (h : Rws b w ts ns ls at_ an ap ct cn cp) {w' : World} (hk : ∀ g, b ≤ g → g < w.heap.size → w'.heap[g]? = w.heap[g]?) : Rws b w' ts ns ls at_ an ap ct cn cp :=
  h.same (fun g hg => hk g (own_block h.t hg).1 (own_block h.t hg).2.1) (fun g hg => hk g (own_block h.n hg).1 (own_block h.n hg).2.1) (fun g hg => hk g (own_block h.p hg).1 (own_block h.p hg).2.1) (fun q hq g hg => hk g (own_block (h.r q hq) hg).1 (own_block (h.r q hq) hg).2.1)
theorem Rws.below (h : Rws b w ts ns ls at_ an ap ct cn cp) {w' : World} (hb : Below w.heap.size w w') : Rws b w' ts ns ls at_ an ap ct cn cp := h.keep fun g _ hl => hb.block g hl
theorem Rws.base {b' : Nat} (h : Rws b w ts ns ls at_ an ap ct cn cp) (hb : b' ≤ b) : Rws b' w ts ns ls at_ an ap ct cn cp where
  t := own_base' h.t hb
  n := own_base' h.n hb
  p := own_base' h.p hb
  r := fun q hq => own_base' (h.r q hq) hb
  d := h.d
theorem Rws.alloc (h : Rws b w ts ns ls at_ an ap ct cn cp) (o : Obj) : Rws b (w.alloc o) ts ns ls at_ an ap ct cn cp := h.below ((Below.refl _ _).alloc (Nat.le_refl _) _)
theorem Rws.set (h : Rws b w ts ns ls at_ an ap ct cn cp) (k i : Nat) (hk : k < b) (v : Value) : Rws b (w.setCell ⟨k, i, none⟩ v) ts ns ls at_ an ap ct cn cp := h.keep fun g hg _ => Below.heap_setCell _ _ _ _ (show g ≠ k by omega)
theorem Rws.gram (h : Rws b w ts ns ls at_ an ap ct cn cp) : GramAt w (.agg #[.slice at_ ts.length ct, .slice an ns.length cn, .slice ap ls.length cp]) ⟨ts, ns, ls.map Lay.plain⟩ :=
  ⟨at_, an, ap, ct, cn, cp, ls, rfl, rfl, (own_cells h.t).1, (own_cells h.n).1, (own_cells h.p).1, fun q hq => (own_cells (h.r q hq)).1, (own_cells h.t).2, (own_cells h.n).2, (own_cells h.p).2⟩
theorem Rws.from_ (h : Rws b w ts ns ls at_ an ap ct cn cp) : GramFrom' b w (.agg #[.slice at_ ts.length ct, .slice an ns.length cn, .slice ap ls.length cp]) ⟨ts, ns, ls.map Lay.plain⟩ := fun _ hW => (h.keep fun g h1 h2 => hW g h1 h2).gram

/-- One production more. -/
theorem Rws.put_p (h : Rws b w ts ns ls at_ an ap ct cn cp) {g cap : Nat} {w1 : World} {q : Lay} (hown : w1.ownsRow b 37 2 (.slice (some ⟨g, 0, none⟩) (ls.length + 1) cap) (ls.length + 1) (lays ls ++ [.int .i64 q.left, .slice q.addr q.right.length q.cap]))
    (hgrow : w.grownBy w1 (Value.slice ap ls.length cp).ownBlock) (hq : w.ownsRow b 3 1 (.slice q.addr q.right.length q.cap) q.right.length (nums q.right)) :
    Rws b w1 ts ns (ls ++ [q]) at_ an (some ⟨g, 0, none⟩) ct cn cap := by
  have hkeep : ∀ {e size n : Nat} {v : Value} {xs : List Value}, w.ownsRow b e size v n xs → (∀ k, v.ownBlock = some k → (Value.slice ap ls.length cp).ownBlock ≠ some k) → w1.ownsRow b e size v n xs := by
    intro e size n v xs ho hne
    exact own_same ho fun k hk hl => hgrow.block k hl (fun e => hne k hk e.symm)
  refine ⟨hkeep h.t (fun k hk => own_apart h.t h.p (by decide) hk), hkeep h.n (fun k hk => own_apart h.n h.p (by decide) hk), ?_, ?_, h.d⟩
  · have e : lays (ls ++ [q]) = lays ls ++ [.int .i64 q.left, .slice q.addr q.right.length q.cap] := by simp [lays]
    rw [e, List.length_append]
    exact hown
  · intro q' hq'
    rcases List.mem_append.1 hq' with hq' | hq'
    · exact hkeep (h.r q' hq') (fun k hk => own_apart (h.r q' hq') h.p (by decide) hk)
    · rw [List.mem_singleton.1 hq']
      exact hkeep hq (fun k hk => own_apart hq h.p (by decide) hk)

/-- One nonterminal more. -/
theorem Rws.put_n (h : Rws b w ts ns ls at_ an ap ct cn cp) {g cap : Nat} {w1 : World} {x : List UInt8} (hown : w1.ownsRow b 9 1 (.slice (some ⟨g, 0, none⟩) (ns.length + 1) cap) (ns.length + 1) (strs ns ++ [.string ⟨x.toArray⟩]))
    (hgrow : w.grownBy w1 (Value.slice an ns.length cn).ownBlock) (hat : (Value.slice an ns.length cn).ownBlock = some g ∨ w.heap.size ≤ g) :
    Rws b w1 ts (ns ++ [x]) ls at_ (some ⟨g, 0, none⟩) ap ct cap cp := by
  have hkeep : ∀ {e size n : Nat} {v : Value} {xs : List Value}, w.ownsRow b e size v n xs → (∀ k, v.ownBlock = some k → (Value.slice an ns.length cn).ownBlock ≠ some k) → w1.ownsRow b e size v n xs := by
    intro e size n v xs ho hne
    exact own_same ho fun k hk hl => hgrow.block k hl (fun e => hne k hk e.symm)
  have hdt : ∀ k, (Value.slice at_ ts.length ct).ownBlock = some k → (Value.slice an ns.length cn).ownBlock ≠ some k := by
    intro k hk hk'
    cases at_ with
    | none => cases hk
    | some x => cases an with
      | none => cases hk'
      | some y =>
        simp only [Value.ownBlock, Option.some.injEq] at hk hk'
        exact h.d x y rfl rfl (hk.trans hk'.symm)
  refine ⟨hkeep h.t hdt, ?_, hkeep h.p (fun k hk => own_apart h.p h.n (by decide) hk), fun q hq => hkeep (h.r q hq) (fun k hk => own_apart (h.r q hq) h.n (by decide) hk), ?_⟩
  · have e : strs (ns ++ [x]) = strs ns ++ [.string ⟨x.toArray⟩] := by simp [strs]
    rw [e, List.length_append]
    exact hown
  · intro x' y hx hy
    cases hy
    intro e
    rcases hat with hat | hat
    · exact hdt g (by rw [hx]; simp [Value.ownBlock, e]) hat
    · have := (own_block h.t (g := g) (by rw [hx]; simp [Value.ownBlock, e])).2.1
      omega

/-- One terminal more. -/
theorem Rws.put_t (h : Rws b w ts ns ls at_ an ap ct cn cp) {g cap : Nat} {w1 : World} {x : List UInt8} (hown : w1.ownsRow b 9 1 (.slice (some ⟨g, 0, none⟩) (ts.length + 1) cap) (ts.length + 1) (strs ts ++ [.string ⟨x.toArray⟩]))
    (hgrow : w.grownBy w1 (Value.slice at_ ts.length ct).ownBlock) (hat : (Value.slice at_ ts.length ct).ownBlock = some g ∨ w.heap.size ≤ g) :
    Rws b w1 (ts ++ [x]) ns ls (some ⟨g, 0, none⟩) an ap cap cn cp := by
  have hkeep : ∀ {e size n : Nat} {v : Value} {xs : List Value}, w.ownsRow b e size v n xs → (∀ k, v.ownBlock = some k → (Value.slice at_ ts.length ct).ownBlock ≠ some k) → w1.ownsRow b e size v n xs := by
    intro e size n v xs ho hne
    exact own_same ho fun k hk hl => hgrow.block k hl (fun e => hne k hk e.symm)
  have hdt : ∀ k, (Value.slice an ns.length cn).ownBlock = some k → (Value.slice at_ ts.length ct).ownBlock ≠ some k := by
    intro k hk hk'
    cases at_ with
    | none => cases hk'
    | some x => cases an with
      | none => cases hk
      | some y =>
        simp only [Value.ownBlock, Option.some.injEq] at hk hk'
        exact h.d x y rfl rfl (hk'.trans hk.symm)
  refine ⟨?_, hkeep h.n hdt, hkeep h.p (fun k hk => own_apart h.p h.t (by decide) hk), fun q hq => hkeep (h.r q hq) (fun k hk => own_apart (h.r q hq) h.t (by decide) hk), ?_⟩
  · have e : strs (ts ++ [x]) = strs ts ++ [.string ⟨x.toArray⟩] := by simp [strs]
    rw [e, List.length_append]
    exact hown
  · intro x' y hx hy
    cases hx
    intro e
    rcases hat with hat | hat
    · exact hdt g (by rw [hy]; exact congrArg some e.symm) hat
    · have := (own_block h.n (g := g) (by rw [hy]; exact congrArg some e.symm)).2.1
      omega
end

end Go.Proofs.Ytdnlbmdmaiacaaa
