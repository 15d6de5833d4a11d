/- A grammar's rows, owned: terminals, nonterminals, productions, each production's right; worlds that are grown by one row. put: a production of numbers. A raw grammar as it lies; Any: a grammar of small numbers. A raw grammar that came in, opened. Any's grammar, in a block behind its boxes. -/
import Derived.Test.YtejjdfmobiegdaaDoorAddProd
import Derived.Test.YtejjdfmobiegdaaDoorForm
import Derived.Test.YtejjdfmobiegdaaDoorSpec
import Derived.Test.YtejjdfmobiegdaaDoorFind
import Derived.Test.YtejjdfmobiegdaaDoorParse
import Derived.Test.YtejjdfmobiegdaaDoorWake
import Derived.Deep.CutRange
import Derived.Deep.RegionLaw
import Derived.WideShapes
import Derived.ChangeArms
import Derived.Deep.Matrix
import Derived.Lib.SmallJoins
namespace Go.Proofs.YtejjdfmobiegdaaDoor
open Go.RowKit
open Doc

theorem gb_refl (w : World) (o : Option Nat) : w.grownBy w o := ⟨rfl, rfl, rfl, Nat.le_refl _, fun _ _ _ => rfl⟩
theorem gb_trans {w a c : World} {o o' : Option Nat} (h : w.grownBy a o) (k : a.grownBy c o') (hr : ∀ x, o' = some x → o = some x ∨ w.heap.size ≤ x) : w.grownBy c o :=
  ⟨k.os.trans h.os, k.tape.trans h.tape, k.output.trans h.output, Nat.le_trans h.size k.size, fun i hi hne => (k.block i (Nat.lt_of_lt_of_le hi h.size) (fun e => by
    rcases hr i e.symm with h' | h'
    · exact hne h'.symm
    · omega)).trans (h.block i hi hne)⟩
theorem gb_below {w a c : World} {o : Option Nat} (h : w.grownBy a o) (k : Below w.heap.size a c) : w.grownBy c o :=
  ⟨k.os.trans h.os, k.tape.trans h.tape, k.output.trans h.output, Nat.le_trans h.size k.size, fun i hi hne => (k.block i hi).trans (h.block i hi hne)⟩
theorem gb_of {w c : World} {o : Option Nat} (k : Below w.heap.size w c) : w.grownBy c o := gb_below (gb_refl w o) k
theorem below_gb {w c : World} {o : Option Nat} {b : Nat} (k : w.grownBy c o) (hb : b ≤ w.heap.size) (ho : ∀ x, o = some x → b ≤ x) : Below b w c := (Below.refl b w).grown k hb ho

theorem own_base' {w : World} {B B' e size n : Nat} {v : Value} {xs : List Value} (h : w.ownsRow B e size v n xs) (hB : B' ≤ B) : w.ownsRow B' e size v n xs := by
  refine ⟨h.1, ?_⟩
  rcases h.2 with h0 | ⟨g, cap, cur, hv, hg, rest⟩
  · exact .inl h0
  · exact .inr ⟨g, cap, cur, hv, Nat.le_trans hB hg, rest⟩
/-- A grammar's value, as it lies from block b on. -/
def GramFrom' (B : Nat) (w : World) (v : Value) (g : Gr) : Prop := ∀ W : World, (∀ k, B ≤ k → k < w.heap.size → W.heap[k]? = w.heap[k]?) → GramAt W v g

structure Rws (b : Nat) (w : World) (ts ns : List (List UInt8)) (ls : List Lay) (at_ an ap : Option Addr) (ct cn cp : Nat) : Prop where
  t : w.ownsRow b 9 1 (.slice at_ ts.length ct) ts.length (strs ts)
  n : w.ownsRow b 9 1 (.slice an ns.length cn) ns.length (strs ns)
  p : w.ownsRow b 68 2 (.slice ap ls.length cp) ls.length (lays ls)
  r : ∀ q ∈ ls, w.ownsRow b 3 1 (.slice q.addr q.right.length q.cap) q.right.length (nums q.right)
  d : ∀ x y, at_ = some x → an = some y → x.block ≠ y.block

section
variable {b : Nat} {w : World} {ts ns : List (List UInt8)} {ls : List Lay} {at_ an ap : Option Addr} {ct cn cp : Nat}

theorem Rws.same (h : Rws b w ts ns ls at_ an ap ct cn cp) {w' : World} (ht : ∀ g, (Value.slice at_ ts.length ct).ownBlock = some g → w'.heap[g]? = w.heap[g]?) (hn : ∀ g, (Value.slice an ns.length cn).ownBlock = some g → w'.heap[g]? = w.heap[g]?)
    (hp : ∀ g, (Value.slice ap ls.length cp).ownBlock = some g → w'.heap[g]? = w.heap[g]?) (hr : ∀ q ∈ ls, ∀ g, (Value.slice q.addr q.right.length q.cap).ownBlock = some g → w'.heap[g]? = w.heap[g]?) : Rws b w' ts ns ls at_ an ap ct cn cp where
  t := own_same h.t fun g hg _ => ht g hg
  n := own_same h.n fun g hg _ => hn g hg
  p := own_same h.p fun g hg _ => hp g hg
  r := fun q hq => own_same (h.r q hq) fun g hg _ => hr q hq g hg
  d := h.d
theorem Rws.keep (h : Rws b w ts ns ls at_ an ap ct cn cp) {w' : World} (hk : ∀ g, b ≤ g → g < w.heap.size → w'.heap[g]? = w.heap[g]?) : Rws b w' ts ns ls at_ an ap ct cn cp :=
  h.same (fun g hg => hk g (own_block h.t hg).1 (own_block h.t hg).2.1) (fun g hg => hk g (own_block h.n hg).1 (own_block h.n hg).2.1) (fun g hg => hk g (own_block h.p hg).1 (own_block h.p hg).2.1) (fun q hq g hg => hk g (own_block (h.r q hq) hg).1 (own_block (h.r q hq) hg).2.1)
theorem Rws.below (h : Rws b w ts ns ls at_ an ap ct cn cp) {w' : World} (hb : Below w.heap.size w w') : Rws b w' ts ns ls at_ an ap ct cn cp := h.keep fun g _ hl => hb.block g hl
theorem Rws.base {b' : Nat} (h : Rws b w ts ns ls at_ an ap ct cn cp) (hb : b' ≤ b) : Rws b' w ts ns ls at_ an ap ct cn cp where
  t := own_base' h.t hb
  n := own_base' h.n hb
  p := own_base' h.p hb
  r := fun q hq => own_base' (h.r q hq) hb
  d := h.d
theorem Rws.alloc (h : Rws b w ts ns ls at_ an ap ct cn cp) (o : Obj) : Rws b (w.alloc o) ts ns ls at_ an ap ct cn cp := h.below ((Below.refl _ _).alloc (Nat.le_refl _) _)
theorem Rws.set (h : Rws b w ts ns ls at_ an ap ct cn cp) (k i : Nat) (hk : k < b) (v : Value) : Rws b (w.setCell ⟨k, i, none⟩ v) ts ns ls at_ an ap ct cn cp := h.keep fun g hg _ => Below.heap_setCell _ _ _ _ (show g ≠ k by omega)
theorem Rws.gram (h : Rws b w ts ns ls at_ an ap ct cn cp) : GramAt w (.agg #[.slice at_ ts.length ct, .slice an ns.length cn, .slice ap ls.length cp]) ⟨ts, ns, ls.map Lay.plain⟩ :=
  ⟨at_, an, ap, ct, cn, cp, ls, rfl, rfl, (own_cells h.t).1, (own_cells h.n).1, (own_cells h.p).1, fun q hq => (own_cells (h.r q hq)).1, (own_cells h.t).2, (own_cells h.n).2, (own_cells h.p).2⟩
theorem Rws.from_ (h : Rws b w ts ns ls at_ an ap ct cn cp) : GramFrom' b w (.agg #[.slice at_ ts.length ct, .slice an ns.length cn, .slice ap ls.length cp]) ⟨ts, ns, ls.map Lay.plain⟩ := fun _ hW => (h.keep fun g h1 h2 => hW g h1 h2).gram

/-- One production more. -/
theorem Rws.put_p (h : Rws b w ts ns ls at_ an ap ct cn cp) {g cap : Nat} {w1 : World} {q : Lay} (hown : w1.ownsRow b 68 2 (.slice (some ⟨g, 0, none⟩) (ls.length + 1) cap) (ls.length + 1) (lays ls ++ [.int .i64 q.left, .slice q.addr q.right.length q.cap]))
    (hgrow : w.grownBy w1 (Value.slice ap ls.length cp).ownBlock) (hq : w.ownsRow b 3 1 (.slice q.addr q.right.length q.cap) q.right.length (nums q.right)) :
    Rws b w1 ts ns (ls ++ [q]) at_ an (some ⟨g, 0, none⟩) ct cn cap := by
  have hkeep : ∀ {e size n : Nat} {v : Value} {xs : List Value}, w.ownsRow b e size v n xs → (∀ k, v.ownBlock = some k → (Value.slice ap ls.length cp).ownBlock ≠ some k) → w1.ownsRow b e size v n xs := by
    intro e size n v xs ho hne
    exact own_same ho fun k hk hl => hgrow.block k hl (fun e => hne k hk e.symm)
  refine ⟨hkeep h.t (fun k hk => own_apart h.t h.p (by decide) hk), hkeep h.n (fun k hk => own_apart h.n h.p (by decide) hk), ?_, ?_, h.d⟩
  · have e : lays (ls ++ [q]) = lays ls ++ [.int .i64 q.left, .slice q.addr q.right.length q.cap] := by simp [lays]
    rw [e, List.length_append]
    exact hown
  · intro q' hq'
    rcases List.mem_append.1 hq' with hq' | hq'
    · exact hkeep (h.r q' hq') (fun k hk => own_apart (h.r q' hq') h.p (by decide) hk)
    · rw [List.mem_singleton.1 hq']
      exact hkeep hq (fun k hk => own_apart hq h.p (by decide) hk)

/-- One nonterminal more. -/
theorem Rws.put_n (h : Rws b w ts ns ls at_ an ap ct cn cp) {g cap : Nat} {w1 : World} {x : List UInt8} (hown : w1.ownsRow b 9 1 (.slice (some ⟨g, 0, none⟩) (ns.length + 1) cap) (ns.length + 1) (strs ns ++ [.string ⟨x.toArray⟩]))
    (hgrow : w.grownBy w1 (Value.slice an ns.length cn).ownBlock) (hat : (Value.slice an ns.length cn).ownBlock = some g ∨ w.heap.size ≤ g) :
    Rws b w1 ts (ns ++ [x]) ls at_ (some ⟨g, 0, none⟩) ap ct cap cp := by
  have hkeep : ∀ {e size n : Nat} {v : Value} {xs : List Value}, w.ownsRow b e size v n xs → (∀ k, v.ownBlock = some k → (Value.slice an ns.length cn).ownBlock ≠ some k) → w1.ownsRow b e size v n xs := by
    intro e size n v xs ho hne
    exact own_same ho fun k hk hl => hgrow.block k hl (fun e => hne k hk e.symm)
  have hdt : ∀ k, (Value.slice at_ ts.length ct).ownBlock = some k → (Value.slice an ns.length cn).ownBlock ≠ some k := by
    intro k hk hk'
    cases at_ with
    | none => cases hk
    | some x => cases an with
      | none => cases hk'
      | some y =>
        simp only [Value.ownBlock, Option.some.injEq] at hk hk'
        exact h.d x y rfl rfl (hk.trans hk'.symm)
  refine ⟨hkeep h.t hdt, ?_, hkeep h.p (fun k hk => own_apart h.p h.n (by decide) hk), fun q hq => hkeep (h.r q hq) (fun k hk => own_apart (h.r q hq) h.n (by decide) hk), ?_⟩
  · have e : strs (ns ++ [x]) = strs ns ++ [.string ⟨x.toArray⟩] := by simp [strs]
    rw [e, List.length_append]
    exact hown
  · intro x' y hx hy
    cases hy
    intro e
    rcases hat with hat | hat
    · exact hdt g (by rw [hx]; simp [Value.ownBlock, e]) hat
    · have := (own_block h.t (g := g) (by rw [hx]; simp [Value.ownBlock, e])).2.1
      omega

/-- One terminal more. -/
theorem Rws.put_t (h : Rws b w ts ns ls at_ an ap ct cn cp) {g cap : Nat} {w1 : World} {x : List UInt8} (hown : w1.ownsRow b 9 1 (.slice (some ⟨g, 0, none⟩) (ts.length + 1) cap) (ts.length + 1) (strs ts ++ [.string ⟨x.toArray⟩]))
    (hgrow : w.grownBy w1 (Value.slice at_ ts.length ct).ownBlock) (hat : (Value.slice at_ ts.length ct).ownBlock = some g ∨ w.heap.size ≤ g) :
    Rws b w1 (ts ++ [x]) ns ls (some ⟨g, 0, none⟩) an ap cap cn cp := by
  have hkeep : ∀ {e size n : Nat} {v : Value} {xs : List Value}, w.ownsRow b e size v n xs → (∀ k, v.ownBlock = some k → (Value.slice at_ ts.length ct).ownBlock ≠ some k) → w1.ownsRow b e size v n xs := by
    intro e size n v xs ho hne
    exact own_same ho fun k hk hl => hgrow.block k hl (fun e => hne k hk e.symm)
  have hdt : ∀ k, (Value.slice an ns.length cn).ownBlock = some k → (Value.slice at_ ts.length ct).ownBlock ≠ some k := by
    intro k hk hk'
    cases at_ with
    | none => cases hk'
    | some x => cases an with
      | none => cases hk
      | some y =>
        simp only [Value.ownBlock, Option.some.injEq] at hk hk'
        exact h.d x y rfl rfl (hk'.trans hk.symm)
  refine ⟨?_, hkeep h.n hdt, hkeep h.p (fun k hk => own_apart h.p h.t (by decide) hk), fun q hq => hkeep (h.r q hq) (fun k hk => own_apart (h.r q hq) h.t (by decide) hk), ?_⟩
  · have e : strs (ts ++ [x]) = strs ts ++ [.string ⟨x.toArray⟩] := by simp [strs]
    rw [e, List.length_append]
    exact hown
  · intro x' y hx hy
    cases hx
    intro e
    rcases hat with hat | hat
    · exact hdt g (by rw [hy]; exact congrArg some e.symm) hat
    · have := (own_block h.n (g := g) (by rw [hy]; exact congrArg some e.symm)).2.1
      omega
end

end Go.Proofs.YtejjdfmobiegdaaDoor

namespace Go.Proofs.YtejjdfmobiegdaaDoor
open Go.RowKit
open Doc

theorem three (w : World) (o0 o1 o2 : Obj) : Below w.heap.size w (((w.alloc o0).alloc o1).alloc o2) ∧ (((w.alloc o0).alloc o1).alloc o2).heap.size = w.heap.size + 3 ∧
    (((w.alloc o0).alloc o1).alloc o2).heap[w.heap.size]? = some o0 ∧ (((w.alloc o0).alloc o1).alloc o2).heap[w.heap.size + 1]? = some o1 ∧ (((w.alloc o0).alloc o1).alloc o2).heap[w.heap.size + 1 + 1]? = some o2 := by
  refine ⟨(((Below.refl _ _).alloc (Nat.le_refl _) _).alloc (by simp) _).alloc (by simp <;> omega) _, by simp, ?_, ?_, ?_⟩
  · rw [Below.heap_alloc _ _ _ (by simp <;> omega), Below.heap_alloc _ _ _ (by simp)]; exact heap_alloc_new w o0
  · rw [Below.heap_alloc _ _ _ (by simp)]; have := heap_alloc_new (w.alloc o0) o1; simpa using this
  · have := heap_alloc_new ((w.alloc o0).alloc o1) o2; simpa using this

theorem rowP_take {t n : Nat} {row : List Int} {k : Nat} {x : Int} (hx : row[k]? = some x) : (row.take (k + 1)).map (symP t n) = (row.take k).map (symP t n) ++ [symP t n x] := by
  rw [List.take_add_one, hx]; simp

theorem store3 {w : World} {b : Nat} {v0 v1 v2 : Value} {T : TypeId} (h : w.heap[b]? = some (.cells #[v0, v1, v2] T)) (u0 u1 u2 : Value) :
    (((w.setCell ⟨b, 0, none⟩ u0).setCell ⟨b, 1, none⟩ u1).setCell ⟨b, 2, none⟩ u2).heap[b]? = some (.cells #[u0, u1, u2] T) := by
  have h1 := heap_set w b 0 u0 _ _ h (by simp)
  have h2 := heap_set _ b 1 u1 _ _ h1 (by simp)
  have h3 := heap_set _ b 2 u2 _ _ h2 (by simp)
  exact h3.trans (by simp)
theorem store3_far {w : World} {b : Nat} (u0 u1 u2 : Value) (k : Nat) (hk : k ≠ b) : (((w.setCell ⟨b, 0, none⟩ u0).setCell ⟨b, 1, none⟩ u1).setCell ⟨b, 2, none⟩ u2).heap[k]? = w.heap[k]? := by
  rw [Below.heap_setCell _ _ _ _ hk, Below.heap_setCell _ _ _ _ hk, Below.heap_setCell _ _ _ _ hk]
theorem store3_below {B : Nat} {w0 w : World} {b : Nat} (h : Below B w0 w) (hb : B ≤ b) (u0 u1 u2 : Value) : Below B w0 (((w.setCell ⟨b, 0, none⟩ u0).setCell ⟨b, 1, none⟩ u1).setCell ⟨b, 2, none⟩ u2) :=
  ((h.setCell (p := ⟨b, 0, none⟩) hb _).setCell (p := ⟨b, 1, none⟩) hb _).setCell (p := ⟨b, 2, none⟩) hb _

/-- A part's own row grows by a symbol. -/
theorem row_put {P : Nat} {S W1 w4 : World} {left : Int} {pa : Option Addr} {r : List Int} {pc g cap4 : Nat} {x : Int} {o : Obj} (q4 : w4.heap[P]? = some (.cells #[.int .i64 left, .slice pa r.length pc] 68)) (hP : P < W1.heap.size)
    (hown1 : W1.ownsRow (P + 1) 3 1 (.slice pa r.length pc) r.length (nums r)) (hown4 : w4.ownsRow (P + 1) 3 1 (.slice (some ⟨g, 0, none⟩) (r.length + 1) cap4) (r.length + 1) (nums r ++ [.int .i64 x]))
    (hgrow4 : (W1.alloc o).grownBy w4 (Value.slice pa r.length pc).ownBlock) (hbe : Below P S W1) :
    (w4.setCell ⟨P, 1, none⟩ (.slice (some ⟨g, 0, none⟩) (r.length + 1) cap4)).heap[P]? = some (.cells #[.int .i64 left, .slice (some ⟨g, 0, none⟩) (r ++ [x]).length cap4] 68) ∧
    (w4.setCell ⟨P, 1, none⟩ (.slice (some ⟨g, 0, none⟩) (r.length + 1) cap4)).ownsRow (P + 1) 3 1 (.slice (some ⟨g, 0, none⟩) (r ++ [x]).length cap4) (r ++ [x]).length (nums (r ++ [x])) ∧
    Below P S (w4.setCell ⟨P, 1, none⟩ (.slice (some ⟨g, 0, none⟩) (r.length + 1) cap4)) := by
  have e1 : (r ++ [x]).length = r.length + 1 := by simp
  have e2 : nums (r ++ [x]) = nums r ++ [.int .i64 x] := by simp [nums]
  rw [e1, e2]
  refine ⟨?_, ?_, ?_⟩
  · rw [heap_set w4 P 1 _ _ _ q4 (by simp)]; simp
  · exact own_same hown4 fun k hk _ => Below.heap_setCell _ _ _ _ (by have := (own_block hown4 hk).1; show k ≠ P; omega)
  · exact ((hbe.alloc (Nat.le_of_lt hP) o).grown hgrow4 (by simp; omega) (fun k hk => by have := (own_block hown1 hk).1; omega)).setCell (p := ⟨P, 1, none⟩) (Nat.le_refl _) _

set_option maxRecDepth 100000 in
set_option maxHeartbeats 8000000 in
theorem put_any {b : Nat} {w : World} {ts ns : List (List UInt8)} {ls : List Lay} {at_ an ap : Option Addr} {ct cn cp : Nat} (left : Int) (ra : Option Addr) (rc : Nat) (row : List Int)
    (h : Rws b w ts ns ls at_ an ap ct cn cp) (hra : Cells w ra (nums row)) (hb : b ≤ w.heap.size) (ht : ts.length ≤ 1000) (hn : ns.length ≤ 1000) (htn : 1 ≤ ts.length + ns.length) (hl : ls.length ≤ 1000) (hq : ∀ q ∈ ls, q.right.length ≤ 1000) :
    Calls Tryd.prog 61 #[.agg #[.slice at_ ts.length ct, .slice an ns.length cn, .slice ap ls.length cp], .int .i64 left, .slice ra row.length rc] w fun e w' =>
      ∃ ap' cp' ls', e = .returned (.agg #[.slice at_ ts.length ct, .slice an ns.length cn, .slice ap' ls'.length cp']) ∧ Rws b w' ts ns ls' at_ an ap' ct cn cp' ∧ w.grownBy w' (Value.slice ap ls.length cp).ownBlock ∧
        (⟨ts, ns, ls'.map Lay.plain⟩ : Gr) = putF ⟨ts, ns, ls.map Lay.plain⟩ left row ∧ (∀ q ∈ ls', q.right.length ≤ 1000) := by
  obtain ⟨i0, hi0, hz0, hz1, hz2⟩ := info_of infoI
  obtain ⟨i1, hi1, hy0, hy1, hy2⟩ := info_of infoP
  obtain ⟨f3, fz, f0, f1, f2⟩ := three w (.cells #[.slice at_ ts.length ct, .slice an ns.length cn, .slice ap ls.length cp] 29) (.cells #[.slice none 0 0, .slice none 0 0, .slice none 0 0] 29) (.cells #[.int .i64 left, .slice none 0 0] 68)
  have HF3 := Lib.hid f3
  have HFZ := Lib.hid fz
  have H := Lib.hid h
  have HRA := Lib.hid hra
  have HQ := Lib.hid hq
  clear h hra hq f3 fz
  go_enter Tryd.func61, Tryd.ntmps61
  go_wp2
  have s30 := (blk_cell (i := 0) f0 rfl).1
  have s31 := (blk_cell (i := 1) f0 rfl).1
  have s32 := (blk_cell (i := 2) f0 rfl).1
  have F0 := Lib.hid f0
  have F1 := Lib.hid f1
  have F2 := Lib.hid f2
  clear f0 f1 f2 s30 s31 s32
  generalize hSd : (((w.alloc (.cells #[.slice at_ ts.length ct, .slice an ns.length cn, .slice ap ls.length cp] 29)).alloc (.cells #[.slice none 0 0, .slice none 0 0, .slice none 0 0] 29)).alloc (.cells #[.int .i64 left, .slice none 0 0] 68)) = S at *
  clear hSd
  generalize hB3 : w.heap.size = B3 at *
  have HB3 := Lib.hid hB3
  clear hB3
  go_loopw [9] (fun i wr => ∃ (k : Nat) (pa : Option Addr) (r : List Int) (pc : Nat), k ≤ 3 ∧ k ≤ row.length ∧ i = .int .i64 k ∧ r.length = k ∧ Hid (r = (row.take k).map (symP ts.length ns.length)) ∧ wr.heap[B3 + 1 + 1]? = some (.cells #[.int .i64 left, .slice pa r.length pc] 68) ∧
    wr.ownsRow (B3 + 1 + 1 + 1) 3 1 (.slice pa r.length pc) r.length (nums r) ∧ Below (B3 + 1 + 1) S wr) (fun i _ => 3 - (intOf i).toNat)
  case atStart => exact ⟨0, none, [], 0, by omega, by omega, rfl, rfl, Lib.hid (by simp), F2.out, World.ownsRow_nil _ _ _ _, Below.refl _ _⟩
  case round =>
    obtain ⟨k, pa, r, pc, hk3, hkr, rfl, hrl, HR, q2, hown, hbe⟩ := hrel
    have q0 := (hbe.block B3 (by omega)).trans F0.out
    have hsz : B3 + 2 < wr.heap.size := heap_lt q2
    by_cases hlt : k < row.length ∧ k < 3
    · obtain ⟨hlt, hlt3⟩ := hlt
      obtain ⟨x, hx⟩ : ∃ x, row[k]? = some x := ⟨_, List.getElem?_eq_getElem hlt⟩
      have e1 : (k : Int) < row.length := by omega
      have e2 : (k : Int) < 3 := by omega
      obtain ⟨rb, ro, rfl, hrb, hrc⟩ := HRA.out.get (by unfold nums; intro e; rw [List.map_eq_nil_iff] at e; rw [e] at hlt; simp at hlt)
      rw [HB3.out] at hrb
      have c0 := (hbe.cell (p := ⟨rb, ro + k, none⟩) (show rb < B3 + 2 by omega)).trans ((HF3.out.cell (p := ⟨rb, ro + k, none⟩) hrb).trans (hrc k _ (nums_at hx)))
      have hrb2 : rb < wr.heap.size := by omega
      have d0 := (blk_cell (i := 1) (u := .slice an ns.length cn) q0 rfl).1
      
      obtain ⟨d, hd, hdl⟩ : ∃ d : Nat, x % ((ts.length : Int) + ns.length) = d ∧ d < ts.length + ns.length := ⟨(x % ((ts.length : Int) + ns.length)).toNat, by
        have := Int.emod_nonneg x (show ((ts.length : Int) + ns.length) ≠ 0 by omega); omega, by
        have := Int.emod_nonneg x (show ((ts.length : Int) + ns.length) ≠ 0 by omega)
        have := Int.emod_lt_of_pos x (show (0 : Int) < (ts.length : Int) + ns.length by omega); omega⟩
      have HW := Lib.hid fun a => (within_any x ((ts.length : Int) + ns.length) (by omega) (by omega) (wr.drewN a)).mono fun e w' ⟨he, hw⟩ => (⟨he.trans (by rw [hd]), a, hw⟩ : e = Ending.returned (.int .i64 d) ∧ ∃ n, w' = wr.drewN n)
      have HRS := Lib.hid (show (row.take (k + 1)).map (symP ts.length ns.length) = r ++ [symP ts.length ns.length x] by rw [rowP_take hx, HR.out])
      have HD := Lib.hid hd
      have HXX := Lib.hid hx
      have HRL := Lib.hid hrl
      have hr3 : r.length ≤ 3 := by omega
      clear hd hx hrc hrl
      go_wp2
      go_quiet ((go_at_call 12; exact HW.out _))
      have q21 : (wr.drewN nq).heap[B3 + 1 + 1]? = some (.cells #[.int .i64 left, .slice pa r.length pc] 68) := q2
      have hown1 : (wr.drewN nq).ownsRow (B3 + 1 + 1 + 1) 3 1 (.slice pa r.length pc) r.length (nums r) := own_same hown (fun g _ _ => rfl)
      have hbe1 : Below (B3 + 1 + 1) S (wr.drewN nq) := below_drews hbe nq
      have hsz1 : B3 + 1 + 1 < (wr.drewN nq).heap.size := hsz
      have p1 := (blk_cell (i := 1) (u := .slice pa r.length pc) q21 rfl).1
      clear q2 hown hbe hsz d0 HW c0 hrb2 q0
      generalize wr.drewN nq = W1 at *
      by_cases hdt : d < ts.length
      · have hdt2 : (d : Int) < ts.length := by omega
        have HS := Lib.hid (show symP ts.length ns.length x = d + 1 by
          unfold symP
          rw [show ((ts.length + ns.length : Nat) : Int) = (ts.length : Int) + ns.length by omega, HD.out, if_pos hdt2])
        go_wp2_with (at_builtin; refine wpList_append_lies _ rfl (.tmp 42) (.tmp 45) 25 rfl (B3 + 1 + 1 + 1) 3 i0 (.int .i64 0) 1 8 Tryd.underlying25 hi0 hz0 hz1 hz2 rfl (by decide) _ r.length (nums r) rfl (hown1.alloc _) ⟨W1.heap.size, 0, none⟩ 1 1 [.int .i64 ((d : Int) + 1)] rfl rfl (World.news_of_block (cs := #[.int .i64 ((d : Int) + 1)]) (t := 3) (fr := (0, 0)) (heap_alloc_new W1 _)) (by simp [Value.oneCell']) (by decide) (by unfold maxLen; omega) (by omega) (by simp; omega) W1.heap.size.succ (by simp) ?_; intro g cap4 w4 hown4 hgrow4 hat4 hlt4; have q4 := (hgrow4.block (B3 + 1 + 1) (by simp; omega) (by intro e; have := (own_block hown1 e.symm).1; omega)).trans ((Below.heap_alloc W1 _ (B3 + 1 + 1) hsz1).trans q21); obtain ⟨p4, z4⟩ := blk_cell (i := 1) (u := .slice pa r.length pc) q4 rfl)
        obtain ⟨g1, g2, g3⟩ := row_put q4 hsz1 hown1 hown4 hgrow4 hbe1
        exact ⟨⟨k + 1, some ⟨g, 0, none⟩, r ++ [(d : Int) + 1], cap4, by omega, by omega, by go_num, by have := HRL.out; simp; omega, Lib.hid (by rw [HRS.out, HS.out]), g1, g2, g3⟩, by simp [intOf]; omega⟩
      · have hdt2 : ¬ (d : Int) < ts.length := by omega
        have HS := Lib.hid (show symP ts.length ns.length x = 100 + (d : Int) - ts.length by
          unfold symP
          rw [show ((ts.length + ns.length : Nat) : Int) = (ts.length : Int) + ns.length by omega, HD.out, if_neg hdt2])
        go_wp2_with (at_builtin; refine wpList_append_lies _ rfl (.tmp 49) (.tmp 54) 25 rfl (B3 + 1 + 1 + 1) 3 i0 (.int .i64 0) 1 8 Tryd.underlying25 hi0 hz0 hz1 hz2 rfl (by decide) _ r.length (nums r) rfl (hown1.alloc _) ⟨W1.heap.size, 0, none⟩ 1 1 [.int .i64 (100 + (d : Int) - ts.length)] rfl rfl (World.news_of_block (cs := #[.int .i64 (100 + (d : Int) - ts.length)]) (t := 3) (fr := (0, 0)) (heap_alloc_new W1 _)) (by simp [Value.oneCell']) (by decide) (by unfold maxLen; omega) (by omega) (by simp; omega) W1.heap.size.succ (by simp) ?_; intro g cap4 w4 hown4 hgrow4 hat4 hlt4; have q4 := (hgrow4.block (B3 + 1 + 1) (by simp; omega) (by intro e; have := (own_block hown1 e.symm).1; omega)).trans ((Below.heap_alloc W1 _ (B3 + 1 + 1) hsz1).trans q21); obtain ⟨p4, z4⟩ := blk_cell (i := 1) (u := .slice pa r.length pc) q4 rfl)
        obtain ⟨g1, g2, g3⟩ := row_put q4 hsz1 hown1 hown4 hgrow4 hbe1
        exact ⟨⟨k + 1, some ⟨g, 0, none⟩, r ++ [100 + (d : Int) - ts.length], cap4, by omega, by omega, by go_num, by have := HRL.out; simp; omega, Lib.hid (by rw [HRS.out, HS.out]), g1, g2, g3⟩, by simp [intOf]; omega⟩
    · have hfin : r = rowP ts.length ns.length row := by
        rw [HR.out]
        unfold rowP
        congr 1
        by_cases hk : k < 3
        · rw [List.take_of_length_le (by omega), List.take_of_length_le (by omega)]
        · rw [show k = 3 by omega]
      have hwr : Below w.heap.size w wr := by rw [HB3.out]; exact HF3.out.trans (hbe.mono (by omega))
      have h2 := H.out.below hwr
      have p0 := (blk_cell (i := 0) (u := .int .i64 left) q2 rfl).1
      have p1 := (blk_cell (i := 1) (u := .slice pa r.length pc) q2 rfl).1
      have d0 := (blk_cell (i := 0) (u := .slice at_ ts.length ct) q0 rfl).1
      have d1 := (blk_cell (i := 1) (u := .slice an ns.length cn) q0 rfl).1
      have d2 := (blk_cell (i := 2) (u := .slice ap ls.length cp) q0 rfl).1
      have d3 : B3 < wr.heap.size := by omega
      have q1 := (hbe.block (B3 + 1) (by omega)).trans F1.out
      have HH2 := Lib.hid h2
      have HFIN := Lib.hid hfin
      have HQ0 := Lib.hid q0
      have HQ1 := Lib.hid q1
      have HQ2 := Lib.hid q2
      have HWR := Lib.hid hwr
      have HOWN := Lib.hid hown
      have HBE := Lib.hid hbe
      have HRL := Lib.hid hrl
      have hr3 : r.length ≤ 3 := by omega
      have hex : ¬ (k : Int) < row.length ∨ ((k : Int) < row.length ∧ ¬ (k : Int) < 3) := by omega
      clear h2 hfin q0 q1 q2 hwr hown hbe hrl hlt hk3 hkr HR
      rcases hex with hx1 | ⟨hx1, hx2⟩
      all_goals
        go_wp2
        go_loopw [60] (fun i wx => ∃ k : Nat, k ≤ ls.length ∧ i = .int .i64 k ∧ Below wr.heap.size wr wx ∧ Hid (∀ j p, j < k → ls[j]? = some p → p.plain ≠ (left, r))) (fun i _ => ls.length - (intOf i).toNat)
        case atStart => exact ⟨0, by omega, rfl, Below.refl _ _, Lib.hid (by intro j p hj; omega)⟩
        case round =>
          rename World => wx
          obtain ⟨j, hj, rfl, hbx, HI⟩ := hrel
          have y0 := (hbx.cell (p := ⟨B3 + 1 + 1, 0, none⟩) hsz).trans p0
          have y1 := (hbx.cell (p := ⟨B3 + 1 + 1, 1, none⟩) hsz).trans p1
          have z0 := (hbx.cell (p := ⟨B3, 0, none⟩) d3).trans d0
          have z1 := (hbx.cell (p := ⟨B3, 1, none⟩) d3).trans d1
          have z2 := (hbx.cell (p := ⟨B3, 2, none⟩) d3).trans d2
          have hxz : B3 + 1 + 1 < wx.heap.size := Nat.lt_of_lt_of_le hsz hbx.size
          have hxz3 : B3 < wx.heap.size := by omega
          by_cases hjl : j < ls.length
          · obtain ⟨q, hqj⟩ : ∃ q, ls[j]? = some q := ⟨_, List.getElem?_eq_getElem hjl⟩
            obtain ⟨bb, off, hap, hbbl, hc⟩ := ((own_cells HH2.out.p).1.below hbx).get (by intro e; have := (lays_at ls j q hqj).1; rw [e] at this; simp at this)
            have x0 := hc _ _ (lays_at ls j q hqj).1
            have x1 := hc _ _ (lays_at ls j q hqj).2
            rw [← Nat.add_assoc] at x1
            subst hap
            have e3 : (j : Int) < ls.length := by omega
            have hqm := List.mem_of_getElem? hqj
            have hrc := (own_cells (HH2.out.r q hqm)).1.below hbx
            have hq1 := HQ.out q hqm
            have hpc := (own_cells HOWN.out).1.below hbx
            have HSR := Lib.hid fun o => sameRow_any q.addr pa q.cap pc q.right r (wx.alloc o) (hrc.below ((Below.refl _ _).alloc (Nat.le_refl _) _)) (hpc.below ((Below.refl _ _).alloc (Nat.le_refl _) _)) (by omega) (by omega)
            have HQJ := Lib.hid hqj
            have HQM := Lib.hid hqm
            have hnew : Hid (q.plain ≠ (left, r) → ∀ j' p, j' < j + 1 → ls[j']? = some p → p.plain ≠ (left, r)) := Lib.hid fun hne j' p hj' hp => by
              by_cases h : j' = j
              · subst h; rw [hqj] at hp; cases hp; exact hne
              · exact HI.out j' p (by omega) hp
            have hxs : Below wr.heap.size wr wx := hbx
            have HBX := Lib.hid hbx
            have hbx' := Lib.hid hbx
            clear hc hqj hqm hrc hpc hbx hxs
            by_cases hpl : q.left = left
            · have hpl2 : (q.left == left) = true := by simp [hpl]
              cases hsr : decide (q.right = r) with
              | false =>
                have hN := Lib.hid (hnew.out (by intro e; have := congrArg Prod.snd e; rw [decide_eq_false_iff_not] at hsr; exact hsr this))
                clear hpl
                go_wp2_with (go_at_call 51; refine (HSR.out _).mono ?_; rintro e w2 ⟨rfl, n2, rfl⟩; simp only [hsr])
                exact ⟨⟨j + 1, by omega, by go_num, below_drews (HBX.out.alloc HBX.out.size _) n2, hN⟩, by simp [intOf]; omega⟩
              | true =>
                have hrr := of_decide_eq_true hsr
                have hmem := Lib.hid (show (left, rowP ts.length ns.length row) ∈ ls.map Lay.plain by rw [← HFIN.out, ← hrr, ← hpl]; exact List.mem_map.2 ⟨q, HQM.out, rfl⟩)
                obtain ⟨g1, k1⟩ := blk_cell (i := 0) (u := .slice none 0 0) ((hbx'.out.block (B3 + 1) (by omega)).trans HQ1.out) rfl
                obtain ⟨g2, k2⟩ := blk_cell (i := 1) (u := .slice none 0 0) ((hbx'.out.block (B3 + 1) (by omega)).trans HQ1.out) rfl
                obtain ⟨g3, k3⟩ := blk_cell (i := 2) (u := .slice none 0 0) ((hbx'.out.block (B3 + 1) (by omega)).trans HQ1.out) rfl
                have hxz1 : B3 + 1 < wx.heap.size := by omega
                clear hpl hrr
                go_wp2_with (go_at_call 51; refine (HSR.out _).mono ?_; rintro e w2 ⟨rfl, n2, rfl⟩; simp only [hsr])
                have hbA : Below w.heap.size w ((wx.alloc (.cells #[.int .i64 q.left, .slice q.addr q.right.length q.cap] 68)).drewN n2) := below_drews ((HWR.out.trans (HBX.out.mono HWR.out.size)).alloc (Nat.le_trans HWR.out.size HBX.out.size) _) n2
                have hq1A : ((wx.alloc (.cells #[.int .i64 q.left, .slice q.addr q.right.length q.cap] 68)).drewN n2).heap[B3 + 1]? = some (.cells #[.slice none 0 0, .slice none 0 0, .slice none 0 0] 29) := (Below.heap_alloc wx _ (B3 + 1) hxz1).trans ((HBX.out.block (B3 + 1) (by omega)).trans HQ1.out)
                have hst := store3 hq1A (.slice at_ ts.length ct) (.slice an ns.length cn) (.slice (some ⟨bb, off, none⟩) ls.length cp)
                have hF := store3_below hbA (by rw [HB3.out]; omega : w.heap.size ≤ B3 + 1) (.slice at_ ts.length ct) (.slice an ns.length cn) (.slice (some ⟨bb, off, none⟩) ls.length cp)
                (try simp only [Exit.inBlock, Exit.then])
                refine bodyPost_ret (v := .agg #[.slice at_ ts.length ct, .slice an ns.length cn, .slice (some ⟨bb, off, none⟩) ls.length cp]) ?_ rfl ⟨_, _, ls, rfl, H.out.below hF, gb_of hF, ?_, HQ.out⟩
                · rw [results_cell1 (p := 6) (ty := 29) rfl]
                  show ((asAddr (.pointer (some ⟨B3 + 1, 0, none⟩))).run _ _).andThen _ = _
                  show (loadVar 29 ⟨B3 + 1, 0, none⟩).run _ _ = _
                  exact run_loadVar_row _ (B3 + 1) 29 29 _ (0, 0) _ hst Tryd.underlying29 rfl (by kernel_rfl)
                · unfold putF
                  exact (if_pos hmem.out).symm
            · have hpl2 : (q.left == left) = false := by simp [hpl]
              have hN := Lib.hid (hnew.out (by intro e; exact hpl (congrArg Prod.fst e)))
              clear hpl
              go_wp2
              exact ⟨⟨j + 1, by omega, by go_num, HBX.out.alloc HBX.out.size _, hN⟩, by simp [intOf]; omega⟩
          · have e3 : ¬ (j : Int) < ls.length := by omega
            have HI2 := Lib.hid (show (left, rowP ts.length ns.length row) ∉ ls.map Lay.plain by
              intro hm
              obtain ⟨p, hp, e⟩ := List.mem_map.1 hm
              obtain ⟨i, hi, ei⟩ := List.getElem_of_mem hp
              exact HI.out i p (by omega) (by rw [List.getElem?_eq_getElem hi, ei]) (by rw [e, HFIN.out]))
            have h3 := HH2.out.below hbx
            have hown3 := own_same HOWN.out fun g _ hg => hbx.block g hg
            have q0x := (hbx.block B3 d3).trans HQ0.out
            have hapk : ∀ k, (Value.slice ap ls.length cp).ownBlock = some k → k < B3 := fun k hk => by have := (own_block H.out.p hk).2.1; rw [HB3.out] at this; exact this
            have HAPK := Lib.hid hapk
            have HBX := Lib.hid hbx
            have HH3 := Lib.hid h3
            have HOW3 := Lib.hid hown3
            have HQX := Lib.hid q0x
            have q1x := (hbx.block (B3 + 1) (by omega)).trans HQ1.out
            have HQ1X := Lib.hid q1x
            have hbB : b ≤ wx.heap.size := by omega
            clear HI hbx h3 hown3 q0x hapk q1x
            go_wp2_with (at_builtin; refine wpList_append_lies _ rfl (.tmp 78) (.tmp 80) 27 rfl b 68 i1 (.agg #[.int .i64 0, .slice none 0 0]) 2 32 Tryd.underlying27 hi1 hy0 hy1 hy2 rfl (by decide) _ ls.length (lays ls) rfl (HH3.out.p.alloc _) ⟨wx.heap.size, 0, none⟩ 1 1 [.int .i64 left, .slice pa r.length pc] rfl rfl (World.news_of_block (cs := #[.int .i64 left, .slice pa r.length pc]) (t := 68) (fr := (0, 0)) (heap_alloc_new wx _)) (by simp [Value.oneCell']) (by decide) (by unfold maxLen; omega) (by omega) (by simp; omega) wx.heap.size.succ (by simp) ?_; intro g cap4 w4 hown4 hgrow4 hat4 hlt4; have q04 := (hgrow4.block B3 (by simp; omega) (by intro e; have := HAPK.out _ e.symm; omega)).trans ((Below.heap_alloc wx _ B3 hxz3).trans HQX.out); have q14 := (hgrow4.block (B3 + 1) (by simp; omega) (by intro e; have := HAPK.out _ e.symm; omega)).trans ((Below.heap_alloc wx _ (B3 + 1) (by omega)).trans HQ1X.out); obtain ⟨v0, x0⟩ := blk_cell (i := 0) (u := .slice at_ ts.length ct) q04 rfl; obtain ⟨v1, x1⟩ := blk_cell (i := 1) (u := .slice an ns.length cn) q04 rfl; obtain ⟨v2, x2⟩ := blk_cell (i := 2) (u := .slice ap ls.length cp) q04 rfl; obtain ⟨v3, x3⟩ := blk_cell (i := 0) (u := .slice none 0 0) q14 rfl; obtain ⟨v4, x4⟩ := blk_cell (i := 1) (u := .slice none 0 0) q14 rfl; obtain ⟨v5, x5⟩ := blk_cell (i := 2) (u := .slice none 0 0) q14 rfl; have hw43 : B3 < w4.heap.size := heap_lt q04; have hw44 : B3 + 1 < w4.heap.size := heap_lt q14; have HQ04 := Lib.hid q04; have HQ14 := Lib.hid q14; clear q04 q14)
            have hq2 : (wx.alloc (.cells #[.int .i64 left, .slice pa r.length pc] 68)).ownsRow b 3 1 (.slice pa r.length pc) r.length (nums r) := own_base' (HOW3.out.alloc _) (by omega)
            have hp4 := (HH3.out.alloc (.cells #[.int .i64 left, .slice pa r.length pc] 68)).put_p (q := ⟨left, r, pa, pc⟩) hown4 hgrow4 hq2
            have hat5 : ∀ k, (Value.slice (some (⟨g, 0, none⟩ : Addr)) (ls ++ [(⟨left, r, pa, pc⟩ : Lay)]).length cap4).ownBlock = some k → k ≠ B3 ∧ k ≠ B3 + 1 := fun k hk => by
              have hk : g = k := by simpa [Value.ownBlock] using hk
              subst hk
              rcases hat4 with h | h
              · have := HAPK.out _ h; omega
              · omega
            have hfar : ∀ k, k ≠ B3 → k ≠ B3 + 1 → ((((w4.setCell ⟨B3, 2, none⟩ (.slice (some ⟨g, 0, none⟩) (ls.length + 1) cap4)).setCell ⟨B3 + 1, 0, none⟩ (.slice at_ ts.length ct)).setCell ⟨B3 + 1, 1, none⟩ (.slice an ns.length cn)).setCell ⟨B3 + 1, 2, none⟩ (.slice (some ⟨g, 0, none⟩) (ls.length + 1) cap4)).heap[k]? = w4.heap[k]? := fun k h1 h2 => by
              rw [store3_far _ _ _ k h2, Below.heap_setCell _ _ _ _ h1]
            have hlow : ∀ {e size n : Nat} {v : Value} {xs : List Value}, w.ownsRow b e size v n xs → ∀ k, v.ownBlock = some k → k ≠ B3 ∧ k ≠ B3 + 1 := fun ho k hk => by have := (own_block ho hk).2.1; rw [HB3.out] at this; omega
            have hF : Rws b ((((w4.setCell ⟨B3, 2, none⟩ (.slice (some ⟨g, 0, none⟩) (ls.length + 1) cap4)).setCell ⟨B3 + 1, 0, none⟩ (.slice at_ ts.length ct)).setCell ⟨B3 + 1, 1, none⟩ (.slice an ns.length cn)).setCell ⟨B3 + 1, 2, none⟩ (.slice (some ⟨g, 0, none⟩) (ls.length + 1) cap4)) ts ns (ls ++ [⟨left, r, pa, pc⟩]) at_ an (some ⟨g, 0, none⟩) ct cn cap4 := hp4.same
              (fun k hk => hfar k (hlow H.out.t k hk).1 (hlow H.out.t k hk).2) (fun k hk => hfar k (hlow H.out.n k hk).1 (hlow H.out.n k hk).2) (fun k hk => hfar k (hat5 k hk).1 (hat5 k hk).2)
              (fun q hq k hk => by
                rcases List.mem_append.1 hq with hq | hq
                · exact hfar k (hlow (H.out.r q hq) k hk).1 (hlow (H.out.r q hq) k hk).2
                · rw [List.mem_singleton.1 hq] at hk
                  have := (own_block HOW3.out hk).1
                  exact hfar k (by omega) (by omega))
            have hst := store3 (w := w4.setCell ⟨B3, 2, none⟩ (.slice (some ⟨g, 0, none⟩) (ls.length + 1) cap4)) ((Below.heap_setCell _ _ _ _ (show B3 + 1 ≠ B3 by omega)).trans HQ14.out) (.slice at_ ts.length ct) (.slice an ns.length cn) (.slice (some ⟨g, 0, none⟩) (ls.length + 1) cap4)
            have hG : w.grownBy ((((w4.setCell ⟨B3, 2, none⟩ (.slice (some ⟨g, 0, none⟩) (ls.length + 1) cap4)).setCell ⟨B3 + 1, 0, none⟩ (.slice at_ ts.length ct)).setCell ⟨B3 + 1, 1, none⟩ (.slice an ns.length cn)).setCell ⟨B3 + 1, 2, none⟩ (.slice (some ⟨g, 0, none⟩) (ls.length + 1) cap4)) (Value.slice ap ls.length cp).ownBlock :=
              gb_below (gb_trans (gb_of ((HWR.out.trans (HBX.out.mono HWR.out.size)).alloc (Nat.le_trans HWR.out.size HBX.out.size) (.cells #[.int .i64 left, .slice pa r.length pc] 68))) hgrow4 (fun x hx => .inl hx))
                (store3_below ((Below.refl _ _).setCell (p := ⟨B3, 2, none⟩) (by rw [HB3.out]; exact Nat.le_refl _) _) (by rw [HB3.out]; omega) _ _ _)
            (try simp only [Exit.inBlock, Exit.then])
            refine bodyPost_ret (v := .agg #[.slice at_ ts.length ct, .slice an ns.length cn, .slice (some ⟨g, 0, none⟩) (ls.length + 1) cap4]) ?_ rfl ⟨_, _, ls ++ [⟨left, r, pa, pc⟩], by simp, hF, hG, ?_, ?_⟩
            · rw [results_cell1 (p := 6) (ty := 29) rfl]
              show ((asAddr (.pointer (some ⟨B3 + 1, 0, none⟩))).run _ _).andThen _ = _
              show (loadVar 29 ⟨B3 + 1, 0, none⟩).run _ _ = _
              exact run_loadVar_row _ (B3 + 1) 29 29 _ (0, 0) _ hst Tryd.underlying29 rfl (by kernel_rfl)
            · unfold putF
              rw [if_neg HI2.out]
              simp [Lay.plain, HFIN.out]
            · intro q hq
              rcases List.mem_append.1 hq with hq | hq
              · exact HQ.out q hq
              · rw [List.mem_singleton.1 hq]; show r.length ≤ _; omega

end Go.Proofs.YtejjdfmobiegdaaDoor

namespace Go.Proofs.YtejjdfmobiegdaaDoor
open Go.RowKit
open Doc

/-- A row of numbers as it lies. -/
structure RowL where
  addr : Option Addr
  cap : Nat
  row : List Int
def rowVs (l : List RowL) : List Value := l.map fun r => .slice r.addr r.row.length r.cap
theorem rowVs_at {l : List RowL} {j : Nat} {r : RowL} (h : l[j]? = some r) : (rowVs l)[j]? = some (.slice r.addr r.row.length r.cap) := by
  unfold rowVs; rw [List.getElem?_map, h]; rfl
structure RawX where
  pick : Int
  terms : Int
  nons : Int
  how : Int
  rows : List RowL
  ra : Option Addr
  rc : Nat
  word : ByteArray
def RawX.v (x : RawX) : Value := .agg #[.int .i64 x.pick, .int .i64 x.terms, .int .i64 x.nons, .int .i64 x.how, .slice x.ra x.rows.length x.rc, .string x.word]
def RawX.plain (x : RawX) : List (List Int) := x.rows.map (·.row)
structure RawAt (w : World) (x : RawX) : Prop where
  cells : Cells w x.ra (rowVs x.rows)
  each : ∀ r ∈ x.rows, Cells w r.addr (nums r.row)
  wide : ∀ r ∈ x.rows, ∀ y ∈ r.row, -9223372036854775808 ≤ y ∧ y ≤ 9223372036854775807
theorem RawAt.below {w w' : World} {x : RawX} (h : RawAt w x) (hb : Below w.heap.size w w') : RawAt w' x := ⟨h.cells.below hb, fun r hr => (h.each r hr).below hb, h.wide⟩

/-- What Any makes of a raw one. -/
def RawX.any (x : RawX) : Gr := anyF x.terms x.nons x.plain

theorem wrap_tdiv (z : Int) (h1 : -9223372036854775808 ≤ z) (h2 : z ≤ 9223372036854775807) : IntKind.i64.wrap (z.tdiv 16) = z.tdiv 16 := by
  have h : -9223372036854775808 ≤ z.tdiv 16 ∧ z.tdiv 16 ≤ 9223372036854775807 := by
    rcases Int.le_total 0 z with h | h
    · rw [Int.tdiv_eq_ediv_of_nonneg h]; omega
    · have e : z.tdiv 16 = -((-z) / 16) := by
        rw [← Int.tdiv_eq_ediv_of_nonneg (show 0 ≤ -z by omega), Int.neg_tdiv, Int.neg_neg]
      rw [e]; omega
  rw [IntKind.wrap_i64]; omega
theorem within3 (v : Int) : ∃ d : Nat, v % 3 = d ∧ d < 3 := ⟨(v % 3).toNat, by omega, by omega⟩

/-- A grammar in a block, its rows behind F. -/
structure GBlk (b F : Nat) (w : World) (ts ns : List (List UInt8)) (ls : List Lay) (at_ an ap : Option Addr) (ct cn cp : Nat) : Prop where
  blk : w.heap[b]? = some (.cells #[.slice at_ ts.length ct, .slice an ns.length cn, .slice ap ls.length cp] 29)
  rws : Rws F w ts ns ls at_ an ap ct cn cp
  lt : b < F
  le : F ≤ w.heap.size
theorem GBlk.below {b F : Nat} {w : World} {ts ns : List (List UInt8)} {ls : List Lay} {at_ an ap : Option Addr} {ct cn cp : Nat} (h : GBlk b F w ts ns ls at_ an ap ct cn cp) {w' : World} (hb : Below w.heap.size w w') : GBlk b F w' ts ns ls at_ an ap ct cn cp :=
  ⟨(hb.block b (heap_lt h.blk)).trans h.blk, h.rws.below hb, h.lt, Nat.le_trans h.le hb.size⟩

theorem baseP_nons (g : Gr) : ∀ i, (baseP g i).nons.length = g.nons.length
  | 0 => rfl
  | i + 1 => by
    show (putF _ _ _).nons.length = _
    unfold putF
    split
    · exact baseP_nons g i
    · exact baseP_nons g i
theorem rowsP_nons (g : Gr) (rows : List (List Int)) : ∀ i, (rowsP g rows i).nons.length = g.nons.length
  | 0 => rfl
  | i + 1 => by
    simp only [rowsP]
    split
    · exact rowsP_nons g rows i
    · unfold putF
      split
      · exact rowsP_nons g rows i
      · exact rowsP_nons g rows i
theorem gblk_put {b6 F B : Nat} {S1 wr W1 w2 : World} {ts ns : List (List UInt8)} {ls ls2 : List Lay} {at_ an ap ap2 : Option Addr} {ct cn cp cp2 : Nat} (HG : GBlk b6 F wr ts ns ls at_ an ap ct cn cp) (hW : Below wr.heap.size wr W1)
    (hr2 : Rws F w2 ts ns ls2 at_ an ap2 ct cn cp2) (hg2 : W1.grownBy w2 (Value.slice ap ls.length cp).ownBlock) (h62 : w2.heap[b6]? = some (.cells #[.slice at_ ts.length ct, .slice an ns.length cn, .slice ap ls.length cp] 29)) (hbe : Below B S1 wr) (hS : B ≤ b6) :
    GBlk b6 F (((w2.setCell ⟨b6, 0, none⟩ (.slice at_ ts.length ct)).setCell ⟨b6, 1, none⟩ (.slice an ns.length cn)).setCell ⟨b6, 2, none⟩ (.slice ap2 ls2.length cp2)) ts ns ls2 at_ an ap2 ct cn cp2 ∧
    Below B S1 (((w2.setCell ⟨b6, 0, none⟩ (.slice at_ ts.length ct)).setCell ⟨b6, 1, none⟩ (.slice an ns.length cn)).setCell ⟨b6, 2, none⟩ (.slice ap2 ls2.length cp2)) := by
  have hlt := HG.lt
  have hle := HG.le
  refine ⟨⟨store3 h62 _ _ _, hr2.keep fun g hg _ => store3_far _ _ _ g (by omega), hlt, ?_⟩, ?_⟩
  · have h1 := hW.size
    have h2 := hg2.size
    simp; omega
  · refine store3_below ?_ hS _ _ _
    have h1 := hW.size
    exact ((hbe.trans (hW.mono (by omega))).grown hg2 (by omega) (fun k hk => by have := (own_block HG.rws.p hk).1; omega))
theorem put_len {ts ns : List (List UInt8)} {ls ls2 : List Lay} {left : Int} {row : List Int} (h : (⟨ts, ns, ls2.map Lay.plain⟩ : Gr) = putF ⟨ts, ns, ls.map Lay.plain⟩ left row) : ls2.length ≤ ls.length + 1 := by
  have h1 := (putF_len ⟨ts, ns, ls.map Lay.plain⟩ left row).1
  rw [← h] at h1
  simpa using h1

theorem own_sets {F b6 : Nat} {W : World} {e : TypeId} {size n : Nat} {v : Value} {xs : List Value} (h : W.ownsRow F e size v n xs) (hb : b6 < F) (u0 u1 : Value) : ((W.setCell ⟨b6, 0, none⟩ u0).setCell ⟨b6, 1, none⟩ u1).ownsRow F e size v n xs :=
  own_same h fun g hg _ => by
    have := (own_block h hg).1
    rw [Below.heap_setCell _ _ _ _ (show g ≠ b6 by omega), Below.heap_setCell _ _ _ _ (show g ≠ b6 by omega)]

set_option maxRecDepth 100000 in
set_option maxHeartbeats 8000000 in
theorem any_any (x : RawX) (w : World) (hx : RawAt w x) :
    Calls Tryd.prog 23 #[x.v] w fun e w' => Below w.heap.size w w' ∧ ∃ (F : Nat) (ts ns : List (List UInt8)) (ls : List Lay) (at_ an ap : Option Addr) (ct cn cp : Nat), e = .returned (.agg #[.slice at_ ts.length ct, .slice an ns.length cn, .slice ap ls.length cp]) ∧ w.heap.size ≤ F ∧ Rws F w' ts ns ls at_ an ap ct cn cp ∧ (⟨ts, ns, ls.map Lay.plain⟩ : Gr) = x.any ∧ F ≤ w'.heap.size := by
  obtain ⟨xp, xt, xn, xh, rows, xa, xc, word⟩ := x
  unfold RawX.v
  simp only
  obtain ⟨i0, hi0, hz0, hz1, hz2⟩ := info_of infoS
  obtain ⟨d1, hd1, l1⟩ := within3 xt
  obtain ⟨d2, hd2, l2⟩ := within3 xn
  have HX := Lib.hid hx
  clear hx
  have hblk := heap_alloc_new w (.cells #[.int .i64 xp, .int .i64 xt, .int .i64 xn, .int .i64 xh, .slice xa rows.length xc, .string word] 24)
  have hbl0 : Below w.heap.size w (w.alloc (.cells #[.int .i64 xp, .int .i64 xt, .int .i64 xn, .int .i64 xh, .slice xa rows.length xc, .string word] 24)) := (Below.refl _ _).alloc (Nat.le_refl _) _
  have hxw := hbl0
  obtain ⟨x1, y1⟩ := blk_cell (i := 1) (u := .int .i64 xt) hblk rfl
  obtain ⟨x2, y2⟩ := blk_cell (i := 2) (u := .int .i64 xn) hblk rfl
  obtain ⟨x4, y4⟩ := blk_cell (i := 4) (u := .slice xa rows.length xc) hblk rfl
  have hzz : w.heap.size < (w.alloc (.cells #[.int .i64 xp, .int .i64 xt, .int .i64 xn, .int .i64 xh, .slice xa rows.length xc, .string word] 24)).heap.size := heap_lt hblk
  have HBLK := Lib.hid hblk
  have HBL0 := Lib.hid hbl0
  clear hblk hbl0 y1 y2 y4 hxw
  go_enter Tryd.func23, Tryd.ntmps23
  go_wp2
  have hsz1 : ((w.alloc (.cells #[.int .i64 xp, .int .i64 xt, .int .i64 xn, .int .i64 xh, .slice xa rows.length xc, .string word] 24)).alloc (.cells #[.slice none 0 0, .slice none 0 0, .slice none 0 0] 29)).heap.size = w.heap.size + 2 := by simp
  have q0 := (Below.heap_alloc (w.alloc (.cells #[.int .i64 xp, .int .i64 xt, .int .i64 xn, .int .i64 xh, .slice xa rows.length xc, .string word] 24)) (.cells #[.slice none 0 0, .slice none 0 0, .slice none 0 0] 29) w.heap.size hzz).trans HBLK.out
  have q1 : ((w.alloc (.cells #[.int .i64 xp, .int .i64 xt, .int .i64 xn, .int .i64 xh, .slice xa rows.length xc, .string word] 24)).alloc (.cells #[.slice none 0 0, .slice none 0 0, .slice none 0 0] 29)).heap[w.heap.size + 1]? = some (.cells #[.slice none 0 0, .slice none 0 0, .slice none 0 0] 29) := by
    have := heap_alloc_new (w.alloc (.cells #[.int .i64 xp, .int .i64 xt, .int .i64 xn, .int .i64 xh, .slice xa rows.length xc, .string word] 24)) (.cells #[.slice none 0 0, .slice none 0 0, .slice none 0 0] 29)
    simpa using this
  have hB := HBL0.out.alloc (by simp) (.cells #[.slice none 0 0, .slice none 0 0, .slice none 0 0] 29)
  have HS1 := Lib.hid hsz1
  have Q0 := Lib.hid q0
  have Q1 := Lib.hid q1
  have HB := Lib.hid hB
  clear hsz1 q0 q1 hB x1 x2 x4 hzz HBLK HBL0
  generalize (w.alloc (.cells #[.int .i64 xp, .int .i64 xt, .int .i64 xn, .int .i64 xh, .slice xa rows.length xc, .string word] 24)).alloc (.cells #[.slice none 0 0, .slice none 0 0, .slice none 0 0] 29) = S at *
  generalize hB0 : w.heap.size = B0 at *
  have HB0 := Lib.hid hB0
  clear hB0
  have x1 := (blk_cell (i := 1) (u := .int .i64 xt) Q0.out rfl).1
  have x2 := (blk_cell (i := 2) (u := .int .i64 xn) Q0.out rfl).1
  have hB0 : B0 < S.heap.size := heap_lt Q0.out
  have HW1 := Lib.hid fun a => (within_any xt 3 (by omega) (by omega) (S.drewN a)).mono fun e w' ⟨he, hw⟩ => (⟨he.trans (by rw [hd1]), a, hw⟩ : e = Ending.returned (.int .i64 d1) ∧ ∃ n, w' = S.drewN n)
  have HW2 := Lib.hid fun a => (within_any xn 3 (by omega) (by omega) (S.drewN a)).mono fun e w' ⟨he, hw⟩ => (⟨he.trans (by rw [hd2]), a, hw⟩ : e = Ending.returned (.int .i64 d2) ∧ ∃ n, w' = S.drewN n)
  have HD1 := Lib.hid hd1
  have HD2 := Lib.hid hd2
  clear hd1 hd2
  go_quiet ((go_at_call 12; first | with_reducible exact HW1.out _ | with_reducible exact HW2.out _))
  clear HW1 HW2 x1 x2
  rw [show 1 + (d1 : Int) = ((1 + d1 : Nat) : Int) by omega, show 1 + (d2 : Int) = ((1 + d2 : Nat) : Int) by omega]
  have ht : anyT xt = 1 + d1 := by unfold anyT; rw [HD1.out]; omega
  have hn : anyT xn = 1 + d2 := by unfold anyT; rw [HD2.out]; omega
  have lt1 : 1 ≤ 1 + d1 ∧ 1 + d1 ≤ 3 := by omega
  have ln1 : 1 ≤ 1 + d2 ∧ 1 + d2 ≤ 3 := by omega
  clear l1 l2 HD1 HD2
  generalize 1 + d1 = t at *
  generalize 1 + d2 = n at *
  have Q0d : (S.drewN nq).heap[B0]? = some (.cells #[.int .i64 xp, .int .i64 xt, .int .i64 xn, .int .i64 xh, .slice xa rows.length xc, .string word] 24) := Q0.out
  have Q1d : (S.drewN nq).heap[B0 + 1]? = some (.cells #[.slice none 0 0, .slice none 0 0, .slice none 0 0] 29) := Q1.out
  have hBd : Below B0 w (S.drewN nq) := below_drews HB.out nq
  have hSd : (S.drewN nq).heap.size = B0 + 2 := HS1.out
  clear HB Q0 Q1 HS1 hB0
  have HB := Lib.hid hBd
  have Q0 := Lib.hid Q0d
  have Q1 := Lib.hid Q1d
  have HS1 := Lib.hid hSd
  clear hBd Q0d Q1d hSd
  generalize S.drewN nq = S1 at *
  clear S
  go_upto_region 3 with fail
  have t0 : (0 : Int) ≤ t := by omega
  have t3 : (t : Int) ≤ 3 := by omega
  have n0 : (0 : Int) ≤ n := by omega
  have n3 : (n : Int) ≤ 3 := by omega
  go_cut [6] from 20 to 26 (fun p wx => ∃ b6 x y, p = .pointer (some ⟨b6, 0, none⟩) ∧ Hid (wx.heap[b6]? = some (.cells #[.slice (some ⟨x, 0, none⟩) t 3, .slice (some ⟨y, 0, none⟩) n 3, .slice none 0 0] 29) ∧ wx.heap[x]? = some (.cells #[.string ⟨#[97]⟩, .string ⟨#[98]⟩, .string ⟨#[99]⟩] 9) ∧ wx.heap[y]? = some (.cells #[.string ⟨#[83]⟩, .string ⟨#[65]⟩, .string ⟨#[66]⟩] 9) ∧ Below S1.heap.size S1 wx ∧ S1.heap.size ≤ b6 ∧ x ≠ b6 ∧ y ≠ b6))
  case first =>
    go_region
    all_goals
      go_wp2_with fail
      go_meet
      case rel =>
        apply Exists.intro
        apply Exists.intro
        apply Exists.intro
        refine ⟨rfl, Lib.hid ⟨?_, ?_, ?_, (three _ _ _ _).1.drew, ?_, ?_, ?_⟩⟩
        · first | exact (three _ _ _ _).2.2.1 | exact (three _ _ _ _).2.2.2.1 | exact (three _ _ _ _).2.2.2.2
        · first | exact (three _ _ _ _).2.2.1 | exact (three _ _ _ _).2.2.2.1 | exact (three _ _ _ _).2.2.2.2
        · first | exact (three _ _ _ _).2.2.1 | exact (three _ _ _ _).2.2.2.1 | exact (three _ _ _ _).2.2.2.2
        all_goals omega
  case rest =>
    obtain ⟨b6, x, y, rfl, hc⟩ := hcut
    obtain ⟨h6, hxx, hyy, hbw, hb6, hx6, hy6⟩ := hc.out
    clear hc
    have l6 := heap_lt h6
    have c0 := (blk_cell (i := 0) (u := .slice (some ⟨x, 0, none⟩) t 3) h6 rfl).1
    have c1 := (blk_cell (i := 1) (u := .slice (some ⟨y, 0, none⟩) n 3) h6 rfl).1
    generalize hts : ([[97], [98], [99]] : List (List UInt8)).take t = ts
    generalize hns : ([[83], [65], [66]] : List (List UInt8)).take n = ns
    have htl : ts.length = t := by rw [← hts, List.length_take]; simp; omega
    have hnl : ns.length = n := by rw [← hns, List.length_take]; simp; omega
    have XC : ∀ W : World, (∀ k, k < wc.heap.size → W.heap[k]? = wc.heap[k]?) → ∀ j u, (strs ts)[j]? = some u → W.cell? ((⟨x, 0, none⟩ : Addr).add j) = some u := fun W hW => fun j u hj => by
      refine World.news_of_block ((hW x (heap_lt hxx)).trans hxx) j u ?_
      rw [← hts] at hj
      unfold strs at hj
      rw [List.map_take, List.getElem?_take] at hj
      split at hj
      · exact hj
      · cases hj
    have YC : ∀ W : World, (∀ k, k < wc.heap.size → W.heap[k]? = wc.heap[k]?) → ∀ j u, (strs ns)[j]? = some u → W.cell? ((⟨y, 0, none⟩ : Addr).add j) = some u := fun W hW => fun j u hj => by
      refine World.news_of_block ((hW y (heap_lt hyy)).trans hyy) j u ?_
      rw [← hns] at hj
      unfold strs at hj
      rw [List.map_take, List.getElem?_take] at hj
      split at hj
      · exact hj
      · cases hj
    have HXC := Lib.hid XC
    have HYC := Lib.hid YC
    have HX6 := Lib.hid h6
    have HTL := Lib.hid htl
    have HNL := Lib.hid hnl
    have HBW := Lib.hid hbw
    have ONE : ∀ l : List (List UInt8), ∀ u ∈ strs l, u.oneCell' = true := fun l u hu => by
      obtain ⟨z, _, rfl⟩ := List.mem_map.1 hu; rfl
    have SL : ∀ l : List (List UInt8), (strs l).length = l.length * 1 := fun l => by simp [strs]
    have HONE := Lib.hid ONE
    have HSL := Lib.hid SL
    clear XC YC h6 hxx hyy htl hnl hbw ONE SL
    go_upto_region 4 with fail
    go_cut [6] from 27 to 34 (fun p wx => p = .pointer (some ⟨b6, 0, none⟩) ∧ ∃ (gx gy cx cy : Nat), Hid (wx.heap[b6]? = some (.cells #[.slice (some ⟨gx, 0, none⟩) t cx, .slice (some ⟨gy, 0, none⟩) n cy, .slice none 0 0] 29) ∧ wx.ownsRow wc.heap.size 9 1 (.slice (some ⟨gx, 0, none⟩) t cx) t (strs ts) ∧ wx.ownsRow wc.heap.size 9 1 (.slice (some ⟨gy, 0, none⟩) n cy) n (strs ns) ∧ gx ≠ gy ∧ Below S1.heap.size S1 wx ∧ wc.heap.size ≤ wx.heap.size))
    case first =>
      go_region_law (first
        | (refine step_append_lies _ (by rfl) _ _ _ (by rfl) wc.heap.size 9 i0 _ 1 16 Tryd.underlying26 hi0 hz0 hz1 hz2 rfl (by omega) _ 0 [] (by rfl) (World.ownsRow_nil _ _ _ _) ⟨x, 0, none⟩ t 3 (strs ts) (by rfl) (by rw [HSL.out, HTL.out]) (HXC.out _ (by first | exact fun _ _ => rfl | exact HK.out)) (HONE.out _) (by omega) (by unfold maxLen; omega) (by omega) (by first | exact Nat.le_refl _ | exact HKZ.out) _ rfl ?_
           intro gx cx wx hownx hgrowx hatx hltx
           have hk : Hid (∀ k, k < wc.heap.size → wx.heap[k]? = wc.heap[k]?) := Lib.hid (by first | exact fun k hk => (hgrowx.block k (Nat.lt_of_lt_of_le hk HKZ.out) (by simp [Value.ownBlock])).trans (HK.out k hk) | exact fun k hk => hgrowx.block k hk (by simp [Value.ownBlock]))
           have hkz : Hid (wc.heap.size ≤ wx.heap.size) := Lib.hid (by first | exact Nat.le_trans HKZ.out hgrowx.size | exact hgrowx.size)
           have HK := hk
           have HKZ := hkz
           have h6x := (HK.out b6 l6).trans HX6.out
           obtain ⟨cx0, zx0⟩ := blk_cell (i := 0) (u := .slice (some ⟨x, 0, none⟩) t 3) h6x rfl
           obtain ⟨cx1, zx1⟩ := blk_cell (i := 1) (u := .slice (some ⟨y, 0, none⟩) n 3) h6x rfl
           have lx := heap_lt h6x)
        | (refine step_append_lies _ (by rfl) _ _ _ (by rfl) wc.heap.size 9 i0 _ 1 16 Tryd.underlying26 hi0 hz0 hz1 hz2 rfl (by omega) _ 0 [] (by rfl) (World.ownsRow_nil _ _ _ _) ⟨y, 0, none⟩ n 3 (strs ns) (by rfl) (by rw [HSL.out, HNL.out]) (HYC.out _ (by first | exact fun _ _ => rfl | exact HK.out)) (HONE.out _) (by omega) (by unfold maxLen; omega) (by omega) (by first | exact Nat.le_refl _ | exact HKZ.out) _ rfl ?_
           intro gy cy wy howny hgrowy haty hlty
           have hk : Hid (∀ k, k < wc.heap.size → wy.heap[k]? = wc.heap[k]?) := Lib.hid (by first | exact fun k hk => (hgrowy.block k (Nat.lt_of_lt_of_le hk HKZ.out) (by simp [Value.ownBlock])).trans (HK.out k hk) | exact fun k hk => hgrowy.block k hk (by simp [Value.ownBlock]))
           have hkz : Hid (wc.heap.size ≤ wy.heap.size) := Lib.hid (by first | exact Nat.le_trans HKZ.out hgrowy.size | exact hgrowy.size)
           have HK := hk
           have HKZ := hkz
           have h6y := (HK.out b6 l6).trans HX6.out
           obtain ⟨cy0, zy0⟩ := blk_cell (i := 0) (u := .slice (some ⟨x, 0, none⟩) t 3) h6y rfl
           obtain ⟨cy1, zy1⟩ := blk_cell (i := 1) (u := .slice (some ⟨y, 0, none⟩) n 3) h6y rfl
           have ly := heap_lt h6y))
      all_goals
        go_wp2_with fail
        go_meet
        case rel =>
          have hx1 : wx.ownsRow wc.heap.size 9 1 (.slice (some ⟨gx, 0, none⟩) t cx) t (strs ts) := by simpa using hownx
          have hy1 : wy.ownsRow wc.heap.size 9 1 (.slice (some ⟨gy, 0, none⟩) n cy) n (strs ns) := by simpa using howny
          refine ⟨rfl, gx, gy, cx, cy, Lib.hid ⟨?_, ?_, ?_, ?_, ?_, ?_⟩⟩
          · exact (heap_set _ b6 1 _ _ _ (heap_set _ b6 0 _ _ _ ((HK.out b6 l6).trans HX6.out) (by simp)) (by simp)).trans (by simp)
          · first
              | exact own_sets hx1 l6 _ _
              | exact own_sets (own_same hx1 fun g _ hl => hgrowy.block g hl (by simp [Value.ownBlock])) l6 _ _
          · first
              | exact own_sets hy1 l6 _ _
              | exact own_sets (own_same hy1 fun g _ hl => hgrowx.block g hl (by simp [Value.ownBlock])) l6 _ _
          · rcases hatx with h | hatx
            · simp [Value.ownBlock] at h
            · rcases haty with h | haty
              · simp [Value.ownBlock] at h
              · first | omega | (have := hgrowy.size; have := hgrowx.size; omega)
          · first
              | exact (((HBW.out.drew.grown hgrowx HBW.out.size (by intro k hk; simp [Value.ownBlock] at hk)).grown hgrowy (Nat.le_trans HBW.out.size hgrowx.size) (by intro k hk; simp [Value.ownBlock] at hk)).setCell (p := ⟨b6, 0, none⟩) hb6 _).setCell (p := ⟨b6, 1, none⟩) hb6 _
              | exact (((HBW.out.drew.grown hgrowy HBW.out.size (by intro k hk; simp [Value.ownBlock] at hk)).grown hgrowx (Nat.le_trans HBW.out.size hgrowy.size) (by intro k hk; simp [Value.ownBlock] at hk)).setCell (p := ⟨b6, 0, none⟩) hb6 _).setCell (p := ⟨b6, 1, none⟩) hb6 _
          · simpa using HKZ.out
    case rest =>
      rename_i wc0 K1 HK1
      obtain ⟨rfl, gx, gy, cx, cy, hc⟩ := hcut
      obtain ⟨h6, ho1, ho2, hne, hbw, hFs⟩ := hc.out
      clear hc HXC HYC HX6 HBW HONE HSL c0 c1 t0 t3 n0 n3
      obtain rfl := HTL.out
      obtain rfl := HNL.out
      have l60 : b6 < wc0.heap.size := l6
      generalize wc0.heap.size = F at *
      have hB0F : B0 + 2 ≤ b6 := by have := HS1.out; omega
      have hg0 : GBlk b6 F wc ts ns [] (some ⟨gx, 0, none⟩) (some ⟨gy, 0, none⟩) none cx cy 0 := ⟨h6, ⟨ho1, ho2, World.ownsRow_nil _ _ _ _, (by intro q hq; cases hq), (by
        intro x y hx hy e
        cases hx; cases hy
        exact hne e)⟩, l60, hFs⟩
      have HG0 := Lib.hid hg0
      have HBW := Lib.hid hbw
      have hANY : (⟨ts, ns, []⟩ : Gr) = any0 xt xn := by unfold any0; rw [ht, hn, hts, hns]
      have HANY := Lib.hid hANY
      have HHN := Lib.hid hn
      have tn3 : ts.length ≤ 3 ∧ ns.length ≤ 3 ∧ 1 ≤ ts.length ∧ 1 ≤ ns.length := by omega
      obtain ⟨tl3, nl3, tl1, nl1⟩ := tn3
      have HLT1 := lt1
      clear hg0 hbw h6 ho1 ho2 hANY hts hns ht hn lt1 ln1 hx6 hy6 HTL HNL l6
      go_wp2
      go_loopw [7] (fun i wr => ∃ (k : Nat) (ls : List Lay) (ap : Option Addr) (cp : Nat), k ≤ ns.length ∧ i = .int .i64 k ∧ Hid (GBlk b6 F wr ts ns ls (some ⟨gx, 0, none⟩) (some ⟨gy, 0, none⟩) ap cx cy cp) ∧ ls.length ≤ k ∧ Hid (∀ q ∈ ls, q.right.length ≤ 1000) ∧ Hid ((⟨ts, ns, ls.map Lay.plain⟩ : Gr) = baseP ⟨ts, ns, []⟩ k) ∧ Below S1.heap.size S1 wr) (fun i _ => ns.length - (intOf i).toNat)
      case atStart => exact ⟨0, [], none, 0, by omega, rfl, HG0, by simp, Lib.hid (by intro q hq; cases hq), Lib.hid rfl, HBW.out⟩
      case round =>
        obtain ⟨k, ls, ap, cp, hk, rfl, HG, hlk, HQ, HE, hbe⟩ := hrel
        have hblk := HG.out.blk
        have hl6 := heap_lt hblk
        have c0 := (blk_cell (i := 0) (u := .slice (some ⟨gx, 0, none⟩) ts.length cx) hblk rfl).1
        have c1 := (blk_cell (i := 1) (u := .slice (some ⟨gy, 0, none⟩) ns.length cy) hblk rfl).1
        have c2 := (blk_cell (i := 2) (u := .slice ap ls.length cp) hblk rfl).1
        have HBE := Lib.hid hbe
        have HBLK := Lib.hid hblk
        clear hbe hblk
        by_cases hlt : k < ns.length
        · have e1 : (k : Int) < ns.length := by omega
          have HPUT := Lib.hid (put_any (w := wr.alloc (.cells #[.int .i64 k] 3)) (100 + (k : Int)) (some ⟨wr.heap.size, 0, none⟩) 1 [(k : Int)] (HG.out.rws.alloc _) (cells_new wr #[.int .i64 k] 3) (by have := HG.out.le; simp; omega) (by omega) (by omega) (by omega) (by omega) HQ.out)
          go_wp2_with (go_at_call 61; refine HPUT.out.mono ?_; rintro e w2 ⟨ap2, cp2, ls2, rfl, hr2, hg2, he2, hq2⟩; have h62 := (hg2.block b6 (by simp; omega) (by intro e; have := (own_block HG.out.rws.p e.symm).1; have := HG.out.lt; omega)).trans ((Below.heap_alloc wr _ b6 hl6).trans HBLK.out); obtain ⟨v0, z0⟩ := blk_cell (i := 0) (u := .slice (some ⟨gx, 0, none⟩) ts.length cx) h62 rfl; obtain ⟨v1, z1⟩ := blk_cell (i := 1) (u := .slice (some ⟨gy, 0, none⟩) ns.length cy) h62 rfl; obtain ⟨v2, z2⟩ := blk_cell (i := 2) (u := .slice ap ls.length cp) h62 rfl; have hl62 := heap_lt h62; have H62 := Lib.hid h62; clear h62)
          obtain ⟨g1, g2⟩ := gblk_put HG.out ((Below.refl _ _).alloc (Nat.le_refl _) _) hr2 hg2 H62.out HBE.out hb6
          exact ⟨⟨k + 1, ls2, ap2, cp2, by omega, by go_num, Lib.hid g1, by have := put_len he2; omega, Lib.hid hq2, Lib.hid (by rw [he2, HE.out]; show putF _ _ _ = putF _ ((100 + k : Nat) : Int) _; rw [show ((100 + k : Nat) : Int) = 100 + (k : Int) by omega]), g2⟩, by simp [intOf]; omega⟩
        · have hkn : k = ns.length := by omega
          have e1 : ¬ (k : Int) < ns.length := by omega
          have HK := Lib.hid hkn
          clear hlt c0 c1 c2
          go_wp2
          go_loopw [8] (fun i wr => ∃ (k : Nat) (ls : List Lay) (ap : Option Addr) (cp : Nat), k ≤ rows.length ∧ k ≤ 5 ∧ i = .int .i64 k ∧ Hid (GBlk b6 F wr ts ns ls (some ⟨gx, 0, none⟩) (some ⟨gy, 0, none⟩) ap cx cy cp) ∧ ls.length ≤ ns.length + k ∧ Hid (∀ q ∈ ls, q.right.length ≤ 1000) ∧ Hid ((⟨ts, ns, ls.map Lay.plain⟩ : Gr) = rowsP (baseP ⟨ts, ns, []⟩ ns.length) (rows.map (·.row)) k) ∧ Below S1.heap.size S1 wr) (fun i _ => 5 - (intOf i).toNat)
          case atStart => exact ⟨0, ls, ap, cp, by omega, by omega, rfl, HG, by omega, HQ, Lib.hid (by rw [HE.out, HK.out]; rfl), HBE.out⟩
          case round =>
            rename World => wy
            clear HG HQ HE HBE HBLK HK hlk
            obtain ⟨j, ls, ap, cp, hj, hj5, rfl, HG, hlk, HQ, HE, hbe⟩ := hrel
            have hblk := HG.out.blk
            have hl6 := heap_lt hblk
            have c0 := (blk_cell (i := 0) (u := .slice (some ⟨gx, 0, none⟩) ts.length cx) hblk rfl).1
            have c1 := (blk_cell (i := 1) (u := .slice (some ⟨gy, 0, none⟩) ns.length cy) hblk rfl).1
            have c2 := (blk_cell (i := 2) (u := .slice ap ls.length cp) hblk rfl).1
            have hq0 := (hbe.block B0 (by have := HS1.out; omega)).trans Q0.out
            have hq1 := (hbe.block (B0 + 1) (by have := HS1.out; omega)).trans Q1.out
            have x4 := (blk_cell (i := 4) (u := .slice xa rows.length xc) hq0 rfl).1
            have hlB := heap_lt hq0
            have hww : Below w.heap.size w wy := by rw [HB0.out]; exact HB.out.trans (hbe.mono (by have := HS1.out; omega))
            have HRX := Lib.hid (HX.out.below hww)
            have HWW := Lib.hid hww
            have HBE := Lib.hid hbe
            have HBLK := Lib.hid hblk
            have HQ1 := Lib.hid hq1
            clear hbe hblk hq0 hww hq1
            by_cases hlt : j < rows.length ∧ j < 5
            · obtain ⟨hlt, hlt5⟩ := hlt
              obtain ⟨r, hr⟩ : ∃ r, rows[j]? = some r := ⟨_, List.getElem?_eq_getElem hlt⟩
              have e2 : (j : Int) < rows.length := by omega
              have e3 : (j : Int) < 5 := by omega
              obtain ⟨rb, ro, hxa, hrb, hrc⟩ := HRX.out.cells.get (by intro e; have := rowVs_at hr; rw [e] at this; simp at this)
              have x5 := hrc j _ (rowVs_at hr)
              have hrm := List.mem_of_getElem? hr
              have hre := HRX.out.each r hrm
              have hrw := HRX.out.wide r hrm
              have HR := Lib.hid hr
              simp only at hxa
              subst hxa
              have HRE := Lib.hid hre
              have HRW := Lib.hid hrw
              clear hre hrw hrc
              obtain ⟨lv, hlv⟩ : ∃ lv : Int, lv = match r.row with | [] => (j : Int) | z :: _ => z.tdiv 16 := ⟨_, rfl⟩
              have HLV := Lib.hid hlv
              clear hlv
              go_upto_if 64 with fail
              go_cut [9, 62, 63, 64] from 65 to 72 (fun v _ _ _ wx => v = .int .i64 lv ∧ wy = wx)
              case first =>
                cases hrr : r.row with
                | nil =>
                  have hl0 : lv = j := by rw [HLV.out, hrr]
                  subst hl0
                  have hr0 : r.row.length = 0 := by rw [hrr]; rfl
                  have hr00 : ¬ (0 : Int) < r.row.length := by omega
                  clear hrr hr0
                  go_wp2_with fail
                  go_meet
                  case rel => exact ⟨rfl, rfl⟩
                | cons z l =>
                  have hl0 : lv = z.tdiv 16 := by rw [HLV.out, hrr]
                  subst hl0
                  have hr0 : (0 : Int) < r.row.length := by rw [hrr]; simp only [List.length_cons]; omega
                  obtain ⟨rb2, ro2, hra2, hrb2, hrc2⟩ := HRE.out.get (by rw [hrr]; simp [nums])
                  have z0 := hrc2 0 (.int .i64 z) (by rw [hrr]; rfl)
                  rw [Nat.add_zero] at z0
                  have zw := HRW.out z (by rw [hrr]; simp)
                  have zr : IntKind.i64.wrap (z.tdiv 16) = z.tdiv 16 := wrap_tdiv z zw.1 zw.2
                  have hrb1 : 0 < (z :: l).length := Nat.zero_lt_succ _
                  have hrb2' : decide (0 < (z :: l).length) = true := decide_eq_true hrb1
                  clear hrr hrc2 zw
                  rw [hra2] at x5
                  go_wp2_with fail
                  go_meet
                  case rel => exact ⟨rfl, rfl⟩
              case rest =>
                obtain ⟨rfl, rfl⟩ := hcut
                obtain ⟨d, hd, hdl⟩ : ∃ d : Nat, lv % (ns.length : Int) = d ∧ d < ns.length := ⟨(lv % (ns.length : Int)).toNat, by
                  have := Int.emod_nonneg lv (show (ns.length : Int) ≠ 0 by omega); omega, by
                  have := Int.emod_nonneg lv (show (ns.length : Int) ≠ 0 by omega)
                  have := Int.emod_lt_of_pos lv (show (0 : Int) < ns.length by omega); omega⟩
                have HWI := Lib.hid fun W => (within_any lv (ns.length : Int) (by omega) (by omega) W).mono fun e w' ⟨he, hw⟩ => (⟨he.trans (by rw [hd]), hw⟩ : e = Ending.returned (.int .i64 d) ∧ w' = W)
                have HPUT := Lib.hid (put_any (w := wy.drew) (100 + (d : Int)) r.addr r.cap r.row (HG.out.rws.below (Below.refl _ _).drew) (HRE.out.below (Below.refl _ _).drew) (by have := HG.out.le; exact this) (by omega) (by omega) (by omega) (by omega) HQ.out)
                have HLE := Lib.hid (show leftP j r.row ns.length = 100 + (d : Int) by
                  have h : leftP j r.row ns.length = 100 + lv % (ns.length : Int) := by rw [HLV.out]; unfold leftP; cases r.row <;> rfl
                  rw [h, hd])
                have HROW := Lib.hid (show (rows.map (·.row))[j]? = some r.row by rw [List.getElem?_map, HR.out]; rfl)
                have hwr : IntKind.i64.wrap (100 + (d : Int)) = 100 + (d : Int) := by rw [IntKind.wrap_i64]; omega
                clear hd HLV
                go_wp2
                go_region_with (first
                  | (go_at_call 12; with_reducible refine (HWI.out _).mono ?_; rintro e w2 ⟨rfl, rfl⟩)
                  | (go_at_call 61; refine HPUT.out.mono ?_; rintro e w2 ⟨ap2, cp2, ls2, rfl, hr2, hg2, he2, hq2⟩; have h62 := (hg2.block b6 hl6 (by intro e; have := (own_block HG.out.rws.p e.symm).1; have := HG.out.lt; omega)).trans HBLK.out; obtain ⟨v0, z0⟩ := blk_cell (i := 0) (u := .slice (some ⟨gx, 0, none⟩) ts.length cx) h62 rfl; obtain ⟨v1, z1⟩ := blk_cell (i := 1) (u := .slice (some ⟨gy, 0, none⟩) ns.length cy) h62 rfl; obtain ⟨v2, z2⟩ := blk_cell (i := 2) (u := .slice ap ls.length cp) h62 rfl; have hl62 := heap_lt h62; have H62 := Lib.hid h62; clear h62))
                all_goals
                  go_wp2
                  obtain ⟨g1, g2⟩ := gblk_put HG.out (Below.refl _ _).drew hr2 hg2 H62.out HBE.out hb6
                  exact ⟨⟨j + 1, ls2, ap2, cp2, by omega, by omega, by go_num, Lib.hid g1, by have := put_len he2; omega, Lib.hid hq2, Lib.hid (by rw [he2, HE.out]; simp only [rowsP, HROW.out]; rw [show (baseP ⟨ts, ns, []⟩ ns.length).nons.length = ns.length from baseP_nons _ _, HLE.out]), g2⟩, by simp [intOf]; omega⟩
            · have hend : j = min rows.length 5 := by omega
              have hex : ¬ (j : Int) < rows.length ∨ ((j : Int) < rows.length ∧ ¬ (j : Int) < 5) := by omega
              obtain ⟨v0, z0⟩ := blk_cell (i := 0) (u := .slice none 0 0) HQ1.out rfl
              obtain ⟨v1, z1⟩ := blk_cell (i := 1) (u := .slice none 0 0) HQ1.out rfl
              obtain ⟨v2, z2⟩ := blk_cell (i := 2) (u := .slice none 0 0) HQ1.out rfl
              have hlB1 := heap_lt HQ1.out
              have HEND := Lib.hid hend
              clear hend hlt hj hj5
              have hst := store3 HQ1.out (.slice (some ⟨gx, 0, none⟩) ts.length cx) (.slice (some ⟨gy, 0, none⟩) ns.length cy) (.slice ap ls.length cp)
              have hF := store3_below (show Below w.heap.size w wy from HWW.out) (by rw [HB0.out]; omega : w.heap.size ≤ B0 + 1) (.slice (some ⟨gx, 0, none⟩) ts.length cx) (.slice (some ⟨gy, 0, none⟩) ns.length cy) (.slice ap ls.length cp)
              have hFR := HG.out.rws.keep (w' := ((wy.setCell ⟨B0 + 1, 0, none⟩ (.slice (some ⟨gx, 0, none⟩) ts.length cx)).setCell ⟨B0 + 1, 1, none⟩ (.slice (some ⟨gy, 0, none⟩) ns.length cy)).setCell ⟨B0 + 1, 2, none⟩ (.slice ap ls.length cp)) fun g hg _ => store3_far _ _ _ g (by omega)
              have HST := Lib.hid hst
              have HFF := Lib.hid hF
              have HFR := Lib.hid hFR
              clear hst hF hFR
              have hle := HG.out.le
              rcases hex with hx1 | ⟨hx1, hx2⟩
              all_goals
                go_wp2
                (try simp only [Exit.inBlock, Exit.then])
                refine bodyPost_ret (v := .agg #[.slice (some ⟨gx, 0, none⟩) ts.length cx, .slice (some ⟨gy, 0, none⟩) ns.length cy, .slice ap ls.length cp]) ?_ rfl ⟨HFF.out, F, ts, ns, ls, _, _, _, _, _, _, rfl, by rw [HB0.out]; omega, HFR.out, ?_, by simpa using hle⟩
                · rw [results_cell1 (p := 2) (ty := 29) rfl]
                  show ((asAddr (.pointer (some ⟨B0 + 1, 0, none⟩))).run _ _).andThen _ = _
                  show (loadVar 29 ⟨B0 + 1, 0, none⟩).run _ _ = _
                  exact run_loadVar_row _ (B0 + 1) 29 29 _ (0, 0) _ HST.out Tryd.underlying29 rfl (by kernel_rfl)
                · rw [HE.out, HANY.out]
                  unfold RawX.any anyF RawX.plain
                  simp only
                  rw [HHN.out, HEND.out, List.length_map]

end Go.Proofs.YtejjdfmobiegdaaDoor

namespace Go.Proofs.YtejjdfmobiegdaaDoor
open Go.RowKit Go.WideShapes
open Doc

theorem spot_none (W : World) (b o z : Nat) (u : Value) : ¬ W.cell? ((⟨b, o, some z⟩ : Addr).add 0) = some u := by
  have e : (⟨b, o, some z⟩ : Addr).add 0 = ⟨b, o, some z⟩ := by unfold Addr.add; rw [if_pos rfl]
  rw [e]
  unfold World.cell?
  split <;> simp
theorem array6 {α : Type} {cs : Array α} (h : cs.size = 6) : ∃ c0 c1 c2 c3 c4 c5, cs = #[c0, c1, c2, c3, c4, c5] := by
  obtain ⟨l⟩ := cs
  match l, h with
  | [c0, c1, c2, c3, c4, c5], _ => exact ⟨c0, c1, c2, c3, c4, c5, rfl⟩
set_option maxRecDepth 100000 in
theorem raw_struct : ∃ fs : Array Field, Tryd.prog.underlying 24 = some (.struct fs) ∧ (fs.toList.map fun f => (f.type, f.offset)) = [(3, 0), (3, 1), (3, 2), (3, 3), (22, 4), (9, 5)] ∧ Tryd.prog.cellsOf 24 = 6 :=
  ⟨_, Tryd.underlying24, by kernel_rfl, by kernel_rfl⟩
theorem wf_i64 {a : Int} (h : (Lit.int .i64 a).wf = true) : -9223372036854775808 ≤ a ∧ a ≤ 9223372036854775807 := by
  simp only [Lit.wf, Bool.and_eq_true, decide_eq_true_eq] at h
  exact h

/-- Numbers of a raw one are a machine's. -/
def RawWide (x : RawX) : Prop := (-9223372036854775808 ≤ x.pick ∧ x.pick ≤ 9223372036854775807) ∧ (-9223372036854775808 ≤ x.terms ∧ x.terms ≤ 9223372036854775807) ∧ (-9223372036854775808 ≤ x.nons ∧ x.nons ≤ 9223372036854775807) ∧ (-9223372036854775808 ≤ x.how ∧ x.how ≤ 9223372036854775807) ∧ x.word.size ≤ maxLen

set_option maxRecDepth 100000 in
theorem open_raw {W : World} {H : Type} {enc : TypeId × Value → H} {r : Reach} {b0 base : Nat} {sp : Bool} {v : Value} {d : DataW H} {p : List MemPlace} (hv : Value.okWide Tryd.prog W r b0 24 v) (h : DataW.Trod enc Tryd.prog W base (fun _ => true) sp 24 v d p) :
    ∃ x : RawX, v = x.v ∧ RawAt W x ∧ RawWide x := by
  obtain ⟨fs, hs, hf, hC⟩ := raw_struct
  obtain ⟨cs, rfl, hsz⟩ := okWide_struct hs hv
  obtain ⟨c0, c1, c2, c3, c4, c5, rfl⟩ := array6 (hsz.trans hC)
  obtain ⟨fuel, ht⟩ := h
  obtain ⟨xs, n, _, hx, _, hlen, hfs⟩ := DataW.trod_struct hs ht
  have hfl : fs.size = 6 := by have := congrArg List.length hf; simpa using this
  have field : ∀ (i : Nat) (t : TypeId) (c : Value), i < 6 → (fs.toList.map fun f => (f.type, f.offset))[i]? = some (t, i) → ([c0, c1, c2, c3, c4, c5] : List Value)[i]? = some c → Tryd.prog.cellsOf t = 1 → ∃ y, DataW.trod enc Tryd.prog W base (fun _ => true) sp n t [c] = some y := by
    intro i t c hi h1 h2 h3
    rw [List.getElem?_map] at h1
    obtain ⟨f, hf1, hf2⟩ := Option.map_eq_some_iff.1 h1
    simp only [Prod.mk.injEq] at hf2
    have h4 := hfs i f (by rw [← Array.getElem?_toList]; exact hf1)
    obtain ⟨y, hy⟩ : ∃ y, xs[i]? = some y := ⟨_, List.getElem?_eq_getElem (by omega)⟩
    rw [hy, hf2.1, hf2.2, h3] at h4
    refine ⟨y, ?_⟩
    rw [← h4]
    congr 1
    have e : (Value.cells (.agg #[c0, c1, c2, c3, c4, c5])).toList = [c0, c1, c2, c3, c4, c5] := rfl
    have hd : ([c0, c1, c2, c3, c4, c5] : List Value).drop i = c :: ([c0, c1, c2, c3, c4, c5] : List Value).drop (i + 1) := by
      obtain ⟨hl, hg⟩ := List.getElem?_eq_some_iff.1 h2
      rw [List.drop_eq_getElem_cons hl, hg]
    show [c] = List.take 1 (List.drop i [c0, c1, c2, c3, c4, c5])
    rw [hd]; rfl
  obtain ⟨y0, t0⟩ := field 0 3 c0 (by omega) (by rw [hf]; rfl) rfl (by kernel_rfl)
  obtain ⟨y1, t1⟩ := field 1 3 c1 (by omega) (by rw [hf]; rfl) rfl (by kernel_rfl)
  obtain ⟨y2, t2⟩ := field 2 3 c2 (by omega) (by rw [hf]; rfl) rfl (by kernel_rfl)
  obtain ⟨y3, t3⟩ := field 3 3 c3 (by omega) (by rw [hf]; rfl) rfl (by kernel_rfl)
  obtain ⟨y4, t4⟩ := field 4 22 c4 (by omega) (by rw [hf]; rfl) rfl (by kernel_rfl)
  obtain ⟨y5, t5⟩ := field 5 9 c5 (by omega) (by rw [hf]; rfl) rfl (by kernel_rfl)
  obtain ⟨a0, e0, _, w0⟩ := DataW.trod_int Tryd.underlying3 t0
  obtain ⟨a1, e1, _, w1⟩ := DataW.trod_int Tryd.underlying3 t1
  obtain ⟨a2, e2, _, w2⟩ := DataW.trod_int Tryd.underlying3 t2
  obtain ⟨a3, e3, _, w3⟩ := DataW.trod_int Tryd.underlying3 t3
  obtain ⟨s, e5, _, w5⟩ := DataW.trod_string Tryd.underlying9 t5
  simp only [List.cons.injEq, and_true] at e0 e1 e2 e3 e5
  subst e0 e1 e2 e3 e5
  rcases Go.Deep.open_int_rows Tryd.underlying22 Tryd.underlying25 Tryd.underlying3 (by kernel_rfl) (by kernel_rfl) t4 with ⟨e4, _⟩ | ⟨a, len, cap, A, L, C, Z, e4, hb, hl, hm, _, hr⟩
  · simp only [List.cons.injEq, and_true] at e4
    subst e4
    exact ⟨⟨a0, a1, a2, a3, [], none, 0, s⟩, rfl, ⟨.inl rfl, (by intro r hr; cases hr), (by intro r hr; cases hr)⟩, wf_i64 w0, wf_i64 w1, wf_i64 w2, wf_i64 w3, w5⟩
  · simp only [List.cons.injEq, and_true] at e4
    subst e4
    have hrow : ∀ j, j < len → Cells W (A j) (nums ((Z j).take (L j))) ∧ ((Z j).take (L j)).length = L j := fun j hj => by
      obtain ⟨h1, h2, h3, h4, h5, h6, h7⟩ := hr j (by omega)
      have hll : ((Z j).take (L j)).length = L j := by rw [List.length_take]; omega
      refine ⟨?_, hll⟩
      cases hA : A j with
      | none =>
        left
        have := h6 hA
        have h0 : L j = 0 := by omega
        rw [h0]; rfl
      | some a' =>
        obtain ⟨h8, h9⟩ := h7 a' hA
        rcases Nat.eq_zero_or_pos (L j) with h0 | h0
        · left; rw [h0]; rfl
        · right
          obtain ⟨ab, ao, ac⟩ := a'
          have hc0 := h9 0 (by omega)
          have hpos : ac = none := by
            cases ac with
            | none => rfl
            | some z => exact absurd hc0 (spot_none _ _ _ _ _)
          subst hpos
          have hadd : ∀ i, (⟨ab, ao, none⟩ : Addr).add i = ⟨ab, ao + i, none⟩ := fun i => by unfold Addr.add; split <;> simp_all
          refine ⟨ab, ao, rfl, World.block_lt_of_cell? W _ hc0, fun c u hc => ?_⟩
          unfold nums at hc
          rw [List.getElem?_map, List.getElem?_take] at hc
          split at hc
          · rename_i hcl
            have := h9 c (by omega)
            rw [hadd] at this
            rw [this]
            rw [List.getElem?_eq_getElem (by omega)] at hc
            rw [← hc]
            simp [List.getD, show c < (Z j).length by omega]
          · cases hc
    obtain ⟨ab, ao, ac⟩ := a
    refine ⟨⟨a0, a1, a2, a3, (List.range len).map fun j => ⟨A j, C j, (Z j).take (L j)⟩, some ⟨ab, ao, ac⟩, cap, s⟩, by simp [RawX.v], ⟨?_, ?_, ?_⟩, wf_i64 w0, wf_i64 w1, wf_i64 w2, wf_i64 w3, w5⟩
    · rcases Nat.eq_zero_or_pos len with h0 | h0
      · left; subst h0; rfl
      · right
        have hc0 := (hr 0 (by omega)).1
        have hpos : ac = none := by
          cases ac with
          | none => rfl
          | some z => exact absurd hc0 (spot_none _ _ _ _ _)
        subst hpos
        have hadd : ∀ i, (⟨ab, ao, none⟩ : Addr).add i = ⟨ab, ao + i, none⟩ := fun i => by unfold Addr.add; split <;> simp_all
        refine ⟨ab, ao, rfl, World.block_lt_of_cell? W _ hc0, fun c u hc => ?_⟩
        unfold rowVs at hc
        rw [List.getElem?_map, List.getElem?_map] at hc
        by_cases hcl : c < len
        · rw [List.getElem?_range hcl] at hc
          simp only [Option.map_some, Option.some.injEq] at hc
          have := (hr c (by omega)).1
          rw [hadd] at this
          rw [this, ← hc, (hrow c hcl).2]
        · rw [List.getElem?_eq_none (by simp; omega)] at hc
          cases hc
    · intro r hrm
      obtain ⟨j, hj, rfl⟩ := List.mem_map.1 hrm
      exact (hrow j (List.mem_range.1 hj)).1
    · intro r hrm y hy
      obtain ⟨j, hj, rfl⟩ := List.mem_map.1 hrm
      exact wf_i64 ((hr j (by have := List.mem_range.1 hj; omega)).2.2.2.2.1 y (List.mem_of_mem_take hy))

end Go.Proofs.YtejjdfmobiegdaaDoor

namespace Go.Proofs.YtejjdfmobiegdaaDoor
open Go.RowKit
open Doc

/-- Any's grammar, as it lies. -/
theorem any_gram (x : RawX) (w : World) (hx : RawAt w x) :
    Calls Tryd.prog 23 #[x.v] w fun e w' => Below w.heap.size w w' ∧ ∃ (at_ an ap : Option Addr) (ct cn cp : Nat) (ls : List Lay), e = .returned (.agg #[.slice at_ x.any.terms.length ct, .slice an x.any.nons.length cn, .slice ap ls.length cp]) ∧ GramAt w' (.agg #[.slice at_ x.any.terms.length ct, .slice an x.any.nons.length cn, .slice ap ls.length cp]) x.any ∧ ls.map Lay.plain = x.any.prods ∧ Cells w' ap (lays ls) ∧ (∀ p ∈ ls, Cells w' p.addr (nums p.right)) :=
  (any_any x w hx).mono fun e w' ⟨hb, F, ts, ns, ls, at_, an, ap, ct, cn, cp, he, _, hr, hg, _⟩ => ⟨hb, at_, an, ap, ct, cn, cp, ls, by rw [he, ← hg], by rw [← hg]; exact hr.gram, by rw [← hg], (own_cells hr.p).1, fun p hp => (own_cells (hr.r p hp)).1⟩

end Go.Proofs.YtejjdfmobiegdaaDoor
