/- Trees: what Size, Check, isSymbol of the program give, and the document's own Size and CheckTree: contracts over any world. -/
import Derived.Test.YtgfkkbpnphbdgaaTreeS
import Derived.Deep.RegionHeld3
import Derived.Deep.Cut
import Derived.Deep.CutBlock
set_option linter.unusedVariables false
namespace Go.Proofs.Ytgfkkbpnphbdgaa
open Go.RowKit
open Doc

theorem box_belowT (w : World) (o : Obj) : Below w.heap.size w (w.alloc o) := (Below.refl _ _).alloc (Nat.le_refl _) _
theorem one_alloc (w : World) (o0 : Obj) : Below w.heap.size w (w.alloc o0) ∧ (w.alloc o0).heap.size = w.heap.size + 1 ∧ (w.alloc o0).heap[w.heap.size]? = some o0 :=
  ⟨(Below.refl _ _).alloc (Nat.le_refl _) _, by simp, heap_alloc_new w o0⟩
theorem twin_alloc (w : World) (o0 o1 : Obj) : Below w.heap.size w ((w.alloc o0).alloc o1) ∧ ((w.alloc o0).alloc o1).heap.size = w.heap.size + 2 ∧ ((w.alloc o0).alloc o1).heap[w.heap.size]? = some o0 ∧ ((w.alloc o0).alloc o1).heap[w.heap.size + 1]? = some o1 := by
  refine ⟨((Below.refl _ _).alloc (Nat.le_refl _) _).alloc (by simp) _, by simp, ?_, ?_⟩
  · rw [Below.heap_alloc _ _ _ (by simp)]; exact heap_alloc_new w o0
  · have := heap_alloc_new (w.alloc o0) o1; simpa using this

theorem tls_ne {ks : List Tl} (h : 0 < ks.length) : tls ks ≠ [] := by
  intro e
  have := congrArg List.length e
  rw [tls_len] at this
  simp at this
  omega
theorem kid_at {P : Nat → Prop} {w : World} {s p : Int} {a : Option Addr} {c : Nat} {ks : List Tl} (h : Lies P w (.mk s p a c ks)) {j : Nat} {k : Tl} (hj : ks[j]? = some k) :
    ∃ b off, a = some ⟨b, off, none⟩ ∧ b < w.heap.size ∧ P b ∧ w.cell? ⟨b, off + j * 3, none⟩ = some (.int .i64 k.sym) ∧ w.cell? ⟨b, off + j * 3 + 1, none⟩ = some (.int .i64 k.prod) ∧ w.cell? ⟨b, off + j * 3 + 2, none⟩ = some (.slice k.a k.kids.length k.c) := by
  have hjl := (List.getElem?_eq_some_iff.1 hj).1
  obtain ⟨b, off, ha, hb, hc⟩ := h.cells.get (tls_ne (by omega))
  obtain ⟨h0, h1, h2⟩ := tls_at ks j k hj
  refine ⟨b, off, ha, hb, h.blk (fun e => by rw [e] at hjl; simp at hjl) _ ha, hc _ _ h0, ?_, ?_⟩
  · rw [Nat.add_assoc]; exact hc _ _ h1
  · rw [Nat.add_assoc]; exact hc _ _ h2
theorem size_kid {s p : Int} {a : Option Addr} {c : Nat} {ks : List Tl} {k : Tl} (hk : k ∈ ks) : sizeT k.plain < sizeT (Tl.mk s p a c ks).plain := by
  rw [Tl.plain_mk, sizeT]
  have := sizeK_mem (List.mem_map_of_mem (f := Tl.plain) hk)
  omega
theorem size_len (s p : Int) (a : Option Addr) (c : Nat) (ks : List Tl) : ks.length < sizeT (Tl.mk s p a c ks).plain := by
  rw [Tl.plain_mk, sizeT]
  have := sizeK_len (ks.map Tl.plain)
  rw [List.length_map] at this
  omega
theorem map_at {ks : List Tl} {j : Nat} {k : Tl} (h : ks[j]? = some k) : (ks.map Tl.plain)[j]? = some k.plain := by rw [List.getElem?_map, h]; rfl

end Go.Proofs.Ytgfkkbpnphbdgaa
