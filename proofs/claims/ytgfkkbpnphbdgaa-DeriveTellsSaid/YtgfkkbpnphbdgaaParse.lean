/- rules: the lines of tokens. The lines of tokens are the rules. No program here. read: a text as a grammar, or the panic that tells where it ends. Parse: what read throws is caught, and told. -/
import Derived.Test.YtgfkkbpnphbdgaaForm
import Derived.Laws.Rows
import Derived.Test.YtgfkkbpnphbdgaaAddProd
import Derived.Defers
import Derived.Recover
import Derived.Laws.Pointers
namespace Go.Proofs.Ytgfkkbpnphbdgaa
open Go.RowKit
open Doc

end Go.Proofs.Ytgfkkbpnphbdgaa

namespace Go.Proofs.Ytgfkkbpnphbdgaa
open Doc

end Go.Proofs.Ytgfkkbpnphbdgaa

namespace Go.Proofs.Ytgfkkbpnphbdgaa
open Go.RowKit
open Doc

/-- A grammar whose memory is from block B on. -/
def GramFrom (B : Nat) (w : World) (v : Value) (g : Gr) : Prop := ∀ W : World, (∀ k, B ≤ k → k < w.heap.size → W.heap[k]? = w.heap[k]?) → GramAt W v g
theorem GramFrom.at_ {B : Nat} {w : World} {v : Value} {g : Gr} (h : GramFrom B w v g) : GramAt w v g := h w fun _ _ _ => rfl
theorem GramFrom.same {B : Nat} {w w' : World} {v : Value} {g : Gr} (h : GramFrom B w v g) (hs : w.heap.size ≤ w'.heap.size) (hk : ∀ k, B ≤ k → k < w.heap.size → w'.heap[k]? = w.heap[k]?) : GramFrom B w' v g := fun W hW => h W fun k h1 h2 => (hW k h1 (Nat.lt_of_lt_of_le h2 hs)).trans (hk k h1 h2)

theorem results_cell1 {fn : Func} {p : Tmp} {ty : TypeId} (h : fn.results = #[.cell p ty]) (tmps : Array Value) (P : Program) (w : World) :
    (results fn tmps).run P w = ((asAddr (tmps.getD p undef)).run P w).andThen fun a w₁ => (loadVar ty a).run P w₁ := by
  simp only [results, h]
  simp [Sem.run_bind, Result.andThen]

theorem txt_len : ∀ (n : Nat) (t : List UInt8) (line : Nat), t.length ≤ n → (txt t line).1.length ≤ 2 * t.length
  | _, [], _, _ => by rw [txt_nil]; simp
  | 0, c :: l, _, h => by simp at h
  | n + 1, c :: l, line, h => by
    have hl := line_len c l
    have hr := rest_lt c l
    have hh := lin_len _ (head (c :: l)) line 1 (Nat.le_refl _)
    have ih := txt_len n (rest (c :: l)) (line + 1) (by simp only [List.length_cons] at h hr; omega)
    rw [txt_cons]
    split
    · simp only [List.length_append, List.length_cons]; omega
    · simp

theorem toks_slice {B : Nat} {w : World} {e : TypeId} {v : Value} {L : List Tok} (h : Owns B w e v L) : ∃ a cap, v = .slice a L.length cap ∧ Cells w a (tall L) ∧ L.length ≤ cap ∧ cap ≤ maxLen := by
  unfold Owns at h
  obtain ⟨a, cap, rfl, hc⟩ := cells_own h
  refine ⟨a, cap, rfl, hc, ?_⟩
  rcases h.2 with ⟨hv, h0⟩ | ⟨g, cap', cur, hv, _, _, hn, hm, _⟩
  · simp only [Value.slice.injEq] at hv; exact ⟨by omega, by unfold maxLen; omega⟩
  · simp only [Value.slice.injEq] at hv; exact ⟨by omega, by omega⟩

theorem Cells.under {b : Nat} {w : World} {a : Option Addr} {xs : List Value} (h : Cells w a xs) (hb : w.heap.size ≤ b) {w' : World} (hw : Below w.heap.size w w') : Under b w' a xs := fun _ hW => h.below (hw.trans (hW.mono hb))

end Go.Proofs.Ytgfkkbpnphbdgaa

namespace Go.Proofs.Ytgfkkbpnphbdgaa
open Go.RowKit
open Doc

theorem four (w : World) (o0 o1 o2 o3 : Obj) : Below w.heap.size w ((((w.alloc o0).alloc o1).alloc o2).alloc o3) ∧ ((((w.alloc o0).alloc o1).alloc o2).alloc o3).heap.size = w.heap.size + 4 ∧
    ((((w.alloc o0).alloc o1).alloc o2).alloc o3).heap[w.heap.size]? = some o0 ∧ ((((w.alloc o0).alloc o1).alloc o2).alloc o3).heap[w.heap.size + 1]? = some o1 ∧
    ((((w.alloc o0).alloc o1).alloc o2).alloc o3).heap[w.heap.size + 2]? = some o2 ∧ ((((w.alloc o0).alloc o1).alloc o2).alloc o3).heap[w.heap.size + 3]? = some o3 := by
  refine ⟨((((Below.refl _ _).alloc (Nat.le_refl _) _).alloc (by simp) _).alloc (by simp <;> omega) _).alloc (by simp <;> omega) _, by simp, ?_, ?_, ?_, ?_⟩
  · rw [Below.heap_alloc _ _ _ (by simp <;> omega), Below.heap_alloc _ _ _ (by simp <;> omega), Below.heap_alloc _ _ _ (by simp)]; exact heap_alloc_new w o0
  · rw [Below.heap_alloc _ _ _ (by simp <;> omega), Below.heap_alloc _ _ _ (by simp)]; have := heap_alloc_new (w.alloc o0) o1; simpa using this
  · rw [Below.heap_alloc _ _ _ (by simp)]; have := heap_alloc_new ((w.alloc o0).alloc o1) o2; simpa using this
  · have := heap_alloc_new (((w.alloc o0).alloc o1).alloc o2) o3; simpa using this

end Go.Proofs.Ytgfkkbpnphbdgaa
