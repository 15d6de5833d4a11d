/- LangForms, walked. -/
import Derived.Test.YtfchfnhjpndpgaaDoorLFormF
set_option linter.unusedVariables false
namespace Go.Proofs.YtfchfnhjpndpgaaDoor
open Go.RowKit
open Doc

theorem below_allocN {B : Nat} {a w : World} (h : Below B a w) (hB : B ≤ a.heap.size) (o : Obj) : Below B a (w.alloc o) := h.alloc (Nat.le_trans hB h.size) o
theorem cells_at {W W' : World} {B : Nat} {cs : Array Value} {e : TypeId} {l : List Int} (h : W.heap[B]? = some (.cells cs e (0, 0))) (hc : cs.toList = nums l) : Cells W (some ⟨B, 0, none⟩) (nums l) := by
  refine .inr ⟨B, 0, rfl, heap_lt h, fun j u hj => ?_⟩
  rw [Nat.zero_add]
  exact (blk_cell h (by rw [← hc] at hj; simpa using hj)).1
theorem heap_lt_obj {w : World} {n : Nat} {x : Obj} (h : w.heap[n]? = some x) : n < w.heap.size := (Array.getElem?_eq_some_iff.1 h).1
theorem at_new (w : World) (o : Obj) {n : Nat} (h : w.heap.size = n) : (w.alloc o).heap[n]? = some o := h ▸ heap_alloc_new w o
theorem at_old {w : World} {o x : Obj} {n : Nat} (h : w.heap[n]? = some x) : (w.alloc o).heap[n]? = some x := (Below.heap_alloc w o n (heap_lt_obj h)).trans h
def wantW (W : World) : World := (((W.alloc (.cells #[.int .i64 3] 3)).alloc (.cells #[.int .i64 1, .int .i64 3, .int .i64 2] 3)).alloc (.cells #[.int .i64 1, .int .i64 1, .int .i64 3, .int .i64 2, .int .i64 2] 3)).alloc (.cells #[.slice (some ⟨W.heap.size, 0, none⟩) 1 1, .slice (some ⟨W.heap.size + 1, 0, none⟩) 3 3, .slice (some ⟨W.heap.size + 2, 0, none⟩) 5 5] 29)
theorem want_facts (W : World) : Below W.heap.size W (wantW W) ∧ (wantW W).heap.size = W.heap.size + 4 ∧ ∀ k x, ffW[k]? = some x → ∃ (a : Option Addr) (c : Nat), (wantW W).cell? ⟨W.heap.size + 3, k, none⟩ = some (.slice a x.length c) ∧ Cells (wantW W) a (nums x) := by
  have hB : Below W.heap.size W (wantW W) := by
    unfold wantW
    repeat (refine below_allocN ?_ (Nat.le_refl _) _)
    exact Below.refl _ _
  refine ⟨hB, by simp [wantW], fun k x h => ?_⟩
  have hk : k < 3 := (List.getElem?_eq_some_iff.1 h).1
  have q3 : (wantW W).heap[W.heap.size + 3]? = some (.cells #[.slice (some ⟨W.heap.size, 0, none⟩) 1 1, .slice (some ⟨W.heap.size + 1, 0, none⟩) 3 3, .slice (some ⟨W.heap.size + 2, 0, none⟩) 5 5] 29) := by unfold wantW; exact at_new _ _ (by simp)
  have q0 : (wantW W).heap[W.heap.size]? = some (.cells #[.int .i64 3] 3) := by unfold wantW; repeat (first | exact at_new _ _ (by simp) | refine at_old ?_)
  have q1 : (wantW W).heap[W.heap.size + 1]? = some (.cells #[.int .i64 1, .int .i64 3, .int .i64 2] 3) := by unfold wantW; repeat (first | exact at_new _ _ (by simp) | refine at_old ?_)
  have q2 : (wantW W).heap[W.heap.size + 2]? = some (.cells #[.int .i64 1, .int .i64 1, .int .i64 3, .int .i64 2, .int .i64 2] 3) := by unfold wantW; repeat (first | exact at_new _ _ (by simp) | refine at_old ?_)
  obtain rfl | rfl | rfl : k = 0 ∨ k = 1 ∨ k = 2 := by omega
  · cases h; exact ⟨_, 1, (blk_cell q3 rfl).1, cells_at (W' := W) q0 rfl⟩
  · cases h; exact ⟨_, 3, (blk_cell q3 rfl).1, cells_at (W' := W) q1 rfl⟩
  · cases h; exact ⟨_, 5, (blk_cell q3 rfl).1, cells_at (W' := W) q2 rfl⟩
def tabW (W : World) : World := ((((((((((W.alloc (.cells #[.int .i64 3] 3)).alloc (.cells #[.int .i64 1, .int .i64 1, .int .i64 1, .int .i64 1] 3)).alloc (.cells #[.int .i64 1, .int .i64 3] 3)).alloc (.cells #[.int .i64 3, .int .i64 2] 3)).alloc (.cells #[.int .i64 2] 3)).alloc (.cells #[.int .i64 1, .int .i64 1, .int .i64 3, .int .i64 2, .int .i64 2] 3)).alloc (.cells #[.int .i64 1, .int .i64 3, .int .i64 2, .int .i64 2] 3)).alloc (.cells #[.int .i64 0] 3)).alloc (.cells #[.int .i64 4] 3)).alloc (.cells #[.int .i64 0, .int .i64 0, .int .i64 0, .int .i64 0, .int .i64 0, .int .i64 0, .int .i64 0, .int .i64 0, .int .i64 0, .int .i64 0, .int .i64 0, .int .i64 0, .int .i64 0] 3)).alloc (.cells #[.slice none 0 0, .bool false, .bool true, .slice (some ⟨W.heap.size, 0, none⟩) 1 1, .bool true, .bool true, .slice (some ⟨W.heap.size + 1, 0, none⟩) 4 4, .bool false, .bool true, .slice (some ⟨W.heap.size + 2, 0, none⟩) 2 2, .bool false, .bool true, .slice (some ⟨W.heap.size + 3, 0, none⟩) 2 2, .bool false, .bool false, .slice (some ⟨W.heap.size + 4, 0, none⟩) 1 1, .bool false, .bool false, .slice (some ⟨W.heap.size + 5, 0, none⟩) 5 5, .bool true, .bool true, .slice (some ⟨W.heap.size + 6, 0, none⟩) 4 4, .bool false, .bool false, .slice (some ⟨W.heap.size + 7, 0, none⟩) 1 1, .bool false, .bool false, .slice (some ⟨W.heap.size + 8, 0, none⟩) 1 1, .bool false, .bool false, .slice (some ⟨W.heap.size + 9, 0, none⟩) 13 13, .bool false, .bool false] 35)
theorem make13 (W : World) : (Instr.makeSlice 29 (.int .i64 13) (.int .i64 13)).run Tryd.prog W = .ok (.slice (some ⟨W.heap.size, 0, none⟩) 13 13) (W.alloc (.cells #[.int .i64 0, .int .i64 0, .int .i64 0, .int .i64 0, .int .i64 0, .int .i64 0, .int .i64 0, .int .i64 0, .int .i64 0, .int .i64 0, .int .i64 0, .int .i64 0, .int .i64 0] 3)) := by kernel_rfl
set_option maxHeartbeats 4000000 in
theorem tab_facts (W : World) : Below W.heap.size W (tabW W) ∧ (tabW W).heap.size = W.heap.size + 11 ∧ ∀ k x, ffT[k]? = some x → ∃ (a : Option Addr) (c : Nat), (tabW W).cell? ⟨W.heap.size + 10, k * 3, none⟩ = some (.slice a x.1.length c) ∧ (tabW W).cell? ⟨W.heap.size + 10, k * 3 + 1, none⟩ = some (.bool x.2.1) ∧ (tabW W).cell? ⟨W.heap.size + 10, k * 3 + 2, none⟩ = some (.bool x.2.2) ∧ Cells (tabW W) a (nums x.1) := by
  have hB : Below W.heap.size W (tabW W) := by
    unfold tabW
    repeat (refine below_allocN ?_ (Nat.le_refl _) _)
    exact Below.refl _ _
  refine ⟨hB, by simp [tabW], fun k x h => ?_⟩
  have hk : k < 11 := (List.getElem?_eq_some_iff.1 h).1
  have qt : (tabW W).heap[W.heap.size + 10]? = some (.cells #[.slice none 0 0, .bool false, .bool true, .slice (some ⟨W.heap.size, 0, none⟩) 1 1, .bool true, .bool true, .slice (some ⟨W.heap.size + 1, 0, none⟩) 4 4, .bool false, .bool true, .slice (some ⟨W.heap.size + 2, 0, none⟩) 2 2, .bool false, .bool true, .slice (some ⟨W.heap.size + 3, 0, none⟩) 2 2, .bool false, .bool false, .slice (some ⟨W.heap.size + 4, 0, none⟩) 1 1, .bool false, .bool false, .slice (some ⟨W.heap.size + 5, 0, none⟩) 5 5, .bool true, .bool true, .slice (some ⟨W.heap.size + 6, 0, none⟩) 4 4, .bool false, .bool false, .slice (some ⟨W.heap.size + 7, 0, none⟩) 1 1, .bool false, .bool false, .slice (some ⟨W.heap.size + 8, 0, none⟩) 1 1, .bool false, .bool false, .slice (some ⟨W.heap.size + 9, 0, none⟩) 13 13, .bool false, .bool false] 35) := by unfold tabW; exact at_new _ _ (by simp)
  have q0 : (tabW W).heap[W.heap.size]? = some (.cells #[.int .i64 3] 3) := by unfold tabW; repeat (first | exact at_new _ _ (by simp) | refine at_old ?_)
  have q1 : (tabW W).heap[W.heap.size + 1]? = some (.cells #[.int .i64 1, .int .i64 1, .int .i64 1, .int .i64 1] 3) := by unfold tabW; repeat (first | exact at_new _ _ (by simp) | refine at_old ?_)
  have q2 : (tabW W).heap[W.heap.size + 2]? = some (.cells #[.int .i64 1, .int .i64 3] 3) := by unfold tabW; repeat (first | exact at_new _ _ (by simp) | refine at_old ?_)
  have q3 : (tabW W).heap[W.heap.size + 3]? = some (.cells #[.int .i64 3, .int .i64 2] 3) := by unfold tabW; repeat (first | exact at_new _ _ (by simp) | refine at_old ?_)
  have q4 : (tabW W).heap[W.heap.size + 4]? = some (.cells #[.int .i64 2] 3) := by unfold tabW; repeat (first | exact at_new _ _ (by simp) | refine at_old ?_)
  have q5 : (tabW W).heap[W.heap.size + 5]? = some (.cells #[.int .i64 1, .int .i64 1, .int .i64 3, .int .i64 2, .int .i64 2] 3) := by unfold tabW; repeat (first | exact at_new _ _ (by simp) | refine at_old ?_)
  have q6 : (tabW W).heap[W.heap.size + 6]? = some (.cells #[.int .i64 1, .int .i64 3, .int .i64 2, .int .i64 2] 3) := by unfold tabW; repeat (first | exact at_new _ _ (by simp) | refine at_old ?_)
  have q7 : (tabW W).heap[W.heap.size + 7]? = some (.cells #[.int .i64 0] 3) := by unfold tabW; repeat (first | exact at_new _ _ (by simp) | refine at_old ?_)
  have q8 : (tabW W).heap[W.heap.size + 8]? = some (.cells #[.int .i64 4] 3) := by unfold tabW; repeat (first | exact at_new _ _ (by simp) | refine at_old ?_)
  have q9 : (tabW W).heap[W.heap.size + 9]? = some (.cells #[.int .i64 0, .int .i64 0, .int .i64 0, .int .i64 0, .int .i64 0, .int .i64 0, .int .i64 0, .int .i64 0, .int .i64 0, .int .i64 0, .int .i64 0, .int .i64 0, .int .i64 0] 3) := by unfold tabW; repeat (first | exact at_new _ _ (by simp) | refine at_old ?_)
  obtain rfl | rfl | rfl | rfl | rfl | rfl | rfl | rfl | rfl | rfl | rfl : k = 0 ∨ k = 1 ∨ k = 2 ∨ k = 3 ∨ k = 4 ∨ k = 5 ∨ k = 6 ∨ k = 7 ∨ k = 8 ∨ k = 9 ∨ k = 10 := by omega
  · cases h; exact ⟨none, 0, (blk_cell qt rfl).1, (blk_cell qt rfl).1, (blk_cell qt rfl).1, .inl rfl⟩
  · cases h; exact ⟨_, 1, (blk_cell qt rfl).1, (blk_cell qt rfl).1, (blk_cell qt rfl).1, cells_at (W' := W) q0 rfl⟩
  · cases h; exact ⟨_, 4, (blk_cell qt rfl).1, (blk_cell qt rfl).1, (blk_cell qt rfl).1, cells_at (W' := W) q1 rfl⟩
  · cases h; exact ⟨_, 2, (blk_cell qt rfl).1, (blk_cell qt rfl).1, (blk_cell qt rfl).1, cells_at (W' := W) q2 rfl⟩
  · cases h; exact ⟨_, 2, (blk_cell qt rfl).1, (blk_cell qt rfl).1, (blk_cell qt rfl).1, cells_at (W' := W) q3 rfl⟩
  · cases h; exact ⟨_, 1, (blk_cell qt rfl).1, (blk_cell qt rfl).1, (blk_cell qt rfl).1, cells_at (W' := W) q4 rfl⟩
  · cases h; exact ⟨_, 5, (blk_cell qt rfl).1, (blk_cell qt rfl).1, (blk_cell qt rfl).1, cells_at (W' := W) q5 rfl⟩
  · cases h; exact ⟨_, 4, (blk_cell qt rfl).1, (blk_cell qt rfl).1, (blk_cell qt rfl).1, cells_at (W' := W) q6 rfl⟩
  · cases h; exact ⟨_, 1, (blk_cell qt rfl).1, (blk_cell qt rfl).1, (blk_cell qt rfl).1, cells_at (W' := W) q7 rfl⟩
  · cases h; exact ⟨_, 1, (blk_cell qt rfl).1, (blk_cell qt rfl).1, (blk_cell qt rfl).1, cells_at (W' := W) q8 rfl⟩
  · cases h; exact ⟨_, 13, (blk_cell qt rfl).1, (blk_cell qt rfl).1, (blk_cell qt rfl).1, cells_at (W' := W) q9 rfl⟩
end Go.Proofs.YtfchfnhjpndpgaaDoor
