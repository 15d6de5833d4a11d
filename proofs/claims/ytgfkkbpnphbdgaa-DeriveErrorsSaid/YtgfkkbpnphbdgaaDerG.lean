/- slices.Grow of no trees. -/
import Derived.Test.YtgfkkbpnphbdgaaDerX
import Derived.Test.YtgfkkbpnphbdgaaTreeQ
import Derived.Lib.AppendZerosOnto
import Derived.Lib.AppendZeros
import Derived.Lib.SliceRun
set_option linter.unusedVariables false
set_option linter.unusedSimpArgs false
namespace Go.Proofs.Ytgfkkbpnphbdgaa
open Go.RowKit
open Doc Dr

theorem intU : Try.prog.underlying 3 = some (.int .i64) := by kernel_rfl
theorem zeros_size (z : Array Value) (k : Nat) : (Builtin.zeroCells z k).size = k * z.size := by
  simp [Builtin.zeroCells]
set_option maxRecDepth 100000 in
set_option maxHeartbeats 2000000 in
theorem growT_any (n : Nat) (hn : n ≤ 6) (w : World) :
    Calls Try.prog 57 #[.slice none 0 0, .int .i64 n] w fun e w' => ∃ (a : Option Addr) (c : Nat), e = .returned (.slice a 0 c) ∧ w'.ownsRow w.heap.size 39 3 (.slice a 0 c) 0 [] ∧ Below w.heap.size w w' := by
  obtain ⟨i0, hi0, hz0, hz1, hz2⟩ := info_of infoTq
  by_cases h0 : n = 0
  · subst h0
    go_enter Try.func57, Try.ntmps57
    go_wp2
    go_ret
    exact ⟨none, 0, rfl, World.ownsRow_nil _ _ _ _, Below.refl _ _⟩
  · have e1 : (0 : Int) < n := by omega
    have e2 : ¬ (n : Int) < 0 := by omega
    have hrz : ∀ ty, (Builtin.append_ #[34, 3] ty #[.slice none 0 0, .int .i64 (n : Int)]).run Try.prog w =
        .ok (.slice (some ⟨w.heap.size, 0, none⟩) (0 + n) (grownCap w (0 + n) 0 39)) (w.drew.alloc (.cells (([] : List Value).toArray ++ Builtin.zeroCells (Value.agg #[.int .i64 0, .int .i64 0, .slice none 0 0]).cells n ++ Builtin.zeroCells (Value.agg #[.int .i64 0, .int .i64 0, .slice none 0 0]).cells (grownCap w (0 + n) 0 39 - (0 + n))) 39)) := fun ty =>
      Lib.run_append_grow_zeros w 34 3 ty 39 i0 _ .i64 .i64 Try.underlying34 intU hi0 hz0 none 0 0 [] (run_firstCells_none w.drew i0.size 0 0 0) n (by omega) (by omega) (by omega) (by omega) (by rw [hz2]; omega) (growslice_fits (by omega) (by rw [hz2]; omega))
    have hG := grownCap_ge w (0 + n) 0 39
    have hM := grownCap_le_maxLen w (0 + n) 0 39 (by unfold maxLen; omega)
    rw [Nat.zero_add] at *
    generalize hGG : grownCap w n 0 39 = G at *
    have HM := Lib.hid hM
    have HOB := Lib.hid (show (w.drew.alloc (.cells (([] : List Value).toArray ++ Builtin.zeroCells (Value.agg #[.int .i64 0, .int .i64 0, .slice none 0 0]).cells n ++ Builtin.zeroCells (Value.agg #[.int .i64 0, .int .i64 0, .slice none 0 0]).cells (G - n)) 39)).ownsRow w.heap.size 39 3 (.slice (some ⟨w.heap.size, 0, none⟩) 0 G) 0 [] from World.ownsRow_made w.drew _ G (Nat.le_refl _) hM (by rw [Array.size_append, Array.size_append, zeros_size, zeros_size]; simp [Value.cells]; omega))
    have HBB := Lib.hid (show Below w.heap.size w (w.drew.alloc (.cells (([] : List Value).toArray ++ Builtin.zeroCells (Value.agg #[.int .i64 0, .int .i64 0, .slice none 0 0]).cells n ++ Builtin.zeroCells (Value.agg #[.int .i64 0, .int .i64 0, .slice none 0 0]).cells (G - n)) 39)) from (Below.refl _ _).drew.alloc (Nat.le_refl _) _)
    generalize w.drew.alloc (.cells (([] : List Value).toArray ++ Builtin.zeroCells (Value.agg #[.int .i64 0, .int .i64 0, .slice none 0 0]).cells n ++ Builtin.zeroCells (Value.agg #[.int .i64 0, .int .i64 0, .slice none 0 0]).cells (G - n)) 39) = W at *
    have hG63 : G ≤ 9223372036854775807 := by unfold maxLen at hM; omega
    clear hGG hM h0
    go_enter Try.func57, Try.ntmps57
    go_wp2_with (at_builtin; refine Lib.wpList_append_run _ rfl _ _ _ _ rfl _ _ rfl rfl _ _ (hrz _) ?_)
    all_goals
      go_ret
      exact ⟨some ⟨w.heap.size, 0, none⟩, G, rfl, HOB.out, HBB.out⟩
end Go.Proofs.Ytgfkkbpnphbdgaa
