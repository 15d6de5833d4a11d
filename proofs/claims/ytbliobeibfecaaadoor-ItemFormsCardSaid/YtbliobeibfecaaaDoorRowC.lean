/- A slice of integers that came in, as a list. -/
import Derived.Test.YtbliobeibfecaaaDoorText
import Derived.Test.YtbliobeibfecaaaDoorLeafs
set_option linter.unusedVariables false
namespace Go.Proofs.YtbliobeibfecaaaDoor
open Go.RowKit

theorem row_len {w : World} {a : Option Addr} {len cap : Nat} {zs : List Int} (h : IsRow .i64 w a len cap zs) : (zs.take len).length = len ∧ len ≤ cap := by
  rcases h with ⟨_, rfl, rfl, rfl⟩ | ⟨x, rfl, hlc, hm, hzl, hc, _⟩
  · simp
  · rw [List.length_take]; omega
theorem row_cells {w : World} {a : Option Addr} {len cap : Nat} {zs : List Int} (h : IsRow .i64 w a len cap zs) : Cells w a (nums (zs.take len)) := by
  rcases Nat.eq_zero_or_pos len with h0 | h0
  · left; rw [h0]; rfl
  · obtain ⟨b, off, rfl, hb, hm, hc⟩ := h.at_ h0
    have hl := (row_len h).1
    refine .inr ⟨b, off, rfl, hb, fun j u hj => ?_⟩
    unfold nums at hj
    rw [List.getElem?_map] at hj
    obtain ⟨x, hx, rfl⟩ := Option.map_eq_some_iff.1 hj
    have hjl : j < len := by have := (List.getElem?_eq_some_iff.1 hx).1; omega
    rw [hc j hjl]
    rw [List.getElem?_take, if_pos hjl] at hx
    rw [List.getD_eq_getElem?_getD, hx]; rfl
theorem row_wide {w : World} {a : Option Addr} {len cap : Nat} {zs : List Int} (h : IsRow .i64 w a len cap zs) : ∀ n ∈ zs.take len, -9223372036854775808 ≤ n ∧ n ≤ 9223372036854775807 := by
  intro n hn
  rcases h with ⟨_, rfl, rfl, rfl⟩ | ⟨x, rfl, hlc, hm, hzl, hc, hw⟩
  · simp at hn
  · have := hw n (List.mem_of_mem_take hn)
    simp only [Lit.wf, Bool.and_eq_true, decide_eq_true_eq] at this
    exact this

end Go.Proofs.YtbliobeibfecaaaDoor
