/- word: the least word of a row: walked. -/
import Derived.Test.YtgfkkbpnphbdgaaWordA
set_option linter.unusedVariables false
namespace Go.Proofs.Ytgfkkbpnphbdgaa
open Go.RowKit
open Doc

theorem nums_app (a b : List Int) : nums (a ++ b) = nums a ++ nums b := by simp [nums]
theorem own_news0 {W : World} {b : Nat} {a : Option Addr} {l : List Int} (h : Cells W a (nums l)) (hl : l ≠ []) : ∃ g o, a = some ⟨g, o, none⟩ ∧ ∀ j u, (nums l)[j]? = some u → W.cell? ((⟨g, o, none⟩ : Addr).add j) = some u := by
  obtain ⟨g, o, rfl, _, hc⟩ := h.get (by unfold nums; intro e; rw [List.map_eq_nil_iff] at e; exact hl e)
  refine ⟨g, o, rfl, fun j u hu => ?_⟩
  have e : (⟨g, o, none⟩ : Addr).add j = ⟨g, o + j, none⟩ := by unfold Addr.add; split <;> simp_all
  rw [e]; exact hc j u hu

section
variable {P : Program} {w : World}
/-- Nothing is appended. -/
theorem run_nothing (t ty e : TypeId) (i : TypeInfo) (ht : P.underlying t = some (.slice e)) (hi : P.info? e = some i) (va : Option Addr) (n cap : Nat) (hle : n ≤ cap) (xa : Option Addr) (c : Nat) :
    (Builtin.append_ #[t, t] ty #[.slice va n cap, .slice xa 0 c]).run P w = .ok (.slice va n cap) w := by
  cases xa <;> cases va <;> simp [Builtin.append_, run_underlying ht, sizeOf, typeInfo, hi, Builtin.lenOf, Builtin.firstCells, hle, storeCells, loadCells, loadCellsFrom]
theorem wpList_nothing {ops : Array Oper} {rest : List Oper} {o : Oper} {a : Act} {Q : Exit → Act → World → Prop} (hgd : o.guard = none) (s x : Operand) (t : TypeId)
    (ho : o.op = .call { callee := .builtin .append, args := #[s, x], argTypes := #[t, t] })
    (e : TypeId) (i : TypeInfo) (ht : P.underlying t = some (.slice e)) (hi : P.info? e = some i)
    (va : Option Addr) (n cap : Nat) (hs : a.eval s = .slice va n cap) (hle : n ≤ cap) (xa : Option Addr) (c : Nat) (hx : a.eval x = .slice xa 0 c)
    (h : wpList P ops Q rest (a.put o.dst (.slice va n cap)) w) : wpList P ops Q (o :: rest) a w :=
  wpList_plain hgd fun _ hK => by
    have hr := run_nothing (P := P) (w := w) t o.type e i ht hi va n cap hle xa c
    unfold Oper.wp execOp
    simp only [ho, resolve, invoke, builtin, Sem.run_bind, Sem.run_pure, Result.andThen_ok, List.map_toArray, List.map_cons, List.map_nil, hs, hx, hr]
    exact hK _ _ h
end

end Go.Proofs.Ytgfkkbpnphbdgaa
