/- word: the least word of a row: walked. -/
import Derived.Test.YtejjdfmobiegdaaDoorWordA
set_option linter.unusedVariables false
namespace Go.Proofs.YtejjdfmobiegdaaDoor
open Go.RowKit
open Doc

theorem nums_app (a b : List Int) : nums (a ++ b) = nums a ++ nums b := by simp [nums]
theorem nums_lenW (a : List Int) : (nums a).length = a.length := by simp [nums]
theorem row_le {L : Wd.Kn} {r v : List Int} {k : Nat} (h : Wd.Short L 100000000) (hr : r.length ≤ 1000) (hv : Wd.rowW L (r.take k) = some v) : v.length ≤ 100000000000 := by
  have := Wd.row_short (by omega) h (r.take k) [] v hv
  have h2 : (r.take k).length ≤ 1000 := by rw [List.length_take]; omega
  have h3 : (r.take k).length * 100000000 ≤ 1000 * 100000000 := Nat.mul_le_mul_right _ h2
  simp only [List.length_nil] at this
  omega
theorem short_rows {w : World} {ls : List WL} (h : WRows w ls) : Wd.Short (kn ls) 100000000 := by
  intro j v hv
  unfold Wd.known kn at hv
  rw [List.getElem?_map] at hv
  cases hp : ls[j]? with
  | none => rw [hp] at hv; simp at hv
  | some p =>
    rw [hp] at hv
    have hv : p.opt = some v := hv
    unfold WL.opt at hv
    by_cases hk : p.known = true
    · rw [if_pos hk] at hv; cases hv; exact (h p (List.mem_of_getElem? hp) hk).2
    · rw [if_neg hk] at hv; cases hv
theorem own_news0 {W : World} {b : Nat} {a : Option Addr} {l : List Int} (h : Cells W a (nums l)) (hl : l ≠ []) : ∃ g o, a = some ⟨g, o, none⟩ ∧ ∀ j u, (nums l)[j]? = some u → W.cell? ((⟨g, o, none⟩ : Addr).add j) = some u := by
  obtain ⟨g, o, rfl, _, hc⟩ := h.get (by unfold nums; intro e; rw [List.map_eq_nil_iff] at e; exact hl e)
  refine ⟨g, o, rfl, fun j u hu => ?_⟩
  have e : (⟨g, o, none⟩ : Addr).add j = ⟨g, o + j, none⟩ := by unfold Addr.add; split <;> simp_all
  rw [e]; exact hc j u hu

section
variable {P : Program} {w : World}
/-- Nothing is appended. -/
theorem run_nothing (t ty e : TypeId) (i : TypeInfo) (ht : P.underlying t = some (.slice e)) (hi : P.info? e = some i) (va : Option Addr) (n cap : Nat) (hle : n ≤ cap) (xa : Option Addr) (c : Nat) :
    (Builtin.append_ #[t, t] ty #[.slice va n cap, .slice xa 0 c]).run P w = .ok (.slice va n cap) w := by
  cases xa <;> cases va <;> simp [Builtin.append_, run_underlying ht, sizeOf, typeInfo, hi, Builtin.lenOf, Builtin.firstCells, hle, storeCells, loadCells, loadCellsFrom]
theorem wpList_nothing {ops : Array Oper} {rest : List Oper} {o : Oper} {a : Act} {Q : Exit → Act → World → Prop} (hgd : o.guard = none) (s x : Operand) (t : TypeId)
    (ho : o.op = .call { callee := .builtin .append, args := #[s, x], argTypes := #[t, t] })
    (e : TypeId) (i : TypeInfo) (ht : P.underlying t = some (.slice e)) (hi : P.info? e = some i)
    (va : Option Addr) (n cap : Nat) (hs : a.eval s = .slice va n cap) (hle : n ≤ cap) (xa : Option Addr) (c : Nat) (hx : a.eval x = .slice xa 0 c)
    (h : wpList P ops Q rest (a.put o.dst (.slice va n cap)) w) : wpList P ops Q (o :: rest) a w :=
  wpList_plain hgd fun _ hK => by
    have hr := run_nothing (P := P) (w := w) t o.type e i ht hi va n cap hle xa c
    unfold Oper.wp execOp
    simp only [ho, resolve, invoke, builtin, Sem.run_bind, Sem.run_pure, Result.andThen_ok, List.map_toArray, List.map_cons, List.map_nil, hs, hx, hr]
    exact hK _ _ h
end

end Go.Proofs.YtejjdfmobiegdaaDoor
