/- What derives is fruitful; what derives nothing is nullable. No program here. -/
import Derived.Test.YtgfkkbpnphbdgaaSpanS
import Derived.Test.YtgfkkbpnphbdgaaGS
set_option linter.unusedVariables false
namespace Go.Proofs.Ytgfkkbpnphbdgaa
open Doc

theorem der_fru {g : Gr} {r u : List Int} (h : Sp.DerF g.prods r u) (ht : ∀ s ∈ u, s < 100) : ∀ s ∈ r, 100 ≤ s → Fru g s := by
  induction h with
  | nil => intro s hs; cases hs
  | leaf a r w _ ih =>
    intro s hs h100
    rcases List.mem_cons.1 hs with rfl | hs
    · have := ht s (by simp); omega
    · exact ih (fun x hx => ht x (by simp [hx])) s hs h100
  | non p r v w hp _ _ ih1 ih2 =>
    intro s hs h100
    rcases List.mem_cons.1 hs with rfl | hs
    · exact Fru.mk p hp (ih1 fun x hx => ht x (by simp [hx]))
    · exact ih2 (fun x hx => ht x (by simp [hx])) s hs h100
theorem nul_of_der {g : Gr} {r u : List Int} (h : Sp.DerF g.prods r u) (hu : u = []) : ∀ s ∈ r, Nul g s := by
  induction h with
  | nil => intro s hs; cases hs
  | leaf a r w _ ih => cases hu
  | non p r v w hp _ _ ih1 ih2 =>
    obtain ⟨h1, h2⟩ := List.append_eq_nil_iff.1 hu
    intro s hs
    rcases List.mem_cons.1 hs with rfl | hs
    · exact Nul.mk p hp (ih1 h1)
    · exact ih2 h2 s hs
theorem der_row_nil {ps : List (Int × List Int)} : ∀ r : List Int, (∀ s ∈ r, Sp.DerF ps [s] []) → Sp.DerF ps r []
  | [], _ => .nil
  | s :: r, h => (h s (by simp)).join (der_row_nil r fun x hx => h x (by simp [hx]))
theorem der_nul {g : Gr} {s : Int} (h : Nul g s) : Sp.DerF g.prods [s] [] := by
  induction h with
  | mk p hp _ ih => exact Sp.DerF.one.2 (.inr ⟨p, hp, rfl, der_row_nil p.2 ih⟩)
theorem der_nul_iff {g : Gr} {s : Int} : Sp.DerF g.prods [s] [] ↔ Nul g s := ⟨fun h => nul_of_der h rfl s (by simp), der_nul⟩
theorem SetIs.bit {r : Nat} {P : Int → Prop} (h : SetIs r P) {i : Nat} (hi : i < 64) : shas r (i : Int) = true ↔ P (100 + (i : Int)) := by
  rw [shas_bit r i hi, h.2 i]
  exact ⟨fun h => h.2, fun h => ⟨hi, h⟩⟩
end Go.Proofs.Ytgfkkbpnphbdgaa
