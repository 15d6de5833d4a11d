/- states: the good texts' grammars have machines. No program here. -/
import Derived.Test.YtejjdfmobiegdaaDoorStK
import Derived.Test.YtejjdfmobiegdaaDoorPlay
set_option linter.unusedVariables false
namespace Go.Proofs.YtejjdfmobiegdaaDoor
open Go.RowKit
open Doc

def goodMB (t : List UInt8) : Bool := match parse t with
  | .ok g => decide (ChkP g) && (fruC g).testBit 0 && fixB g && (machS (kC g) g 600).isSome
  | .bad _ _ _ => false
theorem goodM_is {t : List UInt8} {g : Gr} (h : goodMB t = true) (hp : parse t = .ok g) : CheckG g ∧ Fru g 100 ∧ MkOf g (kC g) ∧ ∃ all, machS (kC g) g 600 = some all := by
  unfold goodMB at h
  rw [hp] at h
  simp only [Bool.and_eq_true, decide_eq_true_eq] at h
  have hc := (chk_iff g).1 h.1.1.1
  exact ⟨hc, (fru_C hc).1 h.1.1.2, kC_is hc h.1.2, Option.isSome_iff_exists.1 h.2⟩
theorem goodM_a : ∀ d, d < 5 → goodMB (textsL.getD d []) = true := by decide +kernel
theorem goodM_b : goodMB (textsL.getD 5 []) = true := by decide +kernel
theorem goodM_c : ∀ d, d < 5 → goodMB (textsL.getD (6 + d) []) = true := by decide +kernel
theorem goodM_d : ∀ d, d < 6 → goodMB (textsL.getD (11 + d) []) = true := by decide +kernel
theorem goodM_all (d : Nat) (h : d < 17) : goodMB (textsL.getD d []) = true := by
  by_cases h1 : d < 5
  · exact goodM_a d h1
  · by_cases h2 : d = 5
    · subst h2; exact goodM_b
    · by_cases h3 : d < 11
      · have := goodM_c (d - 6) (by omega)
        rwa [show 6 + (d - 6) = d by omega] at this
      · have := goodM_d (d - 11) (by omega)
        rwa [show 11 + (d - 11) = d by omega] at this
end Go.Proofs.YtejjdfmobiegdaaDoor
