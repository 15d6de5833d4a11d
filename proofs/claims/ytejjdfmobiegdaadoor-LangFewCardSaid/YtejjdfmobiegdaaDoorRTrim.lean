/- The document's own Trim, and a row of truths as a set: walked. -/
import Derived.Test.YtejjdfmobiegdaaDoorRReach
import Derived.Test.YtejjdfmobiegdaaDoorAppAll
set_option linter.unusedVariables false
namespace Go.Proofs.YtejjdfmobiegdaaDoor
open Go.RowKit
open Doc

/-- The first n digits of S alone. -/
def asN (S : Nat) : Nat → Nat
  | 0 => 0
  | k + 1 => if S.testBit k then asN S k ||| sdig (k : Int) else asN S k
theorem asN_lt (S : Nat) : ∀ n, asN S n < 18446744073709551616
  | 0 => by unfold asN; omega
  | k + 1 => by
    unfold asN
    split
    · exact or_lt _ _ (asN_lt S k) (dig_lt _)
    · exact asN_lt S k
theorem asN_bit (S : Nat) : ∀ n i, n ≤ 64 → (asN S n).testBit i = (decide (i < n) && S.testBit i)
  | 0, i, _ => by simp [asN]
  | k + 1, i, h => by
    unfold asN
    have hk := asN_bit S k i (by omega)
    by_cases hi : i = k
    · subst hi
      cases hb : S.testBit i
      · simp [hk, hb]
      · simp [Nat.testBit_or, bit_dig]; omega
    · have h1 : decide (i < k + 1) = decide (i < k) := decide_eq_decide.2 (by omega)
      rw [h1, ← hk]
      split
      · rw [Nat.testBit_or, bit_dig, decide_eq_false (by omega)]; simp
      · rfl
theorem asN_self {S n : Nat} (hn : n ≤ 64) (h : ∀ i, S.testBit i = true → i < n) : asN S n = S := Nat.eq_of_testBit_eq fun i => by
  rw [asN_bit S n i hn]
  cases hb : S.testBit i
  · simp
  · simp [h i hb]

theorem one_get {z u : Value} {j : Nat} (h : [z][j]? = some u) : j = 0 ∧ u = z := by
  cases j with
  | zero => simp at h; exact ⟨rfl, h.symm⟩
  | succ j => simp at h

/-- What the document's Trim tells. -/
def rtrimL (g : Gr) : List Int := if (iterG (gsF bearI g.prods) 0 g.nons.length).testBit 0 = true then trimF (iterG (gsF bearI g.prods) 0 g.nons.length) g.prods 0 else []

end Go.Proofs.YtejjdfmobiegdaaDoor
