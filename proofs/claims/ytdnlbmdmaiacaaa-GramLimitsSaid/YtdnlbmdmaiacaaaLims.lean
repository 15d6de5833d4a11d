/- GramLimits: the texts, and what reading them gives. -/
import Derived.Test.YtdnlbmdmaiacaaaChk
namespace Go.Proofs.Ytdnlbmdmaiacaaa
open Go.RowKit
open Doc

def oneRule (i : Nat) : List UInt8 := [UInt8.ofNat (65 + i), 58, 32, 97, 10]
def rulesT : Nat → List UInt8 | 0 => [] | i + 1 => rulesT i ++ oneRule i
def rowT : Nat → List UInt8 | 0 => [83, 58] | i + 1 => rowT i ++ [32, 97]
def abc (k : Nat) : List UInt8 := if k = 0 then [97] else if k = 1 then [98] else [99]
def onePart (i : Nat) : List UInt8 := [32, 124, 32] ++ abc (i % 3) ++ [32] ++ abc (i / 3 % 3) ++ [32] ++ abc (i / 9 % 3)
/-- The parts below i, the first one among them. -/
def partsT : Nat → List UInt8 | 0 => [83, 58, 32, 97] | i + 1 => if i = 0 then [83, 58, 32, 97] else partsT i ++ onePart i

theorem rulesT_step (i : Nat) : rulesT (i + 1) = rulesT i ++ oneRule i := rfl
theorem rowT_step (i : Nat) : rowT (i + 1) = rowT i ++ [32, 97] := rfl
theorem partsT_step (i : Nat) (h : 0 < i) : partsT (i + 1) = partsT i ++ onePart i := by
  have h' : i ≠ 0 := by omega
  show (if i = 0 then _ else _) = _
  rw [if_neg h']

/-- A text that may be: what was read is told good, and is small. -/
def LimOk (t : List UInt8) : Prop := ∃ g, parse t = .ok g ∧ chkI g = 0 ∧ (g.terms.length ≤ 1000000 ∧ g.nons.length ≤ 1000000 ∧ g.prods.length ≤ 1000000 ∧ ∀ p ∈ g.prods, p.2.length ≤ 1000000) ∧ (∀ p ∈ g.prods, p.1 ≤ maxI ∧ ∀ s ∈ p.2, s ≤ maxI) ∧ (∀ x ∈ g.terms, x.length ≤ maxLen) ∧ ∀ x ∈ g.nons, x.length ≤ maxLen
def limB (t : List UInt8) : Bool :=
  match parse t with
  | .ok g => decide (ChkP g) && decide (g.terms.length ≤ 1000000 ∧ g.nons.length ≤ 1000000 ∧ g.prods.length ≤ 1000000 ∧ ∀ p ∈ g.prods, p.2.length ≤ 1000000) && decide (∀ p ∈ g.prods, p.1 ≤ maxI ∧ ∀ s ∈ p.2, s ≤ maxI) && decide (∀ x ∈ g.terms, x.length ≤ maxLen) && decide (∀ x ∈ g.nons, x.length ≤ maxLen)
  | .bad _ _ _ => false
theorem lim_of {t : List UInt8} (h : limB t = true) : LimOk t := by
  unfold limB at h
  split at h
  · rename_i g hg
    simp only [Bool.and_eq_true, decide_eq_true_eq] at h
    exact ⟨g, hg, by unfold chkI; rw [if_pos h.1.1.1.1], h.1.1.1.2, h.1.1.2, h.1.2, h.2⟩
  · cases h
/-- A text that is too much by one. -/
def LimBad (t : List UInt8) : Prop := ∃ l c, parse t = .bad l c 5 ∧ 0 < l
def badB (t : List UInt8) : Bool :=
  match parse t with
  | .bad l _ x => decide (x = 5) && decide (0 < l)
  | .ok _ => false
theorem bad_of {t : List UInt8} (h : badB t = true) : LimBad t := by
  unfold badB at h
  split at h
  · rename_i l c x hx
    simp only [Bool.and_eq_true, decide_eq_true_eq] at h
    exact ⟨l, c, h.1 ▸ hx, h.2⟩
  · cases h

theorem rules_ok : LimOk (rulesT 8) := lim_of (by decide +kernel)
theorem row_ok : LimOk (rowT 6) := lim_of (by decide +kernel)
theorem parts_ok : LimOk (partsT 24) := lim_of (by decide +kernel)
theorem rules_bad : LimBad (rulesT 8 ++ [90, 58, 32, 97, 10]) := bad_of (by decide +kernel)
theorem row_bad : LimBad (rowT 6 ++ [32, 97]) := bad_of (by decide +kernel)
theorem parts_bad : LimBad (partsT 24 ++ [32, 124, 32, 99, 32, 99, 32, 99, 32, 97]) := bad_of (by decide +kernel)
theorem rules_len : ∀ i, i ≤ 8 → (rulesT i).length ≤ 1000 := by decide +kernel
theorem row_len : ∀ i, i ≤ 6 → (rowT i).length ≤ 1000 := by decide +kernel
theorem parts_len : ∀ i, i ≤ 24 → (partsT i).length ≤ 1000 := by decide +kernel

end Go.Proofs.Ytdnlbmdmaiacaaa
