/- The number of digits that are 1, by parallel sums. Plain numbers. What the small functions of sets give: each a contract over any world. Sets of numbers off rows; their digits. -/
import Derived.Test.YtgfkkbpnphbdgaaLeafs
import Derived.WalkKit
import Derived.WalkLawsBesides
import Derived.Laws.BitsAll
import Derived.Laws.ShiftsVar
import Derived.Lib.Hide
import Derived.RowKit3
import Derived.Outline
import Derived.LoopTactic
import Derived.Below
import Derived.WalkSmall
import Derived.IntWalk
import Derived.Laws.Bits64b


namespace Go.Proofs.Ytgfkkbpnphbdgaa
open Go.RowKit


/-- What is in s alone. -/
def sless (s t : Nat) : Nat := s &&& (18446744073709551615 - t)
/-- The set of n alone; none, if n can't be in one. -/
def sdig (n : Int) : Nat := if 0 ≤ n ∧ n < 64 then 2 ^ n.toNat else 0
/-- Is n in s? -/
def shas (s : Nat) (n : Int) : Bool := decide (s &&& sdig n ≠ 0)
end Go.Proofs.Ytgfkkbpnphbdgaa

namespace Go.Proofs.Ytgfkkbpnphbdgaa
open Go.RowKit

/-! ### Slices of integers that are read -/
/-- What is told of a slice of integers: its cells, one by one. -/
def Ints (w : World) (a : Option Addr) (len : Nat) (zs : List Int) : Prop :=
  zs.length = len ∧ len ≤ 9223372036854775807 ∧ (len = 0 ∨ ∃ b off, a = some ⟨b, off, none⟩ ∧ b < w.heap.size ∧ ∀ k, k < len → w.cell? ⟨b, off + k, none⟩ = some (.int .i64 (zs.getD k 0)))
theorem Ints.below {w w' : World} {a : Option Addr} {len : Nat} {zs : List Int} (h : Ints w a len zs) (hb : Below w.heap.size w w') : Ints w' a len zs := by
  obtain ⟨h1, h2, h3⟩ := h
  refine ⟨h1, h2, ?_⟩
  rcases h3 with h | ⟨b, off, rfl, hlt, hc⟩
  · exact .inl h
  · exact .inr ⟨b, off, rfl, Nat.lt_of_lt_of_le hlt hb.size, fun k hk => (hb.cell (p := ⟨b, off + k, none⟩) hlt).trans (hc k hk)⟩
theorem bit_dig (n : Int) (i : Nat) : (sdig n).testBit i = decide (n = (i : Int) ∧ i < 64) := by
  unfold sdig
  split
  · rename_i h
    rw [Nat.testBit_two_pow, Bool.eq_iff_iff, decide_eq_true_iff, decide_eq_true_iff]; omega
  · rename_i h
    rw [Nat.zero_testBit, eq_comm, decide_eq_false_iff_not]; omega
theorem has_eq (s : Nat) (n : Int) : shas s n = (decide (0 ≤ n ∧ n < 64) && s.testBit n.toNat) := by
  have e : ∀ i, (s &&& sdig n).testBit i = (s.testBit i && decide (n = (i : Int) ∧ i < 64)) := fun i => by rw [Nat.testBit_and, bit_dig]
  unfold shas
  rw [Bool.eq_iff_iff, decide_eq_true_iff, Bool.and_eq_true, decide_eq_true_iff]
  constructor
  · intro h
    obtain ⟨i, hi⟩ := Nat.exists_testBit_of_ne_zero h
    rw [e, Bool.and_eq_true, decide_eq_true_iff] at hi
    obtain ⟨h1, rfl, h2⟩ := hi
    exact ⟨by omega, by rw [Int.toNat_natCast]; exact h1⟩
  · rintro ⟨h1, h2⟩ h3
    have := e n.toNat
    rw [h3, Nat.zero_testBit, h2, decide_eq_true (by omega)] at this
    cases this
end Go.Proofs.Ytgfkkbpnphbdgaa
