/- What is of use in a grammar: sets that grow, in plain words. No program here. reach: the small calls, walked. reach: lefts, walked. reach: what grows, walked. reach: Nullable, Fruitful, Reached, Trim: of a grammar that may be. reach: Trim, of a grammar that may be. ReachHolds: what holds of the sets. No program here. wakes of chapter 5. -/
import Derived.Test.YtgfkkbpnphbdgaaSetO
import Derived.Test.YtgfkkbpnphbdgaaSpec
import Derived.Test.YtgfkkbpnphbdgaaChk
import Derived.Test.YtgfkkbpnphbdgaaWake
import Derived.Test.YtgfkkbpnphbdgaaRaw
import Derived.Deep.CutRange
namespace Go.Proofs.Ytgfkkbpnphbdgaa
open Doc

/-- A set of nonterminals, by what is in it. -/
def SetIs (r : Nat) (P : Int → Prop) : Prop := r < 18446744073709551616 ∧ ∀ i : Nat, r.testBit i = true ↔ i < 64 ∧ P (100 + (i : Int))
theorem SetIs.has {r : Nat} {P : Int → Prop} (h : SetIs r P) (s : Int) : shas r (s - 100) = true ↔ 100 ≤ s ∧ s < 164 ∧ P s := by
  rw [has_eq, Bool.and_eq_true, decide_eq_true_eq, h.2]
  constructor
  · rintro ⟨⟨h1, h2⟩, h3, h4⟩
    refine ⟨by omega, by omega, ?_⟩
    rwa [show (100 : Int) + ((s - 100).toNat : Int) = s by omega] at h4
  · rintro ⟨h1, h2, h3⟩
    refine ⟨⟨by omega, by omega⟩, by omega, ?_⟩
    rwa [show (100 : Int) + ((s - 100).toNat : Int) = s by omega]
/-- Every number of a production is a small one. -/
def NumsOk (g : Gr) : Prop := ∀ p ∈ g.prods, (100 ≤ p.1 ∧ p.1 < 164) ∧ ∀ s ∈ p.2, 0 ≤ s ∧ s < 164
theorem nums_of_check {g : Gr} (h : CheckG g) : NumsOk g := fun p hp => by
  have h1 := h.pv p hp
  have h8 := h.n8
  have ht8 := h.t8
  refine ⟨by omega, fun s hs => ?_⟩
  have := h1.2.2 s hs
  unfold symOk at this
  omega

end Go.Proofs.Ytgfkkbpnphbdgaa

namespace Go.Proofs.Ytgfkkbpnphbdgaa
open Go.RowKit
open Doc

end Go.Proofs.Ytgfkkbpnphbdgaa

namespace Go.Proofs.Ytgfkkbpnphbdgaa
open Go.RowKit
open Doc

end Go.Proofs.Ytgfkkbpnphbdgaa

namespace Go.Proofs.Ytgfkkbpnphbdgaa
open Go.RowKit
open Doc

end Go.Proofs.Ytgfkkbpnphbdgaa

namespace Go.Proofs.Ytgfkkbpnphbdgaa
open Go.RowKit
open Doc

theorem small_checkG {g : Gr} (h : CheckG g) : SmallG g := fun p hp => by
  have h1 := nums_of_check h p hp
  unfold maxI
  exact ⟨by omega, fun s hs => by have := h1.2 s hs; omega⟩
theorem kind_len {x : List UInt8} (h : kindOf x ≠ 0) : x.length ≤ 8 := by
  cases x with
  | nil => simp
  | cons c l =>
    have e : kindOf (c :: l) = if nameOk (c :: l) = true then (if up c = true then 1 else 2) else 0 := rfl
    rw [e] at h
    cases hn : nameOk (c :: l) with
    | false => rw [hn] at h; simp at h
    | true => unfold nameOk at hn; simp at hn; have := hn.1.1; simp only [List.length_cons]; omega
end Go.Proofs.Ytgfkkbpnphbdgaa

namespace Go.Proofs.Ytgfkkbpnphbdgaa
open Go.RowKit
open Doc

end Go.Proofs.Ytgfkkbpnphbdgaa

namespace Go.Proofs.Ytgfkkbpnphbdgaa
open Go.RowKit
open Doc

end Go.Proofs.Ytgfkkbpnphbdgaa

namespace Go.Proofs.Ytgfkkbpnphbdgaa
open Go.RowKit
open Doc

end Go.Proofs.Ytgfkkbpnphbdgaa
