/- first: grow and New, walked. -/
import Derived.Test.YtgfkkbpnphbdgaaFirstW
import Derived.Test.YtgfkkbpnphbdgaaRaw
import Derived.Test.YtgfkkbpnphbdgaaReach
import Derived.Laws.MakeOwn
import Derived.Laws.OwnMore
set_option linter.unusedVariables false
namespace Go.Proofs.Ytgfkkbpnphbdgaa
open Go.RowKit
open Doc

structure GrowSt (t : Nat) (ps : List (Int × List Int)) (l : List Int) (F : List Nat) (k : Nat) (gb : Bool) (E : List Nat) : Prop where
  e : E = growF t ps (l.take k) F
  g : gb = true ↔ E ≠ F
theorem growF_snoc (t : Nat) (ps : List (Int × List Int)) (l : List Int) (F : List Nat) {k : Nat} {q : Int} (hq : l[k]? = some q) : growF t ps (l.take (k + 1)) F = stepF t ps (growF t ps (l.take k) F) q := by
  unfold growF
  rw [List.take_add_one, hq]; simp
theorem GrowSt.step {t : Nat} {ps : List (Int × List Int)} {l : List Int} {F : List Nat} {k : Nat} {gb : Bool} {E : List Nat} (h : GrowSt t ps l F k gb E) {j : Nat} {p : Int × List Int} (hq : l[k]? = some (j : Int)) (hp : ps[j]? = some p) {i : Nat} (hi : p.1 - 100 = (i : Int)) (hil : i < E.length) {x : Nat} (hx : E[i]? = some x) (gb' : Bool) (hg : gb' = true ↔ (gb = true ∨ (x ||| ofF t E p.2 1) ≠ x)) :
    GrowSt t ps l F (k + 1) gb' (E.set i (x ||| ofF t E p.2 1)) := by
  have e1 : E.set i (x ||| ofF t E p.2 1) = stepF t ps E (j : Int) := by
    unfold stepF
    rw [Int.toNat_natCast, hp]
    simp only
    rw [hi, Int.toNat_natCast, List.getD_eq_getElem?_getD, hx]; rfl
  have hext : SubF F E := by rw [h.e]; exact grow_ext t ps _ F
  have hE : E.length = F.length := by rw [h.e]; exact grow_len t ps _ F
  have hstep : SubF E (E.set i (x ||| ofF t E p.2 1)) := by rw [e1]; exact step_ext t ps E _
  refine ⟨?_, ?_⟩
  · rw [e1, growF_snoc t ps l F hq, ← h.e]
  · rw [hg, h.g]
    have hsame : (x ||| ofF t E p.2 1) = x ↔ E.set i (x ||| ofF t E p.2 1) = E := by
      constructor
      · intro e
        rw [e]
        exact List.ext_getElem? fun m => by
          rw [List.getElem?_set]
          split
          · rename_i hm; subst hm; first | rw [hx] | rw [if_pos hil, hx]
          · rfl
      · intro e
        have : (E.set i (x ||| ofF t E p.2 1))[i]? = E[i]? := by rw [e]
        rw [List.getElem?_set, if_pos rfl, if_pos hil, hx] at this
        exact Option.some.inj this
    constructor
    · rintro (h1 | h1)
      · intro e
        rw [e] at hstep
        exact h1 (SubF.anti hE hstep hext)
      · intro e
        rw [e] at hstep
        have := SubF.anti hE hstep hext
        exact h1 (hsame.2 (e.trans this.symm))
    · intro h1
      by_cases h2 : E = F
      · right
        intro h3
        exact h1 ((hsame.1 h3).trans h2)
      · exact .inl h2

end Go.Proofs.Ytgfkkbpnphbdgaa
