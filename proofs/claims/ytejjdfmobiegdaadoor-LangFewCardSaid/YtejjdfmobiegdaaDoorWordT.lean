/- word: settle: walked. -/
import Derived.Test.YtejjdfmobiegdaaDoorWordR
import Derived.Deep.CutRange
set_option linter.unusedVariables false
namespace Go.Proofs.YtejjdfmobiegdaaDoor
open Go.RowKit
open Doc

theorem own_baseW {w : World} {B B' e size n : Nat} {v : Value} {xs : List Value} (h : w.ownsRow B e size v n xs) (hB : B' ≤ B) : w.ownsRow B' e size v n xs := by
  refine ⟨h.1, ?_⟩
  rcases h.2 with h2 | ⟨g, cap, cur, hv, hb, rest⟩
  · exact .inl h2
  · exact .inr ⟨g, cap, cur, hv, Nat.le_trans hB hb, rest⟩
theorem wls_set {l : List WL} {j : Nat} (hj : j < l.length) (q : WL) : wls (l.set j q) = ((wls l).set (j * 2) (.slice q.addr q.word.length q.cap)).set (j * 2 + 1) (.bool q.known) := by
  induction l generalizing j with
  | nil => simp at hj
  | cons p l ih =>
    cases j with
    | zero => rfl
    | succ j =>
      have e1 : wls (p :: l) = .slice p.addr p.word.length p.cap :: .bool p.known :: wls l := rfl
      have e2 : wls ((p :: l).set (j + 1) q) = .slice p.addr p.word.length p.cap :: .bool p.known :: wls (l.set j q) := rfl
      rw [e1, e2, ih (by simpa using hj), show (j + 1) * 2 = j * 2 + 1 + 1 by omega]
      rfl
theorem kn_set {ls : List WL} {j : Nat} {v : List Int} {a : Option Addr} {c : Nat} : kn (ls.set j ⟨v, true, a, c⟩) = (kn ls).set j (some v) := by
  unfold kn; rw [List.map_set]; rfl

def betterF (nx : Option (Nat × List Int)) (i : Nat) (v : List Int) : Option (Nat × List Int) := match nx with | none => some (i, v) | some (k', v') => if Wd.lessI v v' = true then some (i, v) else some (k', v')
theorem next_put {L : Wd.Kn} {nx : Option (Nat × List Int)} {ql : Int} {qr v : List Int} {i : Nat} (hk : (ql - 100).toNat = i) (h1 : Wd.known L i = none) (h2 : Wd.rowW L qr = some v) : Wd.nextStep L nx (ql, qr) = betterF nx i v := by
  unfold Wd.nextStep; simp only []; rw [hk, h1]; simp only []; rw [h2]; subst hk; rfl

end Go.Proofs.YtejjdfmobiegdaaDoor
