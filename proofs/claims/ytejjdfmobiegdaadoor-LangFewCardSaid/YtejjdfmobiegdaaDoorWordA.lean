/- word: Less, and the least word of a row: walked. -/
import Derived.Test.YtejjdfmobiegdaaDoorForm
import Derived.Test.YtejjdfmobiegdaaDoorWordS
set_option linter.unusedVariables false
namespace Go.Proofs.YtejjdfmobiegdaaDoor
open Go.RowKit
open Doc

theorem cmp_drop {x y : List Int} {k : Nat} {u v : Int} (hu : x[k]? = some u) (hv : y[k]? = some v) : Wd.cmpI (x.drop k) (y.drop k) = if u < v then -1 else if v < u then 1 else Wd.cmpI (x.drop (k + 1)) (y.drop (k + 1)) := by
  rw [List.drop_eq_getElem_cons (List.getElem?_eq_some_iff.1 hu).1, List.drop_eq_getElem_cons (List.getElem?_eq_some_iff.1 hv).1, (List.getElem?_eq_some_iff.1 hu).2, (List.getElem?_eq_some_iff.1 hv).2]
  rfl
/-! ### A row's least word -/
/-- A least word as it lies. -/
structure WL where
  word : List Int
  known : Bool
  addr : Option Addr
  cap : Nat
def WL.opt (p : WL) : Option (List Int) := if p.known = true then some p.word else none
def wls (l : List WL) : List Value := l.flatMap fun p => [.slice p.addr p.word.length p.cap, .bool p.known]
theorem wls_at : ∀ (l : List WL) (j : Nat) (p : WL), l[j]? = some p → (wls l)[j * 2]? = some (.slice p.addr p.word.length p.cap) ∧ (wls l)[j * 2 + 1]? = some (.bool p.known)
  | [], _, _, h => by simp at h
  | q :: l, 0, p, h => by
    have : q = p := by simpa using h
    subst this
    exact ⟨rfl, rfl⟩
  | q :: l, j + 1, p, h => by
    have := wls_at l j p (by simpa using h)
    have e : wls (q :: l) = .slice q.addr q.word.length q.cap :: .bool q.known :: wls l := rfl
    rw [e, show (j + 1) * 2 = j * 2 + 1 + 1 by omega]
    exact this
theorem wls_len (l : List WL) : (wls l).length = l.length * 2 := by
  induction l with
  | nil => rfl
  | cons p l ih => show (wls l).length + 2 = _; rw [ih, List.length_cons]; omega
def kn (l : List WL) : Wd.Kn := l.map WL.opt
theorem known_kn {l : List WL} {j : Nat} {p : WL} (h : l[j]? = some p) : Wd.known (kn l) j = p.opt := by
  unfold Wd.known kn
  rw [List.getElem?_map, h]; rfl
/-- Each that is known lies as it is, and is not too long. -/
def WRows (w : World) (ls : List WL) : Prop := ∀ p ∈ ls, p.known = true → Cells w p.addr (nums p.word) ∧ p.word.length ≤ 100000000
theorem WRows.below {w w' : World} {ls : List WL} (h : WRows w ls) (hb : Below w.heap.size w w') : WRows w' ls := fun p hp hk => ⟨(h p hp hk).1.below hb, (h p hp hk).2⟩

end Go.Proofs.YtejjdfmobiegdaaDoor
