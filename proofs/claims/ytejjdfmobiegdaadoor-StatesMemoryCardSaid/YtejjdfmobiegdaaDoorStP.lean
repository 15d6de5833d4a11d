/- states: the closing reckoned; all states in plain words. No program here. -/
import Derived.Test.YtejjdfmobiegdaaDoorItU
set_option linter.unusedVariables false
namespace Go.Proofs.YtejjdfmobiegdaaDoor
open Go.RowKit
open Doc

/-! ### The closing, reckoned -/
def stepC (K : MkP) (X : Cl) : Cl := match X.opn.getLast? with
  | none => X
  | some x => bringP K { X with opn := X.opn.dropLast } x
def iterC (K : MkP) : Nat → Cl → Cl
  | 0, X => X
  | n + 1, X => if X.opn = [] then X else iterC K n (stepC K X)
def rowQ (s : Nat) (i d : Nat) : List It := if s = 0 then [] else (bitsN s).map fun (a : Nat) => ((i : Int) - 1, (d : Int), (a : Int))
def listQ (A : List Nat) : List It := (List.range 25).flatMap fun i => (List.range 7).flatMap fun d => rowQ (A.getD (i * 7 + d) 0) i d
theorem bitsN_zero : bitsN 0 = [] := by unfold bitsN; exact List.filter_eq_nil_iff.2 fun i _ => by simp
theorem listQ_eq (A : List Nat) : listQ A = listP A := by
  have h : ∀ i d, rowQ (A.getD (i * 7 + d) 0) i d = rowIt A i d := fun i d => by
    unfold rowQ rowIt
    split
    · rename_i h0; rw [h0, bitsN_zero]; rfl
    · rfl
  unfold listQ listP dotsP
  simp only [h]
def closeC (K : MkP) (l : List It) : List It := listQ (iterC K 22401 (l.foldl (putR K) Cl0)).all
theorem iterC_done {K : MkP} (hk : MkOk K) {l : List It} : ∀ (n : Nat) (X : Cl), CInv K l X → 22400 + X.opn.length - 2 * cntC X.all < n → CInv K l (iterC K n X) ∧ (iterC K n X).opn = []
  | 0, X, _, h => by omega
  | n + 1, X, hX, h => by
    unfold iterC
    split
    · rename_i h0; exact ⟨hX, h0⟩
    · rename_i h0
      obtain ⟨o, x, ho⟩ := last_of h0
      have hb := hX.bring hk ho
      have e : stepC K X = bringP K { X with opn := o } x := by
        unfold stepC
        have e1 : X.opn.getLast? = some x := by rw [ho]; simp
        have e2 : X.opn.dropLast = o := by rw [ho]; simp
        rw [e1, e2]
      rw [e]
      exact iterC_done hk n _ hb.1 (by omega)
theorem closeC_is {K : MkP} (hk : MkOk K) (l : List It) : CloseP K l (closeC K l) := by
  have h0 := cinv_first hk l
  have hc := h0.cnt
  have h := iterC_done hk 22401 _ h0 (by have := cntC_le (l.foldl (putR K) Cl0).all; rw [h0.la] at this; omega)
  unfold closeC
  rw [listQ_eq]
  exact h.1.close h.2
def goC (K : MkP) (l : List It) (s : Int) : List It := closeC K (overP K l s)
def begC (K : MkP) : List It := closeC K [ownI]
theorem clo_none {K : MkP} {l : List It} (h : l = []) {x : It} : ¬ Clo K l x := by
  intro hx
  induction hx with
  | base h1 _ => rw [h] at h1; cases h1
  | step _ _ _ _ _ ih => exact ih

/-! ### One maker of a grammar -/
theorem MakG.right_eq {g : Gr} {M N : MakR} (h : MakG g M) (k : MakG g N) (p : Int) : rightM M p = rightM N p := by
  unfold rightM
  split
  · rfl
  · have e : shas M.places p = true ↔ shas N.places p = true := (h.pl p).trans (k.pl p).symm
    by_cases hp : shas M.places p = true
    · rw [if_pos hp, if_pos (e.1 hp)]
      obtain ⟨j, q, rfl, h1, h2⟩ := (h.pl p).1 hp
      rw [Int.toNat_natCast, h.rt j q h1 h2, k.rt j q h1 h2]
    · rw [if_neg hp, if_neg (fun h1 => hp (e.2 h1))]
theorem MakG.of_eq {g : Gr} {M N : MakR} (h : MakG g M) (k : MakG g N) : M.of = N.of := by
  refine List.ext_getElem (h.ol.trans k.ol.symm) fun i h1 h2 => ?_
  have e1 : M.of[i] = M.of.getD i 0 := by rw [List.getD_eq_getElem?_getD, List.getElem?_eq_getElem h1]; rfl
  have e2 : N.of[i] = N.of.getD i 0 := by rw [List.getD_eq_getElem?_getD, List.getElem?_eq_getElem h2]; rfl
  have hb : ∀ p : Int, shas (M.of.getD i 0) p = true ↔ shas (N.of.getD i 0) p = true := fun p => (h.o i p).trans (k.o i p).symm
  have l1 := getD_lt h.lt (by omega) i
  have l2 := getD_lt k.lt (by omega) i
  rw [e1, e2]
  refine Nat.eq_of_testBit_eq fun j => ?_
  by_cases hj : j < 64
  · have := hb (j : Int)
    rw [has_eq, has_eq] at this
    simp only [Int.toNat_natCast, Bool.and_eq_true, decide_eq_true_eq] at this
    have h3 : (0 : Int) ≤ j ∧ (j : Int) < 64 := by omega
    have := (and_congr_right_iff.1 this) h3
    exact Bool.eq_iff_iff.2 this
  · have h64 : 18446744073709551616 ≤ 2 ^ j := by have := Nat.pow_le_pow_right (n := 2) (by omega) (show 64 ≤ j by omega); simpa using this
    rw [Nat.testBit_lt_two_pow (Nat.lt_of_lt_of_le l1 h64), Nat.testBit_lt_two_pow (Nat.lt_of_lt_of_le l2 h64)]
theorem MakG.is_eq {g : Gr} {M N : MakR} (h : MakG g M) (k : MakG g N) (x : It) : isIt M x = isIt N x := by
  unfold isIt
  rw [h.right_eq k]
  split
  · unfold followM; rw [h.t, k.t]
  · rfl
theorem MakG.mk_eq {g : Gr} {M N : MakR} {F : List Nat} (h : MakG g M) (k : MakG g N) : mkP M F = mkP N F := by
  unfold mkP
  rw [h.of_eq k, h.t, k.t, show isIt M = isIt N from funext fun x => h.is_eq k x]
  rw [show restM M = restM N from funext fun x => by unfold restM; rw [h.is_eq k, h.right_eq k]]
/-- A grammar's maker in plain terms. -/
def MkOf (g : Gr) (K : MkP) : Prop := ∃ M F, K = mkP M F ∧ MakG g M ∧ FirstIs g F
theorem first_uniq {g : Gr} {F G : List Nat} (h : FirstIs g F) (k : FirstIs g G) : F = G :=
  SubF.anti (h.len.trans k.len.symm) (h.least G k.len k.low k.closed) (k.least F h.len h.low h.closed)
theorem MkOf.uniq {g : Gr} {K L : MkP} (h : MkOf g K) (k : MkOf g L) : K = L := by
  obtain ⟨M, F, rfl, h1, h2⟩ := h
  obtain ⟨N, G, rfl, k1, k2⟩ := k
  obtain rfl := first_uniq h2 k2
  exact h1.mk_eq k1
theorem MkOf.ok {g : Gr} {K : MkP} (hc : CheckG g) (h : MkOf g K) : MkOk K := by
  obtain ⟨M, F, rfl, h1, h2⟩ := h
  exact mkOk_of (h1.ok hc h2)

/-! ### All states -/
structure StP where
  items : List It
  by_ : Int
  over : List (Int × Nat)
deriving DecidableEq
def StP.to (s : StP) (sym : Int) : Option Nat := (s.over.find? fun q => q.1 == sym).map (·.2)
def hitS (items : List It) (sym : Int) (s : StP) : Bool := s.by_ == sym && decide (s.items = items)
def toS (all : List StP) (items : List It) (sym : Int) : Nat := all.findIdx (hitS items sym)
def linkS (k : Nat) (sym : Int) (t : Nat) (all : List StP) : List StP := all.modify k fun s => { s with over := (sym, t) :: s.over }
def nextS (all : List StP) (items : List It) (sym : Int) : List StP := if toS all items sym < all.length then all else all ++ [⟨items, sym, []⟩]
def itemsS (all : List StP) (k : Nat) : List It := match all[k]? with
  | some s => s.items
  | none => []
def leadS (go : List It → Int → List It) (k : Nat) (all : List StP) (sym : Int) : List StP :=
  if go (itemsS all k) sym = [] then all else linkS k sym (toS all (go (itemsS all k) sym) sym) (nextS all (go (itemsS all k) sym) sym)
def leadAll (go : List It → Int → List It) (syms : List Int) (k : Nat) (all : List StP) : List StP := syms.foldl (leadS go k) all
def runS (go : List It → Int → List It) (syms : List Int) (budget : Nat) : Nat → Nat → List StP → Option (List StP)
  | 0, _, _ => none
  | n + 1, k, all => if k < all.length then (if budget < (leadAll go syms k all).length then none else runS go syms budget n (k + 1) (leadAll go syms k all)) else some all
def symsG (g : Gr) : List Int := (List.range g.terms.length).map (fun (i : Nat) => (1 : Int) + (i : Int)) ++ (List.range g.nons.length).map (fun (i : Nat) => (100 : Int) + (i : Int))
def firstS (K : MkP) : List StP := [⟨begC K, 0, []⟩]
def machS (K : MkP) (g : Gr) (budget : Nat) : Option (List StP) := runS (goC K) (symsG g) budget 601 0 (firstS K)
theorem symsG_len (g : Gr) : (symsG g).length = g.terms.length + g.nons.length := by simp [symsG]
theorem mem_symsG {g : Gr} {s : Int} : s ∈ symsG g ↔ (1 ≤ s ∧ s ≤ (g.terms.length : Int)) ∨ (100 ≤ s ∧ s < 100 + (g.nons.length : Int)) := by
  unfold symsG
  simp only [List.mem_append, List.mem_map, List.mem_range]
  constructor
  · rintro (⟨i, h, rfl⟩ | ⟨i, h, rfl⟩)
    · left; omega
    · right; omega
  · rintro (h | h)
    · exact .inl ⟨(s - 1).toNat, by omega, by omega⟩
    · exact .inr ⟨(s - 100).toNat, by omega, by omega⟩
theorem nextS_len (all : List StP) (items : List It) (sym : Int) : all.length ≤ (nextS all items sym).length ∧ (nextS all items sym).length ≤ all.length + 1 := by
  unfold nextS; split <;> simp
theorem leadS_len (go : List It → Int → List It) (k : Nat) (all : List StP) (sym : Int) : all.length ≤ (leadS go k all sym).length ∧ (leadS go k all sym).length ≤ all.length + 1 := by
  unfold leadS
  split
  · exact ⟨Nat.le_refl _, by omega⟩
  · unfold linkS; rw [List.length_modify]; exact nextS_len _ _ _
theorem leadAll_len (go : List It → Int → List It) (k : Nat) : ∀ (syms : List Int) (all : List StP), all.length ≤ (leadAll go syms k all).length ∧ (leadAll go syms k all).length ≤ all.length + syms.length
  | [], all => by simp [leadAll]
  | s :: l, all => by
    have h1 := leadS_len go k all s
    have h2 := leadAll_len go k l (leadS go k all s)
    have e : leadAll go (s :: l) k all = leadAll go l k (leadS go k all s) := rfl
    rw [e, List.length_cons]
    omega
end Go.Proofs.YtejjdfmobiegdaaDoor
