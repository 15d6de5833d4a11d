/- states: a grammar's maker, reckoned; machines by hand. No program here. -/
import Derived.Test.YtejjdfmobiegdaaDoorStQ
import Derived.Test.YtejjdfmobiegdaaDoorGS
set_option linter.unusedVariables false
namespace Go.Proofs.YtejjdfmobiegdaaDoor
open Go.RowKit
open Doc

def fruC (g : Gr) : Nat := iterG (gsF bearI g.prods) 0 g.nons.length
def trimC (g : Gr) : List Int := trimF (fruC g) g.prods 0
def putM (g : Gr) (M : MakR) (x : Int) : MakR := match g.prods[x.toNat]? with
  | some q => { M with rights := M.rights.set x.toNat ⟨none, 0, q.2⟩, of := M.of.set (q.1 - 100).toNat (M.of.getD (q.1 - 100).toNat 0 ||| sdig x) }
  | none => M
def mak1 (g : Gr) : MakR := ⟨g.terms.length, none, 0, List.replicate g.prods.length ⟨none, 0, []⟩, none, 0, zerosF g.nons.length, ofL (trimC g), .int .i64 0⟩
def makC (g : Gr) : MakR := (trimC g).foldl (putM g) (mak1 g)
theorem makC_st {g : Gr} (hc : CheckG g) : ∀ (l : List Int) (k : Nat) (M : MakR), NewSt g (trimC g) k M → (∀ j, l[j]? = (trimC g)[k + j]?) → NewSt g (trimC g) (k + l.length) (l.foldl (putM g) M)
  | [], k, M, h, _ => h
  | x :: l, k, M, h, hl => by
    have hx : (trimC g)[k]? = some x := (hl 0).symm
    obtain ⟨j, q, hq, _, hxj⟩ := (trimF_mem (fruC g) g.prods 0 x).1 (List.mem_of_getElem? hx)
    obtain rfl : x = (j : Int) := by omega
    have hpv := (hc.pv q (List.mem_of_getElem? hq)).1
    have hjl := (List.getElem?_eq_some_iff.1 hq).1
    have hst := h.step (j := j) (q := q) hx hq (by have := hc.p24; omega) (nn := (q.1 - 100).toNat) (by omega) (by omega) (r := ⟨none, 0, q.2⟩) rfl
    have e : putM g M (j : Int) = { M with rights := M.rights.set j ⟨none, 0, q.2⟩, of := M.of.set (q.1 - 100).toNat (M.of.getD (q.1 - 100).toNat 0 ||| sdig (j : Int)) } := by
      unfold putM
      rw [Int.toNat_natCast, hq]
    have := makC_st hc l (k + 1) (putM g M (j : Int)) (by rw [e]; exact hst) fun i => by
      have := hl (i + 1)
      rw [List.getElem?_cons_succ] at this
      rw [this, show k + (i + 1) = k + 1 + i by omega]
    rw [List.foldl_cons, List.length_cons, show k + (l.length + 1) = k + 1 + l.length by omega]
    exact this
theorem makC_is {g : Gr} (hc : CheckG g) : MakG g (makC g) := by
  have h := makC_st hc (trimC g) 0 (mak1 g) (NewSt.first g (trimC g) _ _ _ _ _) fun j => by rw [Nat.zero_add]
  rw [Nat.zero_add] at h
  exact h.done hc (rfru_is hc)
def fC (g : Gr) : List Nat := iterL (growF g.terms.length g.prods (trimC g)) (zerosF g.nons.length) (g.nons.length * (g.terms.length + 1) + 1)
def fixB (g : Gr) : Bool := decide (growF g.terms.length g.prods (trimC g) (fC g) = fC g)
def kC (g : Gr) : MkP := mkP (makC g) (fC g)
theorem kC_is {g : Gr} (hc : CheckG g) (hf : fixB g = true) : MkOf g (kC g) :=
  ⟨makC g, fC g, rfl, makC_is hc, first_is hc (rfru_is hc) rfl (of_decide_eq_true hf)⟩
theorem fru_C {g : Gr} (hc : CheckG g) : (fruC g).testBit 0 = true ↔ Fru g 100 := ((rfru_is hc).2 0).trans (by simp)
def goodC (n : Nat) : Gr := match parse (textsL.getD n []) with
  | .ok g => g
  | .bad _ _ _ => ⟨[], [], []⟩
end Go.Proofs.YtejjdfmobiegdaaDoor
