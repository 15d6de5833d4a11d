/- ReachForms: its grammars, in plain words. No program here. -/
import Derived.Test.YtejjdfmobiegdaaDoorReach
import Derived.Test.YtejjdfmobiegdaaDoorGParse
set_option linter.unusedVariables false
namespace Go.Proofs.YtejjdfmobiegdaaDoor
open Go.RowKit
open Doc

def fg0 : Gr := ⟨[[97], [98]], [[83], [65], [66], [85], [86]], [(100, [101, 102]), (100, [1, 103]), (101, []), (101, [1]), (102, [101, 101]), (103, [103, 2]), (104, [1, 104]), (104, [2])]⟩
def fgH : Gr := ⟨[[97], [98]], [[83], [84]], [(100, [1, 100]), (100, [101, 100]), (101, [2])]⟩
def swapL {α : Type} (l : List α) (k : Nat) : List α := match l[0]?, l[k]? with
  | some a, some b => (l.set 0 b).set k a
  | _, _ => l
def fgK (k : Nat) : Gr := ⟨fg0.terms, fg0.nons, swapL fg0.prods k⟩
theorem fg0_parse : parse [83, 58, 32, 65, 32, 66, 32, 124, 32, 97, 32, 85, 10, 65, 58, 32, 124, 32, 97, 10, 66, 58, 32, 65, 32, 65, 10, 85, 58, 32, 85, 32, 98, 10, 86, 58, 32, 97, 32, 86, 32, 124, 32, 98, 10] = .ok fg0 := by decide +kernel
theorem fgH_parse : parse [83, 58, 32, 97, 32, 83, 32, 124, 32, 84, 32, 83, 10, 84, 58, 32, 98, 10] = .ok fgH := by decide +kernel
theorem nul_val {g : Gr} (hc : CheckG g) {n : Nat} (h : iterS (leftsF g.prods vanI) 0 8 = n ∧ n ||| leftsF g.prods vanI n = n) : SetIs n (Nul g) := nul_is (nums_of_check hc) ⟨⟨8, h.1.symm⟩, h.2⟩
theorem fru_val {g : Gr} (hc : CheckG g) {n : Nat} (h : iterS (leftsF g.prods bearI) 0 8 = n ∧ n ||| leftsF g.prods bearI n = n) : SetIs n (Fru g) := fru_is (nums_of_check hc) ⟨⟨8, h.1.symm⟩, h.2⟩
theorem rea_val {g : Gr} (hc : CheckG g) {n : Nat} (h : iterS (namedF g.prods) 1 8 = n ∧ n ||| namedF g.prods n = n) : SetIs n (Rea g) := rea_is (nums_of_check hc) ⟨⟨8, h.1.symm⟩, h.2⟩
theorem fgK_check : ∀ k : Fin 8, ChkP (fgK k.val) := by decide +kernel
theorem fgK_nul : ∀ k : Fin 8, iterS (leftsF (fgK k.val).prods vanI) 0 8 = 7 ∧ 7 ||| leftsF (fgK k.val).prods vanI 7 = 7 := by decide +kernel
theorem fgK_fru : ∀ k : Fin 8, iterS (leftsF (fgK k.val).prods bearI) 0 8 = 23 ∧ 23 ||| leftsF (fgK k.val).prods bearI 23 = 23 := by decide +kernel
theorem fgK_rea : ∀ k : Fin 8, iterS (namedF (fgK k.val).prods) 1 8 = 15 ∧ 15 ||| namedF (fgK k.val).prods 15 = 15 := by decide +kernel
structure RVals (g : Gr) : Prop where
  c : CheckG g
  n : SetIs 7 (Nul g)
  f : SetIs 23 (Fru g)
  r : SetIs 15 (Rea g)
theorem fgK_vals (k : Nat) (hk : k < 8) : RVals (fgK k) := by
  have hc := (chk_iff _).1 (fgK_check ⟨k, hk⟩)
  exact ⟨hc, nul_val hc (fgK_nul ⟨k, hk⟩), fru_val hc (fgK_fru ⟨k, hk⟩), rea_val hc (fgK_rea ⟨k, hk⟩)⟩
theorem fg0_vals : RVals fg0 := fgK_vals 0 (by decide)
theorem fg0_trim : trimF 23 fg0.prods 0 = [0, 2, 3, 4, 6, 7] := by decide
theorem fgH_check : CheckG fgH := (chk_iff _).1 (by decide +kernel)
theorem fgH_fru : SetIs 2 (Fru fgH) := fru_val fgH_check (by decide +kernel)
theorem fgH_nul : SetIs 0 (Nul fgH) := nul_val fgH_check (by decide +kernel)
theorem lays_set : ∀ (l : List Lay) (j : Nat) (p : Lay), lays (l.set j p) = ((lays l).set (j * 2) (.int .i64 p.left)).set (j * 2 + 1) (.slice p.addr p.right.length p.cap)
  | [], j, p => by simp [lays]
  | q :: l, 0, p => by simp [lays]
  | q :: l, j + 1, p => by
    have ih := lays_set l j p
    show [_, _] ++ lays (l.set j p) = (([_, _] ++ lays l).set _ _).set _ _
    rw [ih, List.set_append_right _ _ (by simp; omega), List.set_append_right _ _ (by simp; omega)]
    have e1 : (j + 1) * 2 - [Value.int .i64 q.left, .slice q.addr q.right.length q.cap].length = j * 2 := by simp; omega
    have e2 : (j + 1) * 2 + 1 - [Value.int .i64 q.left, .slice q.addr q.right.length q.cap].length = j * 2 + 1 := by simp; omega
    rw [e1, e2]

end Go.Proofs.YtejjdfmobiegdaaDoor
