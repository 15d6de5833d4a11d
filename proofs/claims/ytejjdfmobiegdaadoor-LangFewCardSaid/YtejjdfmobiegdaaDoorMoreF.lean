/- A production more: what holds then. No program here. -/
import Derived.Test.YtejjdfmobiegdaaDoorFirstS
import Derived.Test.YtejjdfmobiegdaaDoorReach
import Derived.Test.YtejjdfmobiegdaaDoorSpec
import Derived.Test.YtejjdfmobiegdaaDoorChk
set_option linter.unusedVariables false
namespace Go.Proofs.YtejjdfmobiegdaaDoor
open Go.RowKit
open Doc

def moreG (g : Gr) (p : Int × List Int) : Gr := ⟨g.terms, g.nons, g.prods ++ [p]⟩
section
variable {g : Gr} {p : Int × List Int}
theorem more_mem {q : Int × List Int} (h : q ∈ g.prods) : q ∈ (moreG g p).prods := List.mem_append.2 (.inl h)
theorem nul_more {x : Int} (h : Nul g x) : Nul (moreG g p) x := by
  induction h with
  | mk q hq _ ih => exact .mk q (more_mem hq) ih
theorem fru_more {x : Int} (h : Fru g x) : Fru (moreG g p) x := by
  induction h with
  | mk q hq _ ih => exact .mk q (more_mem hq) ih
theorem rea_more {x : Int} (h : Rea g x) : Rea (moreG g p) x := by
  induction h with
  | start => exact .start
  | step q s hq _ hs h100 ih => exact .step q s (more_mem hq) ih hs h100
theorem usable_more {q : Int × List Int} (h : Usable g q) : Usable (moreG g p) q := fun s hs h100 => fru_more (h s hs h100)
theorem sub_less {a b : Nat} (ha : a < 18446744073709551616) (hb : b < 18446744073709551616) (h : Sub a b) : sless a b = 0 := Nat.eq_of_testBit_eq fun i => by
  rw [bit_less a b i ha hb, Nat.zero_testBit, Bool.eq_false_iff]
  intro hi
  rw [Bool.and_eq_true] at hi
  rw [h i hi.1] at hi
  simp at hi
theorem trim_more {S T : Nat} (hn : NumsOk g) (hm : NumsOk (moreG g p)) (hS : SetIs S (Fru g)) (hT : SetIs T (Fru (moreG g p))) : sless (ofL (trimF S g.prods 0)) (ofL (trimF T (moreG g p).prods 0)) = 0 := by
  refine sub_less (ofL_lt _) (ofL_lt _) fun i hi => ?_
  rw [bit_ofL, decide_eq_true_eq] at hi ⊢
  obtain ⟨hi, h64⟩ := hi
  refine ⟨?_, h64⟩
  obtain ⟨j, q, hj, hb, e⟩ := (trimF_mem S g.prods 0 _).1 hi
  have hq := List.mem_of_getElem? hj
  refine (trimF_mem T _ 0 _).2 ⟨j, q, ?_, (usable_bear hm hT (more_mem hq)).2 (usable_more ((usable_bear hn hS hq).1 hb)), e⟩
  show (g.prods ++ [p])[j]? = _
  rw [List.getElem?_append_left (List.getElem?_eq_some_iff.1 hj).1, hj]
theorem first_more {F G : List Nat} (hF : FirstIs g F) (hG : FirstIs (moreG g p) G) : SubF F G :=
  hF.least G hG.len hG.low fun q hq hu => hG.closed q (more_mem hq) (usable_more hu)
end
theorem of_one {t : Nat} {F : List Nat} (s : Int) : ofF t F [s] 1 = aloneF t F s := by
  show (if aloneF t F s = 0 then 0 else goOnF 1 (aloneF t F s)) = _
  split
  · rename_i h; exact h.symm
  · exact goOn_one
theorem alone_non {t : Nat} (ht : t ≤ 63) {F : List Nat} {i : Nat} (hi : i < F.length) : aloneF t F (100 + (i : Int)) = F.getD i 0 := by
  unfold aloneF
  rw [if_neg (by omega), if_pos (by omega)]
  congr 1; omega
theorem okB_iff (g : Gr) : okB g = true ↔ CheckG g := by
  rw [← allOk_iff]
  by_cases h : AllOk g
  · rw [okB_true h]; simp [h]
  · rw [okB_false h]; simp [h]

theorem gram_parts {w : World} {at_ an ap : Option Addr} {ct cn cp n : Nat} {g : Gr} (h : GramAt w (.agg #[.slice at_ g.terms.length ct, .slice an g.nons.length cn, .slice ap n cp]) g) : Cells w at_ (strs g.terms) ∧ Cells w an (strs g.nons) ∧ g.terms.length ≤ ct ∧ g.nons.length ≤ cn := by
  obtain ⟨a1, a2, a3, c1, c2, c3, ls, hv, hp, h1, h2, h3, h4, h5, h6, h7⟩ := h
  simp only [Value.agg.injEq, Array.mk.injEq, List.cons.injEq, Value.slice.injEq] at hv
  obtain ⟨⟨rfl, _, rfl⟩, ⟨rfl, _, rfl⟩, _⟩ := hv
  exact ⟨h1, h2, h5, h6⟩
theorem lays_len (l : List Lay) : (lays l).length = l.length * 2 := by
  induction l with
  | nil => rfl
  | cons p l ih => show ([_, _] ++ lays l).length = _; rw [List.length_append, ih]; simp; omega

end Go.Proofs.YtejjdfmobiegdaaDoor
