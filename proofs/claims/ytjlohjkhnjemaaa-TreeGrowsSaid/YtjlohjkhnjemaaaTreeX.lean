/- A leaf of a tree that is grown by a production: plain. -/
import Derived.Test.YtjlohjkhnjemaaaTreeS
set_option linter.unusedVariables false
namespace Go.Proofs.Ytjlohjkhnjemaaa
open Go.RowKit
open Doc

def leafOf (x : Int) : Tr := .mk x (-1) []
mutual
def growT (p : Int) (rt : List Int) : Tr → Int → Tr × Int
  | .mk s q ks, k => if q = -1 then (if k = 0 then (.mk s p (rt.map leafOf), k - 1) else (.mk s q ks, k - 1)) else (.mk s q (growK p rt ks k).1, (growK p rt ks k).2)
def growK (p : Int) (rt : List Int) : List Tr → Int → List Tr × Int
  | [], k => ([], k)
  | t :: l, k => if 0 ≤ k then ((growT p rt t k).1 :: (growK p rt l (growT p rt t k).2).1, (growK p rt l (growT p rt t k).2).2) else (t :: l, k)
end
theorem growK_neg (p : Int) (rt : List Int) (l : List Tr) (k : Int) (h : k < 0) : growK p rt l k = (l, k) := by
  cases l with
  | nil => rfl
  | cons t l => rw [growK, if_neg (by omega)]
theorem grow_far (p : Int) (rt : List Int) (t : Tr) : ∀ k : Int, ((leavesT t).length : Int) ≤ k → growT p rt t k = (t, k - (leavesT t).length) := by
  induction t using Tr.ind with
  | h s q ks ih =>
    intro k hk
    by_cases h : q = -1
    · simp only [growT, leavesT, if_pos h] at *
      simp at hk
      rw [if_neg (by omega)]
      rfl
    · simp only [growT, leavesT, if_neg h] at *
      have aux : ∀ l : List Tr, (∀ t ∈ l, ∀ k : Int, ((leavesT t).length : Int) ≤ k → growT p rt t k = (t, k - (leavesT t).length)) → ∀ k : Int, ((leavesK l).length : Int) ≤ k → growK p rt l k = (l, k - (leavesK l).length) := by
        intro l
        induction l with
        | nil => intro _ k _; simp [growK, leavesK]
        | cons t l ih2 =>
          intro hi k hk
          simp only [leavesK, List.length_append] at hk ⊢
          have h1 := hi t List.mem_cons_self k (by omega)
          have h2 := ih2 (fun t ht => hi t (List.mem_cons_of_mem _ ht)) (k - (leavesT t).length) (by omega)
          rw [growK, if_pos (by omega), h1]
          simp only
          rw [h2]
          simp only [Prod.mk.injEq, true_and]
          omega
      rw [aux ks ih k hk]

theorem leaves_leaf : ∀ rt : List Int, leavesK (rt.map leafOf) = rt
  | [] => rfl
  | x :: l => by rw [List.map_cons, leavesK, leaves_leaf l]; simp [leafOf, leavesT]
theorem size_leaf : ∀ rt : List Int, sizeK (rt.map leafOf) = rt.length
  | [] => rfl
  | x :: l => by rw [List.map_cons, sizeK, size_leaf l]; simp [leafOf, sizeT, sizeK]; omega
theorem sym_leaf (rt : List Int) : (rt.map leafOf).map Tr.sym = rt := by
  rw [List.map_map]
  have : Tr.sym ∘ leafOf = id := rfl
  rw [this, List.map_id]
theorem sym_right {g : Gr} (h : CheckG g) {n : Nat} {q : Int × List Int} (hq : g.prods[n]? = some q) : ∀ x ∈ q.2, symB g x = true := by
  intro x hx
  have h1 := (h.pv q (List.mem_of_getElem? hq)).2.2 x hx
  unfold symOk at h1
  unfold symB nonB
  simp
  omega
theorem take_app_lt {α : Type} (a b : List α) (k : Nat) (h : k < a.length) : (a ++ b).take k = a.take k ∧ (a ++ b).drop (k + 1) = a.drop (k + 1) ++ b :=
  ⟨List.take_append_of_le_length (by omega), List.drop_append_of_le_length (by omega)⟩
theorem take_app_ge {α : Type} (a b : List α) (k : Nat) : (a ++ b).take (a.length + k) = a ++ b.take k ∧ (a ++ b).drop (a.length + k + 1) = b.drop (k + 1) := by
  constructor
  · rw [List.take_append, List.take_of_length_le (by omega), show a.length + k - a.length = k by omega]
  · rw [List.drop_append]
    rw [List.drop_of_length_le (by omega), show a.length + k + 1 - a.length = k + 1 by omega]; rfl

/-- What a grown leaf's tree is. -/
structure GrownT (g : Gr) (n : Nat) (rt : List Int) (t u : Tr) (k : Nat) (root : Int) : Prop where
  lv : leavesT u = (leavesT t).take k ++ rt ++ (leavesT t).drop (k + 1)
  sz : sizeT u = sizeT t + rt.length
  ck : checkT g u root = true
theorem grow_near {g : Gr} (hcg : CheckG g) {n : Nat} {x : Int} {rt : List Int} (hq : g.prods[n]? = some (x, rt)) (t : Tr) : ∀ (k : Nat) (root : Int), (leavesT t)[k]? = some x → checkT g t root = true → (growT n rt t k).2 = -1 ∧ GrownT g n rt t (growT n rt t k).1 k root := by
  induction t using Tr.ind with
  | h s q ks ih =>
    intro k root hk hc
    obtain ⟨rfl, hcase⟩ := check_cases hc
    rcases hcase with ⟨rfl, rfl, hs⟩ | ⟨m, rfl, hm, hks⟩
    · simp only [growT, leavesT, if_true] at hk ⊢
      obtain rfl : k = 0 := by have := (List.getElem?_eq_some_iff.1 hk).1; simp at this; exact this
      simp only [List.getElem?_cons_zero, Option.some.injEq] at hk
      subst hk
      have e : (((0 : Nat) : Int) = 0) := rfl
      rw [if_pos e]
      refine ⟨rfl, ⟨?_, ?_, ?_⟩⟩
      · simp only [leavesT, if_neg (show ¬ ((n : Int) = -1) by omega), leaves_leaf, if_true]; simp
      · simp only [sizeT, size_leaf, sizeK]
      · refine check_node (by rw [sym_leaf]; exact hq) ?_
        intro t ht
        obtain ⟨y, hy, rfl⟩ := List.mem_map.1 ht
        exact check_leaf (sym_right hcg hq y hy)
    · have hm1 : ¬ ((m : Int) = -1) := by omega
      simp only [growT, leavesT, if_neg hm1] at hk ⊢
      have aux : ∀ l : List Tr, (∀ t ∈ l, ∀ (k : Nat) (root : Int), (leavesT t)[k]? = some x → checkT g t root = true → (growT n rt t k).2 = -1 ∧ GrownT g n rt t (growT n rt t k).1 k root) → (∀ t ∈ l, checkT g t t.sym = true) → ∀ k : Nat, (leavesK l)[k]? = some x →
          (growK n rt l k).2 = -1 ∧ leavesK (growK n rt l k).1 = (leavesK l).take k ++ rt ++ (leavesK l).drop (k + 1) ∧ sizeK (growK n rt l k).1 = sizeK l + rt.length ∧ (∀ t ∈ (growK n rt l k).1, checkT g t t.sym = true) ∧ (growK n rt l k).1.map Tr.sym = l.map Tr.sym := by
        intro l
        induction l with
        | nil => intro _ _ k hk; simp [leavesK] at hk
        | cons t l ih2 =>
          intro hi hcl k hk
          simp only [leavesK] at hk ⊢
          rw [growK, if_pos (by omega)]
          have hct := hcl t List.mem_cons_self
          by_cases hlt : k < (leavesT t).length
          · rw [List.getElem?_append_left hlt] at hk
            obtain ⟨h1, h2⟩ := hi t List.mem_cons_self k _ hk hct
            simp only [h1]
            rw [growK_neg n rt l (-1) (by omega)]
            obtain ⟨e1, e2⟩ := take_app_lt (leavesT t) (leavesK l) k hlt
            have hsy : (growT n rt t k).1.sym = t.sym := by
              have := h2.ck
              generalize (growT n rt t k).1 = u at this
              obtain ⟨a, b, c⟩ := u
              exact (check_cases this).1
            refine ⟨rfl, ?_, ?_, ?_, ?_⟩
            · simp only [leavesK]; rw [h2.lv, e1, e2]; simp
            · simp only [sizeK]; rw [h2.sz]; omega
            · intro u hu
              rcases List.mem_cons.1 hu with e | e
              · rw [e, hsy]; exact h2.ck
              · exact hcl u (List.mem_cons_of_mem _ e)
            · simp only [List.map_cons]; rw [hsy]
          · obtain ⟨j, rfl⟩ : ∃ j, k = (leavesT t).length + j := ⟨k - (leavesT t).length, by omega⟩
            rw [List.getElem?_append_right (by omega), show (leavesT t).length + j - (leavesT t).length = j by omega] at hk
            have h1 := grow_far n rt t (((leavesT t).length + j : Nat) : Int) (by omega)
            rw [show (((leavesT t).length + j : Nat) : Int) - ((leavesT t).length : Int) = (j : Int) by omega] at h1
            obtain ⟨i1, i2, i3, i4, i5⟩ := ih2 (fun t ht => hi t (List.mem_cons_of_mem _ ht)) (fun t ht => hcl t (List.mem_cons_of_mem _ ht)) j hk
            obtain ⟨e1, e2⟩ := take_app_ge (leavesT t) (leavesK l) j
            rw [h1]
            simp only
            refine ⟨i1, ?_, ?_, ?_, ?_⟩
            · simp only [leavesK]; rw [i2, e1, e2]; simp
            · simp only [sizeK]; rw [i3]; omega
            · intro u hu
              rcases List.mem_cons.1 hu with e | e
              · rw [e]; exact hct
              · exact i4 u e
            · simp only [List.map_cons]; rw [i5]
      obtain ⟨i1, i2, i3, i4, i5⟩ := aux ks ih hks k hk
      refine ⟨i1, ⟨?_, ?_, ?_⟩⟩
      · simp only [leavesT, if_neg hm1]; exact i2
      · simp only [sizeT]; rw [i3]; omega
      · exact check_node (by rw [i5]; exact hm) i4
theorem grown_ne {g : Gr} {n : Nat} {rt : List Int} {t u : Tr} {k : Nat} {root : Int} (h : GrownT g n rt t u k root) (hk : k < (leavesT t).length) : sameT t u = false := by
  rw [Bool.eq_false_iff]
  intro e
  have e := (same_iff t u).1 e
  subst e
  have h1 := h.sz
  have h2 := congrArg List.length h.lv
  simp only [List.length_append, List.length_take, List.length_drop] at h2
  omega
theorem grow_size (p : Int) (rt : List Int) (t : Tr) : ∀ k : Int, sizeT (growT p rt t k).1 ≤ sizeT t + sizeT t * rt.length := by
  induction t using Tr.ind with
  | h s q ks ih =>
    intro k
    by_cases h : q = -1
    · simp only [growT, if_pos h]
      split
      · simp only [sizeT, size_leaf]
        have : 1 * rt.length ≤ (1 + sizeK ks) * rt.length := Nat.mul_le_mul_right _ (by omega)
        omega
      · simp only; omega
    · simp only [growT, if_neg h]
      have aux : ∀ l : List Tr, (∀ t ∈ l, ∀ k : Int, sizeT (growT p rt t k).1 ≤ sizeT t + sizeT t * rt.length) → ∀ k : Int, sizeK (growK p rt l k).1 ≤ sizeK l + sizeK l * rt.length := by
        intro l
        induction l with
        | nil => intro _ k; simp [growK, sizeK]
        | cons t l ih2 =>
          intro hi k
          rw [growK]
          split
          · have h1 := hi t List.mem_cons_self k
            have h2 := ih2 (fun t ht => hi t (List.mem_cons_of_mem _ ht)) (growT p rt t k).2
            simp only [sizeK, Nat.add_mul]
            omega
          · simp only; omega
      have := aux ks ih k
      simp only [sizeT, Nat.add_mul]
      omega

end Go.Proofs.Ytjlohjkhnjemaaa
