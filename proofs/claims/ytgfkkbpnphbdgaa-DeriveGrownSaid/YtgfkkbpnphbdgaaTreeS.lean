/- Trees as plain data: what they must be, their leaves, size, text, where a production stands; and trees as they lie in memory. -/
import Derived.Test.YtgfkkbpnphbdgaaForm
set_option linter.unusedVariables false
namespace Go.Proofs.Ytgfkkbpnphbdgaa
open Go.RowKit
open Doc

/-- A tree. -/
inductive Tr where
  | mk (sym prod : Int) (kids : List Tr)
def Tr.sym : Tr → Int | .mk s _ _ => s
def Tr.prod : Tr → Int | .mk _ p _ => p
def Tr.kids : Tr → List Tr | .mk _ _ ks => ks

theorem Tr.ind {C : Tr → Prop} (h : ∀ s p ks, (∀ k ∈ ks, C k) → C (.mk s p ks)) : ∀ t, C t
  | .mk s p ks => h s p ks (aux ks)
where aux : ∀ (ks : List Tr), ∀ k ∈ ks, C k
  | [], k, hk => by cases hk
  | t :: l, k, hk => by
    rcases List.mem_cons.1 hk with e | e
    · rw [e]; exact Tr.ind h t
    · exact aux l k e

mutual
def sizeT : Tr → Nat | .mk _ _ ks => 1 + sizeK ks
def sizeK : List Tr → Nat | [] => 0 | t :: l => sizeT t + sizeK l
end
mutual
def leavesT : Tr → List Int | .mk s p ks => if p = -1 then [s] else leavesK ks
def leavesK : List Tr → List Int | [] => [] | t :: l => leavesT t ++ leavesK l
end
mutual
def checkT (g : Gr) : Tr → Int → Bool
  | .mk s p ks, root => if s = root then (if p = -1 then ks.isEmpty && symB g s else if p < 0 then false else
      match g.prods[p.toNat]? with
      | none => false
      | some q => if q.1 = s ∧ q.2.length = ks.length then checkK g ks q.2 else false) else false
def checkK (g : Gr) : List Tr → List Int → Bool
  | [], _ => true
  | _ :: _, [] => true
  | t :: l, x :: r => checkT g t x && checkK g l r
end
mutual
def textT (g : Gr) : Tr → List UInt8 | .mk s p ks => if p = -1 then nameG g s else (40 :: nameG g s) ++ (textK g ks ++ [41])
def textK (g : Gr) : List Tr → List UInt8 | [] => [] | t :: l => (32 :: textT g t) ++ textK g l
end
mutual
def sameT : Tr → Tr → Bool | .mk s p ks, .mk s' p' ks' => if s = s' ∧ p = p' ∧ ks.length = ks'.length then sameK ks ks' else false
def sameK : List Tr → List Tr → Bool | [], _ => true | _ :: _, [] => true | t :: l, t' :: l' => sameT t t' && sameK l l'
end

theorem sizeT_pos (t : Tr) : 1 ≤ sizeT t := by cases t; simp only [sizeT]; omega
theorem sizeK_len : ∀ ks : List Tr, ks.length ≤ sizeK ks
  | [] => by simp [sizeK]
  | t :: l => by have := sizeK_len l; have := sizeT_pos t; simp only [sizeK, List.length_cons]; omega
theorem sizeK_mem : ∀ {ks : List Tr} {k : Tr}, k ∈ ks → sizeT k ≤ sizeK ks
  | t :: l, k, h => by
    simp only [sizeK]
    rcases List.mem_cons.1 h with e | e
    · rw [e]; omega
    · have := sizeK_mem e; omega
theorem sizeK_app : ∀ a b : List Tr, sizeK (a ++ b) = sizeK a + sizeK b
  | [], b => by simp [sizeK]
  | t :: l, b => by simp only [List.cons_append, sizeK, sizeK_app l b]; omega
theorem leavesK_app : ∀ a b : List Tr, leavesK (a ++ b) = leavesK a ++ leavesK b
  | [], b => by simp [leavesK]
  | t :: l, b => by simp only [List.cons_append, leavesK, leavesK_app l b, List.append_assoc]
theorem leaves_size (t : Tr) : (leavesT t).length ≤ sizeT t := by
  induction t using Tr.ind with
  | h s p ks ih =>
    have aux : ∀ l : List Tr, (∀ k ∈ l, (leavesT k).length ≤ sizeT k) → (leavesK l).length ≤ sizeK l := by
      intro l
      induction l with
      | nil => intro _; simp [leavesK]
      | cons t l ih2 =>
        intro h
        have h1 := h t List.mem_cons_self
        have h2 := ih2 (fun k hk => h k (List.mem_cons_of_mem _ hk))
        simp only [leavesK, sizeK, List.length_append]; omega
    have := aux ks ih
    simp only [leavesT, sizeT]
    split
    · simp
    · omega
theorem leavesK_size (ks : List Tr) : (leavesK ks).length ≤ sizeK ks := by
  induction ks with
  | nil => simp [leavesK]
  | cons t l ih =>
    have := leaves_size t
    simp only [leavesK, sizeK, List.length_append]; omega

theorem same_iff (t : Tr) : ∀ u, sameT t u = true ↔ t = u := by
  induction t using Tr.ind with
  | h s p ks ih =>
    rintro ⟨s', p', ks'⟩
    have aux : ∀ l l' : List Tr, (∀ k ∈ l, ∀ u, sameT k u = true ↔ k = u) → l.length = l'.length → (sameK l l' = true ↔ l = l') := by
      intro l
      induction l with
      | nil =>
        intro l' _ hl
        have : l' = [] := List.eq_nil_of_length_eq_zero hl.symm
        subst this
        simp [sameK]
      | cons t l ih2 =>
        intro l' h hl
        cases l' with
        | nil => simp at hl
        | cons t' l' =>
          have h1 := h t List.mem_cons_self t'
          have h2 := ih2 l' (fun k hk => h k (List.mem_cons_of_mem _ hk)) (by simpa using hl)
          simp only [sameK, Bool.and_eq_true, List.cons.injEq, h1, h2]
    simp only [sameT]
    split
    · rename_i h
      obtain ⟨rfl, rfl, hl⟩ := h
      rw [aux ks ks' ih hl]
      simp
    · rename_i h
      constructor
      · intro e; cases e
      · intro e
        injection e with e1 e2 e3
        exact absurd ⟨e1, e2, by rw [e3]⟩ h

/-! Where a production stands. -/
def atHere (prod dot place p : Int) (ks : List Tr) (fr : Int) : Bool :=
  decide (p = prod) && decide (0 ≤ dot) && decide (dot ≤ (ks.length : Int)) && decide (fr + ((leavesK (ks.take dot.toNat)).length : Int) = place) && decide (0 ≤ prod)
mutual
def atT (prod dot place : Int) : Tr → Int → Bool
  | .mk s p ks, fr => if p = -1 then false else atHere prod dot place p ks fr || atK prod dot place ks fr
def atK (prod dot place : Int) : List Tr → Int → Bool
  | [], _ => false
  | t :: l, fr => atT prod dot place t fr || atK prod dot place l (fr + ((leavesT t).length : Int))
end
def isAtB (prod dot place p i fr : Int) : Bool := decide (p = prod) && decide (i = dot) && decide (fr = place)
mutual
def wiT (prod dot place : Int) : Tr → Int → Bool
  | .mk s p ks, fr => if p = -1 then false else wiK prod dot place p ks 0 fr
def wiK (prod dot place p : Int) : List Tr → Int → Int → Bool
  | [], i, fr => isAtB prod dot place p i fr
  | t :: l, i, fr => isAtB prod dot place p i fr || wiT prod dot place t fr || wiK prod dot place p l (i + 1) (fr + ((leavesT t).length : Int))
end
def hereK (prod dot place p : Int) (i : Int) (ks : List Tr) (fr : Int) : Bool :=
  decide (p = prod) && decide (i ≤ dot) && decide (dot ≤ i + (ks.length : Int)) && decide (fr + ((leavesK (ks.take (dot - i).toNat)).length : Int) = place)
theorem here_cons (prod dot place p i : Int) (t : Tr) (l : List Tr) (fr : Int) : hereK prod dot place p i (t :: l) fr = (isAtB prod dot place p i fr || hereK prod dot place p (i + 1) l (fr + ((leavesT t).length : Int))) := by
  unfold hereK isAtB
  rw [Bool.eq_iff_iff]
  simp only [Bool.and_eq_true, Bool.or_eq_true, decide_eq_true_eq, List.length_cons]
  by_cases h : i = dot
  · subst h
    simp [leavesK]
    omega
  · by_cases h1 : i < dot
    · have e : (dot - i).toNat = (dot - (i + 1)).toNat + 1 := by omega
      rw [e, List.take_succ_cons]
      simp only [leavesK, List.length_append]
      constructor
      · intro ⟨⟨⟨a, b⟩, c⟩, d⟩
        exact .inr ⟨⟨⟨a, by omega⟩, by push_cast at c ⊢; omega⟩, by push_cast at d ⊢; omega⟩
      · rintro (⟨⟨a, b⟩, c⟩ | ⟨⟨⟨a, b⟩, c⟩, d⟩)
        · exact absurd b h
        · exact ⟨⟨⟨a, by omega⟩, by push_cast at c ⊢; omega⟩, by push_cast at d ⊢; omega⟩
    · constructor
      · intro ⟨⟨⟨a, b⟩, c⟩, d⟩; omega
      · rintro (⟨⟨a, b⟩, c⟩ | ⟨⟨⟨a, b⟩, c⟩, d⟩) <;> omega
theorem wi_at (prod dot place : Int) (hp : 0 ≤ prod) (t : Tr) : ∀ fr, wiT prod dot place t fr = atT prod dot place t fr := by
  induction t using Tr.ind with
  | h s p ks ih =>
    intro fr
    have aux : ∀ (l : List Tr), (∀ k ∈ l, ∀ fr, wiT prod dot place k fr = atT prod dot place k fr) → ∀ i fr, wiK prod dot place p l i fr = (hereK prod dot place p i l fr || atK prod dot place l fr) := by
      intro l
      induction l with
      | nil =>
        intro _ i fr
        simp only [wiK, atK, Bool.or_false]
        unfold hereK isAtB
        rw [Bool.eq_iff_iff]
        simp [leavesK]
        omega
      | cons t l ih2 =>
        intro h i fr
        rw [wiK, atK, here_cons, h t List.mem_cons_self, ih2 (fun k hk => h k (List.mem_cons_of_mem _ hk))]
        cases isAtB prod dot place p i fr <;> cases atT prod dot place t fr <;> cases hereK prod dot place p (i + 1) l (fr + ((leavesT t).length : Int)) <;> cases atK prod dot place l (fr + ((leavesT t).length : Int)) <;> rfl
    have hh : hereK prod dot place p 0 ks fr = atHere prod dot place p ks fr := by
      unfold hereK atHere
      rw [Bool.eq_iff_iff]
      simp
      omega
    rw [wiT, atT, aux ks ih, hh]

/-! Reading. -/
def notSign (c : UInt8) : Bool := c != 32 && c != 40 && c != 41
def symR (g : Gr) (l : List UInt8) (n : Nat) : Option (Int × List UInt8 × Nat) :=
  if n < 400 ∧ (findG g (l.takeWhile notSign)).2 = true then some ((findG g (l.takeWhile notSign)).1, l.dropWhile notSign, n + 1) else none
def derP (s : Int) (ks : List Tr) (p : Int × List Int) : Bool := decide (p.1 = s) && decide (p.2 = ks.map Tr.sym)
def derOf (g : Gr) (s : Int) (ks : List Tr) : Option Nat := g.prods.findIdx? (derP s ks)
mutual
def rdT (g : Gr) : Nat → List UInt8 → Nat → Option (Tr × List UInt8 × Nat)
  | 0, _, _ => none
  | f + 1, l, n => if l.head? = some 40 then
      match symR g (l.drop 1) n with
      | none => none
      | some x => match rdK g f x.2.1 x.2.2 with
        | none => none
        | some y => if y.2.1.head? = some 41 then
            match derOf g x.1 y.1 with
            | none => none
            | some p => some (.mk x.1 p y.1, y.2.1.drop 1, y.2.2)
          else none
    else match symR g l n with
      | none => none
      | some x => if x.1 = 0 then none else some (.mk x.1 (-1) [], x.2.1, x.2.2)
def rdK (g : Gr) : Nat → List UInt8 → Nat → Option (List Tr × List UInt8 × Nat)
  | 0, _, _ => none
  | f + 1, l, n => if l.head? = some 32 then
      match rdT g f (l.drop 1) n with
      | none => none
      | some x => match rdK g f x.2.1 x.2.2 with
        | none => none
        | some y => some (x.1 :: y.1, y.2.1, y.2.2)
    else some ([], l, n)
end
/-- What a text says. -/
def readG (g : Gr) (l : List UInt8) : Option Tr :=
  match rdT g (l.length + 1) l 0 with
  | none => none
  | some x => if x.2.1 = [] then some x.1 else none

theorem symR_ok {g : Gr} {l : List UInt8} {n : Nat} {x : Int × List UInt8 × Nat} (h : symR g l n = some x) : n < 400 ∧ x.2.2 = n + 1 ∧ findG g (l.takeWhile notSign) = (x.1, true) ∧ x.2.1 = l.dropWhile notSign := by
  unfold symR at h
  split at h
  · rename_i hc
    cases h
    exact ⟨hc.1, rfl, Prod.ext rfl hc.2, rfl⟩
  · cases h
theorem symR_len {g : Gr} {l : List UInt8} {n : Nat} {x : Int × List UInt8 × Nat} (h : symR g l n = some x) : x.2.1.length ≤ l.length := by
  rw [(symR_ok h).2.2.2]
  exact (List.dropWhile_suffix _).length_le

theorem rd_len (g : Gr) : ∀ f l n, (∀ x, rdT g f l n = some x → x.2.1.length ≤ l.length) ∧ (∀ x, rdK g f l n = some x → x.2.1.length ≤ l.length)
  | 0, l, n => ⟨fun x h => by simp [rdT] at h, fun x h => by simp [rdK] at h⟩
  | f + 1, l, n => by
    constructor
    · intro x h
      simp only [rdT] at h
      split at h
      · cases hs : symR g (l.drop 1) n with
        | none => rw [hs] at h; cases h
        | some y =>
          rw [hs] at h
          simp only at h
          have h1 := symR_len hs
          cases hk : rdK g f y.2.1 y.2.2 with
          | none => rw [hk] at h; cases h
          | some z =>
            rw [hk] at h
            simp only at h
            have h2 := (rd_len g f _ _).2 _ hk
            split at h
            · cases hd : derOf g y.1 z.1 with
              | none => rw [hd] at h; cases h
              | some p =>
                rw [hd] at h
                cases h
                simp only [List.length_drop] at h1 ⊢
                omega
            · cases h
      · cases hs : symR g l n with
        | none => rw [hs] at h; cases h
        | some y =>
          rw [hs] at h
          simp only at h
          have h1 := symR_len hs
          split at h
          · cases h
          · cases h; exact h1
    · intro x h
      simp only [rdK] at h
      split at h
      · cases ht : rdT g f (l.drop 1) n with
        | none => rw [ht] at h; cases h
        | some y =>
          rw [ht] at h
          simp only at h
          have h1 := (rd_len g f _ _).1 _ ht
          cases hk : rdK g f y.2.1 y.2.2 with
          | none => rw [hk] at h; cases h
          | some z =>
            rw [hk] at h
            have h2 := (rd_len g f _ _).2 _ hk
            cases h
            simp only [List.length_drop] at h1 ⊢
            omega
      · cases h; exact Nat.le_refl _

/-! A derivation's text says just it; what a text says is a derivation, and the text its. -/
theorem word_notSign {c : UInt8} (h : word c = true) : notSign c = true := by
  unfold notSign
  have h1 : c ≠ 32 := fun e => by rw [e] at h; exact absurd h (by decide)
  have h2 : c ≠ 40 := fun e => by rw [e] at h; exact absurd h (by decide)
  have h3 : c ≠ 41 := fun e => by rw [e] at h; exact absurd h (by decide)
  simp [h1, h2, h3]
theorem kind_signs {n : List UInt8} (h : kindOf n ≠ 0) : ∀ c ∈ n, notSign c = true := fun c hc => word_notSign (rowLen_all (name_row (kind_name h)).1 c hc)

/-- What begins with a sign, or is empty. -/
def Cut0 (R : List UInt8) : Prop := ∀ c l, R = c :: l → notSign c = false
theorem cut_name {n R : List UInt8} (hn : ∀ c ∈ n, notSign c = true) (hR : Cut0 R) : (n ++ R).takeWhile notSign = n ∧ (n ++ R).dropWhile notSign = R := by
  induction n with
  | nil =>
    cases R with
    | nil => exact ⟨rfl, rfl⟩
    | cons c l => have := hR c l rfl; simp [this]
  | cons c n ih =>
    have h1 := hn c List.mem_cons_self
    have h2 := ih (fun x hx => hn x (List.mem_cons_of_mem _ hx))
    simp only [List.cons_append, List.takeWhile_cons, List.dropWhile_cons, h1, if_true, h2.1, h2.2, and_self]

theorem name_kind {g : Gr} (h : CheckG g) {s : Int} (hs : symB g s = true) : kindOf (nameG g s) ≠ 0 ∧ findG g (nameG g s) = (s, true) := by
  have h8 := h.t8
  have hd : kindOf [36] = 0 := by decide
  unfold symB nonB at hs
  simp only [Bool.or_eq_true, Bool.and_eq_true, decide_eq_true_eq] at hs
  by_cases h1 : 1 ≤ s ∧ s ≤ (g.terms.length : Int)
  · obtain ⟨k, hk⟩ : ∃ k : Nat, s = (k : Int) + 1 := ⟨(s - 1).toNat, by omega⟩
    subst hk
    have hkl : k < g.terms.length := by omega
    have hg : g.terms[k]? = some g.terms[k] := List.getElem?_eq_getElem hkl
    have e : nameG g ((k : Int) + 1) = g.terms[k] := by
      unfold nameG
      rw [if_neg (by omega), if_pos h1, List.getD_eq_getElem?_getD, show ((k : Int) + 1 - 1).toNat = k by omega, hg]
      rfl
    have hk2 := h.tk _ (List.mem_of_getElem? hg)
    rw [e]
    refine ⟨by rw [hk2]; decide, ?_⟩
    unfold findG
    rw [if_neg (fun e2 => by rw [e2, hd] at hk2; cases hk2), idx_at h.tn hg]
  · have h2 : 100 ≤ s ∧ s < 100 + (g.nons.length : Int) := by omega
    obtain ⟨k, hk⟩ : ∃ k : Nat, s = 100 + (k : Int) := ⟨(s - 100).toNat, by omega⟩
    subst hk
    have hkl : k < g.nons.length := by omega
    have hg : g.nons[k]? = some g.nons[k] := List.getElem?_eq_getElem hkl
    have e : nameG g (100 + (k : Int)) = g.nons[k] := by
      unfold nameG
      rw [if_neg (by omega), if_neg h1, if_pos h2, List.getD_eq_getElem?_getD, show (100 + (k : Int) - 100).toNat = k by omega, hg]
      rfl
    have hk2 := h.nk _ (List.mem_of_getElem? hg)
    rw [e]
    refine ⟨by rw [hk2]; decide, ?_⟩
    unfold findG
    rw [if_neg (fun e2 => by rw [e2, hd] at hk2; cases hk2), idx_out (l := g.terms) (fun hm => by have := h.tk _ hm; rw [this] at hk2; cases hk2), idx_at h.nn hg]
theorem find_name {g : Gr} (h : CheckG g) {n : List UInt8} {s : Int} (hf : findG g n = (s, true)) : s = 0 ∨ (symB g s = true ∧ nameG g s = n) := by
  have h8 := h.t8
  unfold findG at hf
  split at hf
  · simp only [Prod.mk.injEq] at hf; exact .inl hf.1.symm
  · right
    cases hi : idx g.terms n with
    | some k =>
      rw [hi] at hf
      simp only [Prod.mk.injEq, and_true] at hf
      have hk := idx_some hi
      have hkl := (List.getElem?_eq_some_iff.1 hk).1
      subst hf
      refine ⟨by unfold symB; simp; omega, ?_⟩
      unfold nameG
      rw [if_neg (by omega), if_pos (by omega), List.getD_eq_getElem?_getD, show ((k : Int) + 1 - 1).toNat = k by omega, hk]
      rfl
    | none =>
      rw [hi] at hf
      simp only at hf
      cases hj : idx g.nons n with
      | some k =>
        rw [hj] at hf
        simp only [Prod.mk.injEq, and_true] at hf
        have hk := idx_some hj
        have hkl := (List.getElem?_eq_some_iff.1 hk).1
        subst hf
        refine ⟨by unfold symB nonB; simp; omega, ?_⟩
        unfold nameG
        rw [if_neg (by omega), if_neg (by omega), if_pos (by omega), List.getD_eq_getElem?_getD, show (100 + (k : Int) - 100).toNat = k by omega, hk]
        rfl
      | none => rw [hj] at hf; simp at hf

theorem findIdx_mem {α : Type} {p : α → Bool} {l : List α} {k : Nat} (h : l.findIdx? p = some k) : ∃ x, l[k]? = some x ∧ p x = true := by
  obtain ⟨hk, h1, _⟩ := List.findIdx?_eq_some_iff_getElem.1 h
  exact ⟨_, List.getElem?_eq_getElem hk, h1⟩

theorem text_cut (g : Gr) {ks : List Tr} {R : List UInt8} : Cut0 (textK g ks ++ 41 :: R) := by
  cases ks with
  | nil => intro c l e; simp [textK] at e; rw [← e.1]; decide
  | cons t l => intro c m e; simp [textK] at e; rw [← e.1]; decide

theorem checkK_syms (g : Gr) : ∀ (ks : List Tr) (r : List Int), r.length = ks.length → checkK g ks r = true → r = ks.map Tr.sym ∧ ∀ k ∈ ks, checkT g k k.sym = true
  | [], [], _, _ => ⟨rfl, fun k hk => by cases hk⟩
  | [], _ :: _, h, _ => by simp at h
  | _ :: _, [], h, _ => by simp at h
  | t :: l, x :: r, h, hc => by
    simp only [checkK, Bool.and_eq_true] at hc
    have ih := checkK_syms g l r (by simpa using h) hc.2
    have hx : t.sym = x := by
      cases t with
      | mk s p ks =>
        have := hc.1
        simp only [checkT] at this
        split at this
        · assumption
        · cases this
    refine ⟨by rw [List.map_cons, ← hx, ← ih.1], fun k hk => ?_⟩
    rcases List.mem_cons.1 hk with e | e
    · rw [e, hx]; exact hc.1
    · exact ih.2 k e
theorem checkK_mk (g : Gr) : ∀ (ks : List Tr), (∀ k ∈ ks, checkT g k k.sym = true) → checkK g ks (ks.map Tr.sym) = true
  | [], _ => rfl
  | t :: l, h => by
    simp only [List.map_cons, checkK, Bool.and_eq_true]
    exact ⟨h t List.mem_cons_self, checkK_mk g l (fun k hk => h k (List.mem_cons_of_mem _ hk))⟩

/-- What a derivation is. -/
theorem check_cases {g : Gr} {s p root : Int} {ks : List Tr} (h : checkT g (.mk s p ks) root = true) : s = root ∧ ((p = -1 ∧ ks = [] ∧ symB g s = true) ∨ (∃ n : Nat, p = n ∧ g.prods[n]? = some (s, ks.map Tr.sym) ∧ ∀ k ∈ ks, checkT g k k.sym = true)) := by
  simp only [checkT] at h
  split at h
  · rename_i hr
    refine ⟨hr, ?_⟩
    split at h
    · rename_i hp
      simp only [Bool.and_eq_true, List.isEmpty_iff] at h
      exact .inl ⟨hp, h.1, h.2⟩
    · split at h
      · cases h
      · rename_i h1 h2
        right
        cases hq : g.prods[p.toNat]? with
        | none => rw [hq] at h; cases h
        | some q =>
          rw [hq] at h
          simp only at h
          split at h
          · rename_i hc
            have hk := checkK_syms g ks q.2 hc.2 h
            exact ⟨p.toNat, by omega, by rw [hq]; exact congrArg some (Prod.ext hc.1 hk.1), hk.2⟩
          · cases h
  · cases h
theorem check_leaf {g : Gr} {s : Int} (h : symB g s = true) : checkT g (.mk s (-1) []) s = true := by
  simp [checkT, h]
theorem check_node {g : Gr} {s : Int} {n : Nat} {ks : List Tr} (h : g.prods[n]? = some (s, ks.map Tr.sym)) (hk : ∀ k ∈ ks, checkT g k k.sym = true) : checkT g (.mk s n ks) s = true := by
  simp only [checkT, if_true]
  rw [if_neg (by omega), if_neg (by omega)]
  rw [show ((n : Int)).toNat = n by omega, h]
  simp only [List.length_map, and_self, if_true]
  exact checkK_mk g ks hk

theorem left_symB {g : Gr} (h : CheckG g) {n : Nat} {q : Int × List Int} (hq : g.prods[n]? = some q) : symB g q.1 = true ∧ q.1 ≠ 0 := by
  have := (h.pv q (List.mem_of_getElem? hq)).1
  refine ⟨?_, by omega⟩
  unfold symB nonB
  simp
  omega

theorem prod_nodup {g : Gr} (h : CheckG g) {i j : Nat} {q : Int × List Int} (hi : g.prods[i]? = some q) (hj : g.prods[j]? = some q) : i = j := by
  have h1 := (List.getElem?_eq_some_iff.1 hi).1
  have h2 := (List.getElem?_eq_some_iff.1 hj).1
  exact (List.getElem?_inj h1 h.pn).1 (hi.trans hj.symm)

theorem derOf_is {g : Gr} (h : CheckG g) {n : Nat} {s : Int} {ks : List Tr} (hq : g.prods[n]? = some (s, ks.map Tr.sym)) : derOf g s ks = some n := by
  unfold derOf
  cases hf : g.prods.findIdx? (derP s ks) with
  | none =>
    rw [List.findIdx?_eq_none_iff] at hf
    have := hf _ (List.mem_of_getElem? hq)
    simp [derP] at this
  | some k =>
    obtain ⟨x, hx, hp⟩ := findIdx_mem hf
    unfold derP at hp
    simp only [Bool.and_eq_true, decide_eq_true_eq] at hp
    have : x = (s, ks.map Tr.sym) := Prod.ext hp.1 hp.2
    rw [this] at hx
    rw [prod_nodup h hx hq]

theorem symR_name {g : Gr} (h : CheckG g) {s : Int} (hs : symB g s = true) {R : List UInt8} (hR : Cut0 R) {n : Nat} (hn : n < 400) : symR g (nameG g s ++ R) n = some (s, R, n + 1) := by
  obtain ⟨h1, h2⟩ := name_kind h hs
  obtain ⟨h3, h4⟩ := cut_name (R := R) (kind_signs h1) hR
  unfold symR
  rw [h3, h4, h2]
  simp [hn]

theorem head_name {g : Gr} (h : CheckG g) {s : Int} (hs : symB g s = true) {R : List UInt8} : ∃ c l, nameG g s ++ R = c :: l ∧ c ≠ 40 := by
  obtain ⟨h1, _⟩ := name_kind h hs
  obtain ⟨_, c, l, e, hc⟩ := name_row (kind_name h1)
  refine ⟨c, l ++ R, by rw [e]; rfl, fun e2 => ?_⟩
  have := kind_signs h1 c (by rw [e]; exact List.mem_cons_self)
  rw [e2] at this
  exact absurd this (by decide)

theorem symB_zero {g : Gr} {s : Int} (hs : symB g s = true) : s ≠ 0 := by
  intro e
  subst e
  unfold symB nonB at hs
  simp at hs

theorem read_text {g : Gr} (h : CheckG g) (t : Tr) : ∀ (R : List UInt8) (f n : Nat), checkT g t t.sym = true → n + sizeT t ≤ 400 → Cut0 R → (textT g t ++ R).length < f → rdT g f (textT g t ++ R) n = some (t, R, n + sizeT t) := by
  induction t using Tr.ind with
  | h s p ks ih =>
    intro R f n hc hn hR hf
    obtain ⟨f, rfl⟩ : ∃ k, f = k + 1 := ⟨f - 1, by omega⟩
    obtain ⟨_, hcase⟩ := check_cases hc
    rcases hcase with ⟨rfl, rfl, hs⟩ | ⟨m, rfl, hq, hks⟩
    · simp only [textT, if_true, sizeT, sizeK] at hn hf ⊢
      obtain ⟨c, l, e, hc40⟩ := head_name h hs (R := R)
      simp only [rdT]
      rw [if_neg (by rw [e]; simpa using hc40), symR_name h hs hR (by omega)]
      simp only
      rw [if_neg (symB_zero hs)]
    · have hsl := left_symB h hq
      have hm1 : ¬ ((m : Int) = -1) := by omega
      simp only [textT, if_neg hm1, sizeT] at hn hf ⊢
      have hK : ∀ (l : List Tr) (f n : Nat), (∀ k ∈ l, k ∈ ks) → n + sizeK l ≤ 400 → (textK g l ++ 41 :: R).length < f → rdK g f (textK g l ++ 41 :: R) n = some (l, 41 :: R, n + sizeK l) := by
        intro l
        induction l with
        | nil =>
          intro f n _ _ hf
          obtain ⟨f, rfl⟩ : ∃ k, f = k + 1 := ⟨f - 1, by omega⟩
          simp [rdK, textK, sizeK]
        | cons t l ih2 =>
          intro f n hl hn hf
          obtain ⟨f, rfl⟩ : ∃ k, f = k + 1 := ⟨f - 1, by omega⟩
          simp only [sizeK] at hn ⊢
          have e : textK g (t :: l) ++ 41 :: R = 32 :: (textT g t ++ (textK g l ++ 41 :: R)) := by simp [textK]
          rw [e] at hf ⊢
          simp only [List.length_cons] at hf
          have h1 := ih t (hl t List.mem_cons_self) (textK g l ++ 41 :: R) f n (hks t (hl t List.mem_cons_self)) (by omega) (text_cut g) (by omega)
          have h2 := ih2 f (n + sizeT t) (fun k hk => hl k (List.mem_cons_of_mem _ hk)) (by omega) (by rw [List.length_append] at hf; omega)
          simp only [rdK, List.head?_cons, if_true, List.drop_succ_cons, List.drop_zero, h1, h2]
          rw [show n + (sizeT t + sizeK l) = n + sizeT t + sizeK l by omega]
      have e : 40 :: nameG g s ++ (textK g ks ++ [41]) ++ R = 40 :: (nameG g s ++ (textK g ks ++ 41 :: R)) := by simp
      rw [e] at hf ⊢
      simp only [List.length_cons, List.length_append] at hf
      have hs1 := symR_name h hsl.1 (R := textK g ks ++ 41 :: R) (text_cut g) (n := n) (by omega)
      have hk1 := hK ks f (n + 1) (fun _ hk => hk) (by omega) (by simp only [List.length_append, List.length_cons]; omega)
      simp only at hs1
      simp only [rdT, List.head?_cons, if_true, List.drop_succ_cons, List.drop_zero, hs1, hk1, derOf_is h hq]
      rw [show n + (1 + sizeK ks) = n + 1 + sizeK ks by omega]

theorem take_drop_sign (l : List UInt8) : l = l.takeWhile notSign ++ l.dropWhile notSign := (List.takeWhile_append_dropWhile).symm

theorem read_ok {g : Gr} (h : CheckG g) : ∀ (f : Nat) (l : List UInt8) (n : Nat), (∀ x, rdT g f l n = some x → checkT g x.1 x.1.sym = true ∧ l = textT g x.1 ++ x.2.1 ∧ x.2.2 = n + sizeT x.1) ∧ (∀ x, rdK g f l n = some x → (∀ k ∈ x.1, checkT g k k.sym = true) ∧ l = textK g x.1 ++ x.2.1 ∧ x.2.2 = n + sizeK x.1)
  | 0, l, n => ⟨fun x h => by simp [rdT] at h, fun x h => by simp [rdK] at h⟩
  | f + 1, l, n => by
    constructor
    · intro x hx
      simp only [rdT] at hx
      split at hx
      · rename_i h40
        obtain ⟨c, l, rfl⟩ : ∃ c m, l = c :: m := by cases l with | nil => simp at h40 | cons c m => exact ⟨c, m, rfl⟩
        simp only [List.head?_cons, Option.some.injEq] at h40
        subst h40
        rw [List.drop_succ_cons, List.drop_zero] at hx
        cases hs : symR g l n with
        | none => rw [hs] at hx; cases hx
        | some y =>
          rw [hs] at hx
          simp only at hx
          obtain ⟨hn, hy2, hfi, hy1⟩ := symR_ok hs
          cases hk : rdK g f y.2.1 y.2.2 with
          | none => rw [hk] at hx; cases hx
          | some z =>
            rw [hk] at hx
            simp only at hx
            obtain ⟨i1, i2, i3⟩ := (read_ok h f _ _).2 _ hk
            split at hx
            · rename_i h41
              obtain ⟨c, r, hr⟩ : ∃ c m, z.2.1 = c :: m := by cases hz : z.2.1 with | nil => rw [hz] at h41; simp at h41 | cons c m => exact ⟨c, m, rfl⟩
              rw [hr] at h41 hx i2
              simp only [List.head?_cons, Option.some.injEq] at h41
              subst h41
              cases hd : derOf g y.1 z.1 with
              | none => rw [hd] at hx; cases hx
              | some p =>
                rw [hd] at hx
                cases hx
                obtain ⟨q, hq, hp⟩ := findIdx_mem hd
                unfold derP at hp
                simp only [Bool.and_eq_true, decide_eq_true_eq] at hp
                have hq' : g.prods[p]? = some (y.1, z.1.map Tr.sym) := by rw [hq]; exact congrArg some (Prod.ext hp.1 hp.2)
                have hsl := left_symB h hq'
                simp only at hsl
                have hnm := (find_name h hfi).resolve_left hsl.2
                refine ⟨check_node hq' i1, ?_, ?_⟩
                · simp only [textT, if_neg (show ¬ ((p : Int) = -1) by omega)]
                  rw [List.drop_succ_cons, List.drop_zero]
                  rw [take_drop_sign l, ← hy1, i2, hnm.2]
                  simp
                · simp only [sizeT]; rw [i3, hy2]; omega
            · cases hx
      · cases hs : symR g l n with
        | none => rw [hs] at hx; cases hx
        | some y =>
          rw [hs] at hx
          simp only at hx
          obtain ⟨hn, hy2, hfi, hy1⟩ := symR_ok hs
          split at hx
          · cases hx
          · rename_i h0
            cases hx
            have hnm := (find_name h hfi).resolve_left h0
            refine ⟨check_leaf hnm.1, ?_, ?_⟩
            · simp only [textT, if_true]
              rw [hnm.2, hy1]; exact take_drop_sign l
            · simp only [sizeT, sizeK]; omega
    · intro x hx
      simp only [rdK] at hx
      split at hx
      · rename_i h32
        obtain ⟨c, l, rfl⟩ : ∃ c m, l = c :: m := by cases l with | nil => simp at h32 | cons c m => exact ⟨c, m, rfl⟩
        simp only [List.head?_cons, Option.some.injEq] at h32
        subst h32
        rw [List.drop_succ_cons, List.drop_zero] at hx
        cases ht : rdT g f l n with
        | none => rw [ht] at hx; cases hx
        | some y =>
          rw [ht] at hx
          simp only at hx
          obtain ⟨i1, i2, i3⟩ := (read_ok h f _ _).1 _ ht
          cases hk : rdK g f y.2.1 y.2.2 with
          | none => rw [hk] at hx; cases hx
          | some z =>
            rw [hk] at hx
            obtain ⟨j1, j2, j3⟩ := (read_ok h f _ _).2 _ hk
            cases hx
            refine ⟨fun k hk => ?_, ?_, ?_⟩
            · rcases List.mem_cons.1 hk with e | e
              · rw [e]; exact i1
              · exact j1 k e
            · simp only [textK]
              rw [i2, j2]; simp
            · simp only [sizeK]; omega
      · cases hx
        exact ⟨fun k hk => (List.not_mem_nil hk).elim, rfl, (Nat.add_zero n).symm⟩

/-- A derivation's text is read as it; what is read is a derivation, its text what was read. -/
theorem readG_text {g : Gr} (h : CheckG g) {t : Tr} (hc : checkT g t t.sym = true) (hs : sizeT t ≤ 400) : readG g (textT g t) = some t := by
  have := read_text h t [] ((textT g t).length + 1) 0 hc (by omega) (fun c l e => by cases e) (by simp)
  rw [List.append_nil] at this
  unfold readG
  rw [this]
  simp
theorem readG_ok {g : Gr} (h : CheckG g) {l : List UInt8} {t : Tr} (hr : readG g l = some t) : checkT g t t.sym = true ∧ textT g t = l := by
  unfold readG at hr
  cases hx : rdT g (l.length + 1) l 0 with
  | none => rw [hx] at hr; cases hr
  | some x =>
    rw [hx] at hr
    simp only at hr
    obtain ⟨h1, h2, h3⟩ := (read_ok h _ _ _).1 x hx
    split at hr
    · rename_i he
      cases hr
      rw [he, List.append_nil] at h2
      exact ⟨h1, h2.symm⟩
    · cases hr

/-! As it lies in memory. -/
/-- A tree as it lies: where its kids' row lies, and that row's capacity. -/
inductive Tl where
  | mk (sym prod : Int) (a : Option Addr) (c : Nat) (kids : List Tl)
def Tl.sym : Tl → Int | .mk s _ _ _ _ => s
def Tl.prod : Tl → Int | .mk _ p _ _ _ => p
def Tl.a : Tl → Option Addr | .mk _ _ a _ _ => a
def Tl.c : Tl → Nat | .mk _ _ _ c _ => c
def Tl.kids : Tl → List Tl | .mk _ _ _ _ ks => ks
mutual
def Tl.plain : Tl → Tr | .mk s p _ _ ks => .mk s p (plainK ks)
def plainK : List Tl → List Tr | [] => [] | t :: l => t.plain :: plainK l
end
theorem plainK_map : ∀ l : List Tl, plainK l = l.map Tl.plain
  | [] => rfl
  | t :: l => by rw [plainK, plainK_map l]; rfl
theorem Tl.plain_mk (s p : Int) (a : Option Addr) (c : Nat) (ks : List Tl) : (Tl.mk s p a c ks).plain = .mk s p (ks.map Tl.plain) := by rw [Tl.plain, plainK_map]
theorem Tl.plain_sym (t : Tl) : t.plain.sym = t.sym := by cases t; rfl
theorem Tl.plain_prod (t : Tl) : t.plain.prod = t.prod := by cases t; rfl
theorem Tl.plain_kids (t : Tl) : t.plain.kids = t.kids.map Tl.plain := by cases t; rw [Tl.plain_mk]; rfl
theorem Tl.ind {C : Tl → Prop} (h : ∀ s p a c ks, (∀ k ∈ ks, C k) → C (.mk s p a c ks)) : ∀ t, C t
  | .mk s p a c ks => h s p a c ks (aux ks)
where aux : ∀ (ks : List Tl), ∀ k ∈ ks, C k
  | [], k, hk => by cases hk
  | t :: l, k, hk => by
    rcases List.mem_cons.1 hk with e | e
    · rw [e]; exact Tl.ind h t
    · exact aux l k e

/-- A tree as a value. -/
def Tl.v (t : Tl) : Value := .agg #[.int .i64 t.sym, .int .i64 t.prod, .slice t.a t.kids.length t.c]
/-- A tree as three cells; a row of trees. -/
def tl3 (t : Tl) : List Value := [.int .i64 t.sym, .int .i64 t.prod, .slice t.a t.kids.length t.c]
def tls (l : List Tl) : List Value := l.flatMap tl3
theorem tls_len (l : List Tl) : (tls l).length = l.length * 3 := by
  induction l with
  | nil => rfl
  | cons t l ih => simp only [tls, List.flatMap_cons, List.length_append, List.length_cons] at *; rw [ih]; simp [tl3]; omega
theorem tls_app (a b : List Tl) : tls (a ++ b) = tls a ++ tls b := by simp [tls]
theorem tls_at : ∀ (l : List Tl) (j : Nat) (t : Tl), l[j]? = some t → (tls l)[j * 3]? = some (.int .i64 t.sym) ∧ (tls l)[j * 3 + 1]? = some (.int .i64 t.prod) ∧ (tls l)[j * 3 + 2]? = some (.slice t.a t.kids.length t.c)
  | [], j, t, h => by simp at h
  | u :: l, 0, t, h => by
    simp at h; subst h
    simp [tls, tl3]
  | u :: l, j + 1, t, h => by
    have ih := tls_at l j t (by simpa using h)
    have e : tls (u :: l) = .int .i64 u.sym :: .int .i64 u.prod :: .slice u.a u.kids.length u.c :: tls l := rfl
    rw [e, show (j + 1) * 3 = j * 3 + 1 + 1 + 1 by omega]
    exact ⟨ih.1, ih.2.1, ih.2.2⟩

theorem cell_same {w w' : World} {b i : Nat} (h : w'.heap[b]? = w.heap[b]?) : w'.cell? ⟨b, i, none⟩ = w.cell? ⟨b, i, none⟩ := by
  unfold World.cell?
  rw [h]
/-- A tree lies in memory, its rows in blocks of P. -/
inductive Lies (P : Nat → Prop) (w : World) : Tl → Prop
  | mk {s p : Int} {a : Option Addr} {c : Nat} {ks : List Tl} (hc : Cells w a (tls ks)) (hl : ks.length ≤ c) (hp : ks ≠ [] → ∀ x, a = some x → P x.block) (hk : ∀ k ∈ ks, Lies P w k) : Lies P w (.mk s p a c ks)

theorem Lies.cells {P : Nat → Prop} {w : World} {s p : Int} {a : Option Addr} {c : Nat} {ks : List Tl} (h : Lies P w (.mk s p a c ks)) : Cells w a (tls ks) := by cases h; assumption
theorem Lies.cap {P : Nat → Prop} {w : World} {s p : Int} {a : Option Addr} {c : Nat} {ks : List Tl} (h : Lies P w (.mk s p a c ks)) : ks.length ≤ c := by cases h; assumption
theorem Lies.kid {P : Nat → Prop} {w : World} {s p : Int} {a : Option Addr} {c : Nat} {ks : List Tl} (h : Lies P w (.mk s p a c ks)) : ∀ k ∈ ks, Lies P w k := by cases h; assumption
theorem Lies.blk {P : Nat → Prop} {w : World} {s p : Int} {a : Option Addr} {c : Nat} {ks : List Tl} (h : Lies P w (.mk s p a c ks)) : ks ≠ [] → ∀ x, a = some x → P x.block := by cases h; assumption

theorem Lies.keep {P Q : Nat → Prop} {w w' : World} {t : Tl} (h : Lies P w t) (hs : w.heap.size ≤ w'.heap.size) (hb : ∀ b, P b → b < w.heap.size → w'.heap[b]? = w.heap[b]?) (hq : ∀ b, P b → b < w.heap.size → Q b) : Lies Q w' t := by
  induction h with
  | @mk s p a c ks hc hl hp _ ih =>
    refine .mk ?_ hl ?_ ih
    · rcases hc with h | ⟨b, off, ha, hlt, hcs⟩
      · exact .inl h
      · by_cases hn : ks = []
        · subst hn; exact .inl rfl
        · refine .inr ⟨b, off, ha, by omega, fun j u hj => ?_⟩
          have hbl := hb b (hp hn _ ha) hlt
          rw [← hcs j u hj]
          exact cell_same hbl
    · intro hn x hx
      rcases hc with h | ⟨b, off, ha, hlt, hcs⟩
      · cases ks with
        | nil => exact absurd rfl hn
        | cons t l => have := congrArg List.length h; rw [tls_len] at this; simp at this
      · have e : x = ⟨b, off, none⟩ := Option.some.inj (hx.symm.trans ha)
        subst e
        exact hq b (hp hn _ ha) hlt
theorem Lies.under {P : Nat → Prop} {w w' : World} {t : Tl} (h : Lies P w t) (hb : Below w.heap.size w w') : Lies P w' t :=
  h.keep hb.size (fun b _ hl => hb.block b hl) (fun _ hp _ => hp)
theorem Lies.weak {P Q : Nat → Prop} {w : World} {t : Tl} (h : Lies P w t) (hq : ∀ b, P b → b < w.heap.size → Q b) : Lies Q w t :=
  h.keep (Nat.le_refl _) (fun _ _ _ => rfl) hq
theorem Lies.leaf (P : Nat → Prop) (w : World) (s p : Int) (a : Option Addr) (c : Nat) : Lies P w (.mk s p a c []) := .mk (.inl rfl) (Nat.zero_le _) (fun h => absurd rfl h) (fun _ h => by cases h)

end Go.Proofs.Ytgfkkbpnphbdgaa
