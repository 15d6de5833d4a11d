/- Sets that grow in rounds: after as many rounds as there is room, they grow no more. No program here. -/
import Derived.Test.YtejjdfmobiegdaaDoorFirstS
set_option linter.unusedVariables false
namespace Go.Proofs.YtejjdfmobiegdaaDoor
open Go.RowKit
open Doc

theorem box_below (w : World) (o : Obj) : Below w.heap.size w (w.alloc o) := (Below.refl _ _).alloc (Nat.le_refl _) _

def iterG {α : Type} (f : α → α) (x : α) : Nat → α
  | 0 => x
  | n + 1 => f (iterG f x n)
theorem iter_chain {α : Type} (f : α → α) (x : α) (m : α → Nat) (N : Nat) (hs : ∀ k, f (iterG f x k) = iterG f x k ∨ m (iterG f x k) < m (f (iterG f x k))) (hN : ∀ k, m (iterG f x k) ≤ N) : f (iterG f x N) = iterG f x N := by
  have key : ∀ k, f (iterG f x k) = iterG f x k ∨ k ≤ m (iterG f x k) := by
    intro k
    induction k with
    | zero => exact .inr (Nat.zero_le _)
    | succ k ih =>
      by_cases hf : f (iterG f x k) = iterG f x k
      · left
        show f (f (iterG f x k)) = f (iterG f x k)
        rw [hf, hf]
      · right
        rcases hs k with h | h
        · exact absurd h hf
        · rcases ih with h' | h'
          · exact absurd h' hf
          · show k + 1 ≤ m (f (iterG f x k))
            omega
  rcases key N with h | h
  · exact h
  · rcases hs N with h' | h'
    · exact h'
    · have := hN (N + 1)
      have h2 : m (f (iterG f x N)) ≤ N := this
      omega
theorem iter_stay {α : Type} (f : α → α) (x : α) (N : Nat) (h : f (iterG f x N) = iterG f x N) : ∀ k, iterG f x (N + k) = iterG f x N
  | 0 => rfl
  | k + 1 => by show f (iterG f x (N + k)) = _; rw [iter_stay f x N h k, h]
theorem iter_same {α : Type} (f : α → α) (x : α) {N M : Nat} (h : f (iterG f x N) = iterG f x N) (k : f (iterG f x M) = iterG f x M) : iterG f x N = iterG f x M := by
  rcases Nat.le_total N M with hl | hl
  · obtain ⟨d, rfl⟩ := Nat.exists_eq_add_of_le hl
    exact (iter_stay f x N h d).symm
  · obtain ⟨d, rfl⟩ := Nat.exists_eq_add_of_le hl
    exact iter_stay f x M k d

/-- How many digits below n. -/
def cntB (n a : Nat) : Nat := match n with
  | 0 => 0
  | n + 1 => cntB n a + (if a.testBit n = true then 1 else 0)
theorem cntB_le (n a : Nat) : cntB n a ≤ n := by
  induction n with
  | zero => exact Nat.le_refl _
  | succ n ih => show cntB n a + _ ≤ _; split <;> omega
theorem cntB_sub {a b : Nat} (h : Sub a b) : ∀ n, cntB n a ≤ cntB n b
  | 0 => Nat.le_refl _
  | n + 1 => by
    have ih := cntB_sub h n
    show cntB n a + (if a.testBit n = true then 1 else 0) ≤ cntB n b + (if b.testBit n = true then 1 else 0)
    by_cases ha : a.testBit n = true
    · rw [if_pos ha, if_pos (h n ha)]; omega
    · rw [if_neg ha]; omega
theorem cntB_lt {a b : Nat} (h : Sub a b) : ∀ n i, i < n → a.testBit i = false → b.testBit i = true → cntB n a < cntB n b
  | 0, i, hi, _, _ => by omega
  | n + 1, i, hi, ha, hb => by
    show cntB n a + (if a.testBit n = true then 1 else 0) < cntB n b + (if b.testBit n = true then 1 else 0)
    by_cases hin : i = n
    · subst hin
      have := cntB_sub h i
      rw [hb, if_neg (by rw [ha]; decide), if_pos rfl]; omega
    · have ih := cntB_lt h n i (by omega) ha hb
      by_cases han : a.testBit n = true
      · rw [if_pos han, if_pos (h n han)]; omega
      · rw [if_neg han]; omega
theorem sub_ne {a b : Nat} (h : Sub a b) (hne : a ≠ b) : ∃ i, a.testBit i = false ∧ b.testBit i = true := by
  apply Classical.byContradiction
  intro hn
  apply hne
  refine Sub.anti h fun i hi => ?_
  cases ha : a.testBit i with
  | true => rfl
  | false => exact absurd ⟨i, ha, hi⟩ hn

/-- The rounds of the document's own Nullable and Fruitful. -/
def gsF (h : List Int → Nat → Bool) (ps : List (Int × List Int)) (S : Nat) : Nat := ps.foldl (fun S p => if h p.2 S = true then S ||| sdig (p.1 - 100) else S) S
def gsR1 (left : Int) (r : List Int) (S : Nat) : Nat := r.foldl (fun S s => if (decide (100 ≤ s) && shas S (left - 100)) = true then S ||| sdig (s - 100) else S) S
def gsR (ps : List (Int × List Int)) (S : Nat) : Nat := ps.foldl (fun S p => gsR1 p.1 p.2 S) S

theorem gsF_ext (h : List Int → Nat → Bool) : ∀ (ps : List (Int × List Int)) (S : Nat), Sub S (gsF h ps S)
  | [], S => Sub.refl S
  | p :: ps, S => by
    show Sub S (gsF h ps (if h p.2 S = true then S ||| sdig (p.1 - 100) else S))
    refine Sub.trans ?_ (gsF_ext h ps _)
    split
    · exact sub_or_left _ _
    · exact Sub.refl _
theorem gsR1_ext (left : Int) : ∀ (r : List Int) (S : Nat), Sub S (gsR1 left r S)
  | [], S => Sub.refl S
  | s :: r, S => by
    show Sub S (gsR1 left r (if (decide (100 ≤ s) && shas S (left - 100)) = true then S ||| sdig (s - 100) else S))
    refine Sub.trans ?_ (gsR1_ext left r _)
    split
    · exact sub_or_left _ _
    · exact Sub.refl _
theorem gsR_ext : ∀ (ps : List (Int × List Int)) (S : Nat), Sub S (gsR ps S)
  | [], S => Sub.refl S
  | p :: ps, S => (gsR1_ext p.1 p.2 S).trans (gsR_ext ps _)
/-- What grows no more is closed. -/
theorem gsF_fix {h : List Int → Nat → Bool} : ∀ (ps : List (Int × List Int)) (T S : Nat), Sub S T → Sub (gsF h ps T) S → ∀ p ∈ ps, h p.2 S = true → Sub (sdig (p.1 - 100)) S
  | [], _, _, _, _, p, hp, _ => by cases hp
  | q :: ps, T, S, h1, h2, p, hp, hh => by
    have e1 : Sub T (if h q.2 T = true then T ||| sdig (q.1 - 100) else T) := by
      split
      · exact sub_or_left _ _
      · exact Sub.refl _
    have h3 : Sub (if h q.2 T = true then T ||| sdig (q.1 - 100) else T) S := (gsF_ext h ps _).trans h2
    have eT : T = S := Sub.anti (e1.trans h3) h1
    subst eT
    rcases List.mem_cons.1 hp with rfl | hp
    · rw [if_pos hh] at h3
      exact (sub_or_right _ _).trans h3
    · have e4 : (if h q.2 T = true then T ||| sdig (q.1 - 100) else T) = T := Sub.anti h3 e1
      refine gsF_fix ps T T (Sub.refl T) ?_ p hp hh
      have h2' : Sub (gsF h ps (if h q.2 T = true then T ||| sdig (q.1 - 100) else T)) T := h2
      rwa [e4] at h2'
theorem gsR1_fix {left : Int} : ∀ (r : List Int) (T S : Nat), Sub S T → Sub (gsR1 left r T) S → ∀ s ∈ r, 100 ≤ s → shas S (left - 100) = true → Sub (sdig (s - 100)) S
  | [], _, _, _, _, s, hs, _, _ => by cases hs
  | q :: r, T, S, h1, h2, s, hs, h100, hh => by
    have e1 : Sub T (if (decide (100 ≤ q) && shas T (left - 100)) = true then T ||| sdig (q - 100) else T) := by
      split
      · exact sub_or_left _ _
      · exact Sub.refl _
    have h3 : Sub (if (decide (100 ≤ q) && shas T (left - 100)) = true then T ||| sdig (q - 100) else T) S := (gsR1_ext left r _).trans h2
    have eT : T = S := Sub.anti (e1.trans h3) h1
    subst eT
    rcases List.mem_cons.1 hs with rfl | hs
    · rw [if_pos (by rw [decide_eq_true h100, hh]; rfl)] at h3
      exact (sub_or_right _ _).trans h3
    · have e4 : (if (decide (100 ≤ q) && shas T (left - 100)) = true then T ||| sdig (q - 100) else T) = T := Sub.anti h3 e1
      refine gsR1_fix r T T (Sub.refl T) ?_ s hs h100 hh
      have h2' : Sub (gsR1 left r (if (decide (100 ≤ q) && shas T (left - 100)) = true then T ||| sdig (q - 100) else T)) T := h2
      rwa [e4] at h2'
theorem gsR_fix : ∀ (ps : List (Int × List Int)) (T S : Nat), Sub S T → Sub (gsR ps T) S → ∀ p ∈ ps, ∀ s ∈ p.2, 100 ≤ s → shas S (p.1 - 100) = true → Sub (sdig (s - 100)) S
  | [], _, _, _, _, p, hp, _, _, _, _ => by cases hp
  | q :: ps, T, S, h1, h2, p, hp, s, hs, h100, hh => by
    have h3 : Sub (gsR1 q.1 q.2 T) S := (gsR_ext ps _).trans h2
    have eT : T = S := Sub.anti ((gsR1_ext q.1 q.2 T).trans h3) h1
    subst eT
    rcases List.mem_cons.1 hp with rfl | hp
    · exact gsR1_fix p.2 T T (Sub.refl T) h3 s hs h100 hh
    · have e4 : gsR1 q.1 q.2 T = T := Sub.anti h3 (gsR1_ext q.1 q.2 T)
      refine gsR_fix ps T T (Sub.refl T) ?_ p hp s hs h100 hh
      have h2' : Sub (gsR ps (gsR1 q.1 q.2 T)) T := h2
      rwa [e4] at h2'

/-- All digits stand for something that holds. -/
def Sound (n : Nat) (P : Int → Prop) (S : Nat) : Prop := ∀ i : Nat, S.testBit i = true → i < n ∧ P (100 + (i : Int))
theorem sound_dig {n : Nat} {P : Int → Prop} {S : Nat} (h : Sound n P S) {x : Int} (hx : 100 ≤ x ∧ x < 100 + (n : Int)) (hp : P x) : Sound n P (S ||| sdig (x - 100)) := fun i hi => by
  rw [Nat.testBit_or, Bool.or_eq_true] at hi
  rcases hi with hi | hi
  · exact h i hi
  · rw [bit_dig, decide_eq_true_eq] at hi
    refine ⟨by omega, ?_⟩
    rwa [show (100 : Int) + (i : Int) = x by omega]
theorem sound_has {n : Nat} {P : Int → Prop} {S : Nat} (h : Sound n P S) {x : Int} (hb : shas S (x - 100) = true) : P x := by
  obtain ⟨h1, h2⟩ := (has_iff S (x - 100)).1 hb
  have := (h _ h2).2
  rwa [show (100 : Int) + ((x - 100).toNat : Int) = x by omega] at this
theorem nul_sound {g : Gr} (hl : ∀ p ∈ g.prods, 100 ≤ p.1 ∧ p.1 < 100 + (g.nons.length : Int)) : ∀ (ps : List (Int × List Int)) (S : Nat), (∀ p ∈ ps, p ∈ g.prods) → Sound g.nons.length (Nul g) S → Sound g.nons.length (Nul g) (gsF vanI ps S)
  | [], S, _, h => h
  | p :: ps, S, hm, h => by
    show Sound _ _ (gsF vanI ps (if vanI p.2 S = true then S ||| sdig (p.1 - 100) else S))
    refine nul_sound hl ps _ (fun q hq => hm q (List.mem_cons_of_mem _ hq)) ?_
    have hp := hm p List.mem_cons_self
    split
    · rename_i hv
      exact sound_dig h (hl p hp) (.mk p hp fun s hs => sound_has h (List.all_eq_true.1 hv s hs))
    · exact h
theorem fru_sound {g : Gr} (hl : ∀ p ∈ g.prods, 100 ≤ p.1 ∧ p.1 < 100 + (g.nons.length : Int)) : ∀ (ps : List (Int × List Int)) (S : Nat), (∀ p ∈ ps, p ∈ g.prods) → Sound g.nons.length (Fru g) S → Sound g.nons.length (Fru g) (gsF bearI ps S)
  | [], S, _, h => h
  | p :: ps, S, hm, h => by
    show Sound _ _ (gsF bearI ps (if bearI p.2 S = true then S ||| sdig (p.1 - 100) else S))
    refine fru_sound hl ps _ (fun q hq => hm q (List.mem_cons_of_mem _ hq)) ?_
    have hp := hm p List.mem_cons_self
    split
    · rename_i hv
      exact sound_dig h (hl p hp) (.mk p hp fun s hs h100 => by
        have := List.all_eq_true.1 hv s hs
        rw [Bool.or_eq_true, decide_eq_true_eq] at this
        rcases this with h1 | h1
        · omega
        · exact sound_has h h1)
    · exact h
theorem rea1_sound {g : Gr} (p : Int × List Int) (hp : p ∈ g.prods) : ∀ (r : List Int) (S : Nat), (∀ s ∈ r, s ∈ p.2 ∧ (100 ≤ s → s < 100 + (g.nons.length : Int))) → Sound g.nons.length (Rea g) S → Sound g.nons.length (Rea g) (gsR1 p.1 r S)
  | [], S, _, h => h
  | s :: r, S, hm, h => by
    show Sound _ _ (gsR1 p.1 r (if (decide (100 ≤ s) && shas S (p.1 - 100)) = true then S ||| sdig (s - 100) else S))
    refine rea1_sound p hp r _ (fun q hq => hm q (List.mem_cons_of_mem _ hq)) ?_
    have hs := hm s List.mem_cons_self
    split
    · rename_i hv
      rw [Bool.and_eq_true, decide_eq_true_eq] at hv
      exact sound_dig h ⟨hv.1, hs.2 hv.1⟩ (.step p s hp (sound_has h hv.2) hs.1 hv.1)
    · exact h
theorem rea_sound {g : Gr} (hl : ∀ p ∈ g.prods, ∀ s ∈ p.2, 100 ≤ s → s < 100 + (g.nons.length : Int)) : ∀ (ps : List (Int × List Int)) (S : Nat), (∀ p ∈ ps, p ∈ g.prods) → Sound g.nons.length (Rea g) S → Sound g.nons.length (Rea g) (gsR ps S)
  | [], S, _, h => h
  | p :: ps, S, hm, h => rea_sound hl ps _ (fun q hq => hm q (List.mem_cons_of_mem _ hq)) (rea1_sound p (hm p List.mem_cons_self) p.2 S (fun s hs => ⟨hs, hl p (hm p List.mem_cons_self) s hs⟩) h)

/-- The rounds' last is the set. -/
theorem rounds_fix {g : Gr} {P : Int → Prop} {f : Nat → Nat} {s0 : Nat} (h0 : Sound g.nons.length P s0) (hf : ∀ S, Sound g.nons.length P S → Sound g.nons.length P (f S)) (he : ∀ S, Sub S (f S)) : Sound g.nons.length P (iterG f s0 g.nons.length) ∧ f (iterG f s0 g.nons.length) = iterG f s0 g.nons.length := by
  have hs : ∀ k, Sound g.nons.length P (iterG f s0 k) := fun k => by
    induction k with
    | zero => exact h0
    | succ k ih => exact hf _ ih
  refine ⟨hs _, iter_chain f s0 (cntB g.nons.length) g.nons.length (fun k => ?_) (fun k => cntB_le _ _)⟩
  by_cases h : f (iterG f s0 k) = iterG f s0 k
  · exact .inl h
  · right
    obtain ⟨i, h1, h2⟩ := sub_ne (he (iterG f s0 k)) (fun e => h e.symm)
    exact cntB_lt (he _) _ i ((hs (k + 1)) i h2).1 h1 h2
theorem sub_dig_bit {S : Nat} {i : Nat} (hi : i < 64) (h : Sub (sdig (i : Int)) S) : S.testBit i = true := h i (by rw [bit_dig]; simp [hi])
theorem rnul_is {g : Gr} (hc : CheckG g) : SetIs (iterG (gsF vanI g.prods) 0 g.nons.length) (Nul g) := by
  have hl : ∀ p ∈ g.prods, 100 ≤ p.1 ∧ p.1 < 100 + (g.nons.length : Int) := fun p hp => (hc.pv p hp).1
  have hn8 := hc.n8
  obtain ⟨h1, h2⟩ := rounds_fix (f := gsF vanI g.prods) (s0 := 0) (P := Nul g) (g := g) (fun i hi => by simp at hi) (fun S hS => nul_sound hl g.prods S (fun p hp => hp) hS) (gsF_ext vanI g.prods)
  generalize iterG (gsF vanI g.prods) 0 g.nons.length = S at *
  refine ⟨low_lt (t := 63) (fun i hi => by have := (h1 i hi).1; omega) (by omega), fun i => ⟨fun hi => ⟨by have := (h1 i hi).1; omega, (h1 i hi).2⟩, ?_⟩⟩
  rintro ⟨hi64, hN⟩
  have key : ∀ x, Nul g x → ∃ j : Nat, x = 100 + (j : Int) ∧ j < 64 ∧ S.testBit j = true := by
    intro x hx
    induction hx with
    | mk p hp _ ih =>
      have hb := hl p hp
      refine ⟨(p.1 - 100).toNat, by omega, by omega, ?_⟩
      have := gsF_fix g.prods S S (Sub.refl S) (by rw [h2]; exact Sub.refl S) p hp (show vanI p.2 S = true from List.all_eq_true.2 fun s hs => by
        obtain ⟨j, e, hj, hb⟩ := ih s hs
        rw [show s - 100 = (j : Int) by omega, shas_bit _ _ hj]; exact hb)
      rw [show p.1 - 100 = (((p.1 - 100).toNat : Nat) : Int) by omega] at this
      exact sub_dig_bit (by omega) this
  obtain ⟨j, e, _, hb⟩ := key _ hN
  rwa [show i = j by omega]
theorem rfru_is {g : Gr} (hc : CheckG g) : SetIs (iterG (gsF bearI g.prods) 0 g.nons.length) (Fru g) := by
  have hl : ∀ p ∈ g.prods, 100 ≤ p.1 ∧ p.1 < 100 + (g.nons.length : Int) := fun p hp => (hc.pv p hp).1
  have hn8 := hc.n8
  obtain ⟨h1, h2⟩ := rounds_fix (f := gsF bearI g.prods) (s0 := 0) (P := Fru g) (g := g) (fun i hi => by simp at hi) (fun S hS => fru_sound hl g.prods S (fun p hp => hp) hS) (gsF_ext bearI g.prods)
  generalize iterG (gsF bearI g.prods) 0 g.nons.length = S at *
  refine ⟨low_lt (t := 63) (fun i hi => by have := (h1 i hi).1; omega) (by omega), fun i => ⟨fun hi => ⟨by have := (h1 i hi).1; omega, (h1 i hi).2⟩, ?_⟩⟩
  rintro ⟨hi64, hN⟩
  have key : ∀ x, Fru g x → ∃ j : Nat, x = 100 + (j : Int) ∧ j < 64 ∧ S.testBit j = true := by
    intro x hx
    induction hx with
    | mk p hp _ ih =>
      have hb := hl p hp
      refine ⟨(p.1 - 100).toNat, by omega, by omega, ?_⟩
      have := gsF_fix g.prods S S (Sub.refl S) (by rw [h2]; exact Sub.refl S) p hp (show bearI p.2 S = true from List.all_eq_true.2 fun s hs => by
        rw [Bool.or_eq_true, decide_eq_true_eq]
        by_cases h100 : s < 100
        · exact .inl h100
        · right
          obtain ⟨j, e, hj, hb⟩ := ih s hs (by omega)
          rw [show s - 100 = (j : Int) by omega, shas_bit _ _ hj]; exact hb)
      rw [show p.1 - 100 = (((p.1 - 100).toNat : Nat) : Int) by omega] at this
      exact sub_dig_bit (by omega) this
  obtain ⟨j, e, _, hb⟩ := key _ hN
  rwa [show i = j by omega]
theorem rrea_is {g : Gr} (hc : CheckG g) : SetIs (iterG (gsR g.prods) 1 g.nons.length) (Rea g) := by
  have hn8 := hc.n8
  have hn1 := hc.n1
  have ht8 := hc.t8
  have hl : ∀ p ∈ g.prods, ∀ s ∈ p.2, 100 ≤ s → s < 100 + (g.nons.length : Int) := fun p hp s hs h100 => by
    have := (hc.pv p hp).2.2 s hs
    unfold symOk at this; omega
  obtain ⟨h1, h2⟩ := rounds_fix (f := gsR g.prods) (s0 := 1) (P := Rea g) (g := g) (fun i hi => by
    rw [one_bit, decide_eq_true_eq] at hi
    subst hi
    exact ⟨by omega, .start⟩) (fun S hS => rea_sound hl g.prods S (fun p hp => hp) hS) (gsR_ext g.prods)
  have hone : Sub 1 (iterG (gsR g.prods) 1 g.nons.length) := by
    have : ∀ k, Sub 1 (iterG (gsR g.prods) 1 k) := fun k => by
      induction k with
      | zero => exact Sub.refl 1
      | succ k ih => exact ih.trans (gsR_ext g.prods _)
    exact this _
  generalize iterG (gsR g.prods) 1 g.nons.length = S at *
  refine ⟨low_lt (t := 63) (fun i hi => by have := (h1 i hi).1; omega) (by omega), fun i => ⟨fun hi => ⟨by have := (h1 i hi).1; omega, (h1 i hi).2⟩, ?_⟩⟩
  rintro ⟨hi64, hN⟩
  have key : ∀ x, Rea g x → ∃ j : Nat, x = 100 + (j : Int) ∧ j < 64 ∧ S.testBit j = true := by
    intro x hx
    induction hx with
    | start => exact ⟨0, by omega, by omega, hone 0 (by decide)⟩
    | step p s hp _ hs h100 ih =>
      obtain ⟨j, e, hj, hb⟩ := ih
      have hb2 := hl p hp s hs h100
      refine ⟨(s - 100).toNat, by omega, by omega, ?_⟩
      have := gsR_fix g.prods S S (Sub.refl S) (by rw [h2]; exact Sub.refl S) p hp s hs h100 (by rw [show p.1 - 100 = (j : Int) by omega, shas_bit _ _ hj]; exact hb)
      rw [show s - 100 = (((s - 100).toNat : Nat) : Int) by omega] at this
      exact sub_dig_bit (by omega) this
  obtain ⟨j, e, _, hb⟩ := key _ hN
  rwa [show i = j by omega]

end Go.Proofs.YtejjdfmobiegdaaDoor
