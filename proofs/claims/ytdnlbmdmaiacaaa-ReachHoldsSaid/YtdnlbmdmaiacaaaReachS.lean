/- What is of use in a grammar: sets that grow, in plain words. No program here. -/
import Derived.Test.YtdnlbmdmaiacaaaSetO
import Derived.Test.YtdnlbmdmaiacaaaCheck
namespace Go.Proofs.Ytdnlbmdmaiacaaa
open Doc

def vanI (r : List Int) (S : Nat) : Bool := r.all fun s => shas S (s - 100)
def bearI (r : List Int) (S : Nat) : Bool := r.all fun s => decide (s < 100) || shas S (s - 100)
def leftsF (ps : List (Int × List Int)) (h : List Int → Nat → Bool) (S : Nat) : Nat := ps.foldl (fun a p => if h p.2 S = true then a ||| sdig (p.1 - 100) else a) 0
def namedR (r : List Int) (a : Nat) : Nat := r.foldl (fun a s => a ||| sdig (s - 100)) a
def namedF (ps : List (Int × List Int)) (S : Nat) : Nat := ps.foldl (fun a p => if shas S (p.1 - 100) = true then namedR p.2 a else a) 0
def iterS (f : Nat → Nat) (s : Nat) : Nat → Nat
  | 0 => s
  | n + 1 => iterS f s n ||| f (iterS f s n)
/-- What grow tells: the rounds' last. -/
def Grown (f : Nat → Nat) (s r : Nat) : Prop := (∃ n, r = iterS f s n) ∧ r ||| f r = r

theorem lefts_lt (ps : List (Int × List Int)) (h : List Int → Nat → Bool) (S : Nat) : leftsF ps h S < 18446744073709551616 := by
  unfold leftsF
  suffices H : ∀ (l : List (Int × List Int)) (a : Nat), a < 18446744073709551616 → l.foldl (fun a p => if h p.2 S = true then a ||| sdig (p.1 - 100) else a) a < 18446744073709551616 from H ps 0 (by decide)
  intro l
  induction l with
  | nil => intro a ha; exact ha
  | cons p l ih =>
    intro a ha
    rw [List.foldl_cons]
    apply ih
    split
    · exact or_lt _ _ ha (dig_lt _)
    · exact ha
theorem namedR_lt (r : List Int) : ∀ a, a < 18446744073709551616 → namedR r a < 18446744073709551616 := by
  induction r with
  | nil => intro a ha; exact ha
  | cons s l ih => intro a ha; exact ih _ (or_lt _ _ ha (dig_lt _))
theorem named_lt (ps : List (Int × List Int)) (S : Nat) : namedF ps S < 18446744073709551616 := by
  unfold namedF
  suffices H : ∀ (l : List (Int × List Int)) (a : Nat), a < 18446744073709551616 → l.foldl (fun a p => if shas S (p.1 - 100) = true then namedR p.2 a else a) a < 18446744073709551616 from H ps 0 (by decide)
  intro l
  induction l with
  | nil => intro a ha; exact ha
  | cons p l ih =>
    intro a ha
    rw [List.foldl_cons]
    apply ih
    split
    · exact namedR_lt _ _ ha
    · exact ha
theorem iterS_lt {f : Nat → Nat} {s : Nat} (hs : s < 18446744073709551616) (hf : ∀ u, f u < 18446744073709551616) : ∀ n, iterS f s n < 18446744073709551616
  | 0 => hs
  | n + 1 => or_lt _ _ (iterS_lt hs hf n) (hf _)
theorem le_or (a b : Nat) : a ≤ a ||| b := Nat.left_le_or

theorem has_iff (S : Nat) (n : Int) : shas S n = true ↔ (0 ≤ n ∧ n < 64) ∧ S.testBit n.toNat = true := by
  rw [has_eq, Bool.and_eq_true, decide_eq_true_eq]
/-- A digit of a set. -/
theorem shas_bit (S : Nat) (k : Nat) (hk : k < 64) : shas S (k : Int) = S.testBit k := by
  rw [has_eq]
  have : decide ((0 : Int) ≤ k ∧ (k : Int) < 64) = true := by rw [decide_eq_true_iff]; omega
  rw [this]; simp
theorem bit_lefts (ps : List (Int × List Int)) (h : List Int → Nat → Bool) (S i : Nat) : (leftsF ps h S).testBit i = true ↔ i < 64 ∧ ∃ p ∈ ps, p.1 - 100 = (i : Int) ∧ h p.2 S = true := by
  unfold leftsF
  suffices H : ∀ (l : List (Int × List Int)) (a : Nat), (l.foldl (fun a p => if h p.2 S = true then a ||| sdig (p.1 - 100) else a) a).testBit i = true ↔ a.testBit i = true ∨ (i < 64 ∧ ∃ p ∈ l, p.1 - 100 = (i : Int) ∧ h p.2 S = true) by
    rw [H ps 0]; simp
  intro l
  induction l with
  | nil => intro a; simp
  | cons p l ih =>
    intro a
    rw [List.foldl_cons, ih]
    by_cases hh : h p.2 S = true
    · rw [if_pos hh, Nat.testBit_or, Bool.or_eq_true, bit_dig]
      simp only [decide_eq_true_eq, List.mem_cons, exists_eq_or_imp]
      constructor
      · rintro ((h1 | ⟨h1, h2⟩) | ⟨h1, h2⟩)
        · exact .inl h1
        · exact .inr ⟨h2, .inl ⟨h1, hh⟩⟩
        · exact .inr ⟨h1, .inr h2⟩
      · rintro (h1 | ⟨h1, (⟨h2, _⟩ | h2)⟩)
        · exact .inl (.inl h1)
        · exact .inl (.inr ⟨h2, h1⟩)
        · exact .inr ⟨h1, h2⟩
    · rw [if_neg hh]
      simp only [List.mem_cons, exists_eq_or_imp]
      constructor
      · rintro (h1 | ⟨h1, h2⟩)
        · exact .inl h1
        · exact .inr ⟨h1, .inr h2⟩
      · rintro (h1 | ⟨h1, (⟨_, h2⟩ | h2)⟩)
        · exact .inl h1
        · exact absurd h2 hh
        · exact .inr ⟨h1, h2⟩
theorem bit_namedR (r : List Int) (i : Nat) : ∀ a, (namedR r a).testBit i = true ↔ a.testBit i = true ∨ (i < 64 ∧ ∃ s ∈ r, s - 100 = (i : Int)) := by
  induction r with
  | nil => intro a; simp [namedR]
  | cons s l ih =>
    intro a
    show (namedR l (a ||| sdig (s - 100))).testBit i = true ↔ _
    rw [ih, Nat.testBit_or, Bool.or_eq_true, bit_dig]
    simp only [decide_eq_true_eq, List.mem_cons, exists_eq_or_imp]
    constructor
    · rintro ((h1 | ⟨h1, h2⟩) | ⟨h1, h2⟩)
      · exact .inl h1
      · exact .inr ⟨h2, .inl h1⟩
      · exact .inr ⟨h1, .inr h2⟩
    · rintro (h1 | ⟨h1, (h2 | h2)⟩)
      · exact .inl (.inl h1)
      · exact .inl (.inr ⟨h2, h1⟩)
      · exact .inr ⟨h1, h2⟩
theorem bit_named (ps : List (Int × List Int)) (S i : Nat) : (namedF ps S).testBit i = true ↔ i < 64 ∧ ∃ p ∈ ps, shas S (p.1 - 100) = true ∧ ∃ s ∈ p.2, s - 100 = (i : Int) := by
  unfold namedF
  suffices H : ∀ (l : List (Int × List Int)) (a : Nat), (l.foldl (fun a p => if shas S (p.1 - 100) = true then namedR p.2 a else a) a).testBit i = true ↔ a.testBit i = true ∨ (i < 64 ∧ ∃ p ∈ l, shas S (p.1 - 100) = true ∧ ∃ s ∈ p.2, s - 100 = (i : Int)) by
    rw [H ps 0]; simp
  intro l
  induction l with
  | nil => intro a; simp
  | cons p l ih =>
    intro a
    rw [List.foldl_cons, ih]
    by_cases hh : shas S (p.1 - 100) = true
    · rw [if_pos hh, bit_namedR]
      simp only [List.mem_cons, exists_eq_or_imp]
      constructor
      · rintro ((h1 | ⟨h1, h2⟩) | ⟨h1, h2⟩)
        · exact .inl h1
        · exact .inr ⟨h1, .inl ⟨hh, h2⟩⟩
        · exact .inr ⟨h1, .inr h2⟩
      · rintro (h1 | ⟨h1, (⟨_, h2⟩ | h2)⟩)
        · exact .inl (.inl h1)
        · exact .inl (.inr ⟨h1, h2⟩)
        · exact .inr ⟨h1, h2⟩
    · rw [if_neg hh]
      simp only [List.mem_cons, exists_eq_or_imp]
      constructor
      · rintro (h1 | ⟨h1, h2⟩)
        · exact .inl h1
        · exact .inr ⟨h1, .inr h2⟩
      · rintro (h1 | ⟨h1, (⟨h2, _⟩ | h2)⟩)
        · exact .inl h1
        · exact absurd h2 hh
        · exact .inr ⟨h1, h2⟩

/-- Of which the empty word can come; of which any word can; what the start leads to. -/
inductive Nul (g : Gr) : Int → Prop where
  | mk (p : Int × List Int) : p ∈ g.prods → (∀ s ∈ p.2, Nul g s) → Nul g p.1
inductive Fru (g : Gr) : Int → Prop where
  | mk (p : Int × List Int) : p ∈ g.prods → (∀ s ∈ p.2, 100 ≤ s → Fru g s) → Fru g p.1
inductive Rea (g : Gr) : Int → Prop where
  | start : Rea g 100
  | step (p : Int × List Int) (s : Int) : p ∈ g.prods → Rea g p.1 → s ∈ p.2 → 100 ≤ s → Rea g s

/-- A set of nonterminals, by what is in it. -/
def SetIs (r : Nat) (P : Int → Prop) : Prop := r < 18446744073709551616 ∧ ∀ i : Nat, r.testBit i = true ↔ i < 64 ∧ P (100 + (i : Int))
theorem SetIs.uniq {r r' : Nat} {P : Int → Prop} (h : SetIs r P) (h' : SetIs r' P) : r = r' := Nat.eq_of_testBit_eq fun i => by
  rw [Bool.eq_iff_iff, h.2, h'.2]
theorem SetIs.has {r : Nat} {P : Int → Prop} (h : SetIs r P) (s : Int) : shas r (s - 100) = true ↔ 100 ≤ s ∧ s < 164 ∧ P s := by
  rw [has_eq, Bool.and_eq_true, decide_eq_true_eq, h.2]
  constructor
  · rintro ⟨⟨h1, h2⟩, h3, h4⟩
    refine ⟨by omega, by omega, ?_⟩
    rwa [show (100 : Int) + ((s - 100).toNat : Int) = s by omega] at h4
  · rintro ⟨h1, h2, h3⟩
    refine ⟨⟨by omega, by omega⟩, by omega, ?_⟩
    rwa [show (100 : Int) + ((s - 100).toNat : Int) = s by omega]
theorem or_bit {a b : Nat} (h : a ||| b = a) {i : Nat} (hb : b.testBit i = true) : a.testBit i = true := by
  rw [← h, Nat.testBit_or, hb, Bool.or_true]

/-- Every number of a production is a small one. -/
def NumsOk (g : Gr) : Prop := ∀ p ∈ g.prods, (100 ≤ p.1 ∧ p.1 < 164) ∧ ∀ s ∈ p.2, 0 ≤ s ∧ s < 164
theorem nums_of_check {g : Gr} (h : CheckG g) : NumsOk g := fun p hp => by
  have h1 := h.pv p hp
  have h8 := h.n8
  have ht8 := h.t8
  refine ⟨by omega, fun s hs => ?_⟩
  have := h1.2.2 s hs
  unfold symOk at this
  omega

theorem nul_is {g : Gr} (hn : NumsOk g) {r : Nat} (h : Grown (leftsF g.prods vanI) 0 r) : SetIs r (Nul g) := by
  obtain ⟨⟨n, rfl⟩, hc⟩ := h
  have hlt := iterS_lt (f := leftsF g.prods vanI) (s := 0) (by decide) (lefts_lt g.prods vanI)
  refine ⟨hlt n, fun i => ⟨fun hi => ?_, ?_⟩⟩
  · have key : ∀ m i, (iterS (leftsF g.prods vanI) 0 m).testBit i = true → i < 64 ∧ Nul g (100 + (i : Int)) := by
      intro m
      induction m with
      | zero => intro i hi; simp [iterS] at hi
      | succ m ih =>
        intro i hi
        have hi : (iterS (leftsF g.prods vanI) 0 m ||| leftsF g.prods vanI (iterS (leftsF g.prods vanI) 0 m)).testBit i = true := hi
        rw [Nat.testBit_or, Bool.or_eq_true] at hi
        rcases hi with hi | hi
        · exact ih i hi
        · obtain ⟨h64, p, hp, e, hv⟩ := (bit_lefts _ _ _ _).1 hi
          refine ⟨h64, ?_⟩
          have : Nul g p.1 := .mk p hp fun s hs => by
            have hsv := List.all_eq_true.1 hv s hs
            obtain ⟨a1, a2⟩ := (has_iff _ _).1 hsv
            have := (ih _ a2).2
            rwa [show (100 : Int) + ((s - 100).toNat : Int) = s by omega] at this
          rwa [show p.1 = 100 + (i : Int) by omega] at this
    exact key n i hi
  · rintro ⟨h64, hN⟩
    have key : ∀ x, Nul g x → ∃ j : Nat, x = 100 + (j : Int) ∧ j < 64 ∧ (iterS (leftsF g.prods vanI) 0 n).testBit j = true := by
      intro x hx
      induction hx with
      | mk p hp _ ih =>
        have hb := (hn p hp).1
        refine ⟨(p.1 - 100).toNat, by omega, by omega, or_bit hc ?_⟩
        rw [bit_lefts]
        refine ⟨by omega, p, hp, by omega, List.all_eq_true.2 fun s hs => ?_⟩
        obtain ⟨j, e, hj, hb⟩ := ih s hs
        rw [show s - 100 = (j : Int) by omega, shas_bit _ _ hj]
        exact hb
    obtain ⟨j, e, _, hb⟩ := key _ hN
    rwa [show i = j by omega]
theorem fru_is {g : Gr} (hn : NumsOk g) {r : Nat} (h : Grown (leftsF g.prods bearI) 0 r) : SetIs r (Fru g) := by
  obtain ⟨⟨n, rfl⟩, hc⟩ := h
  have hlt := iterS_lt (f := leftsF g.prods bearI) (s := 0) (by decide) (lefts_lt g.prods bearI)
  refine ⟨hlt n, fun i => ⟨fun hi => ?_, ?_⟩⟩
  · have key : ∀ m i, (iterS (leftsF g.prods bearI) 0 m).testBit i = true → i < 64 ∧ Fru g (100 + (i : Int)) := by
      intro m
      induction m with
      | zero => intro i hi; simp [iterS] at hi
      | succ m ih =>
        intro i hi
        have hi : (iterS (leftsF g.prods bearI) 0 m ||| leftsF g.prods bearI (iterS (leftsF g.prods bearI) 0 m)).testBit i = true := hi
        rw [Nat.testBit_or, Bool.or_eq_true] at hi
        rcases hi with hi | hi
        · exact ih i hi
        · obtain ⟨h64, p, hp, e, hv⟩ := (bit_lefts _ _ _ _).1 hi
          refine ⟨h64, ?_⟩
          have : Fru g p.1 := .mk p hp fun s hs h100 => by
            have hsv := List.all_eq_true.1 hv s hs
            rw [Bool.or_eq_true, decide_eq_true_eq] at hsv
            rcases hsv with hsv | hsv
            · omega
            · obtain ⟨a1, a2⟩ := (has_iff _ _).1 hsv
              have := (ih _ a2).2
              rwa [show (100 : Int) + ((s - 100).toNat : Int) = s by omega] at this
          rwa [show p.1 = 100 + (i : Int) by omega] at this
    exact key n i hi
  · rintro ⟨h64, hN⟩
    have key : ∀ x, Fru g x → ∃ j : Nat, x = 100 + (j : Int) ∧ j < 64 ∧ (iterS (leftsF g.prods bearI) 0 n).testBit j = true := by
      intro x hx
      induction hx with
      | mk p hp _ ih =>
        have hb := (hn p hp).1
        refine ⟨(p.1 - 100).toNat, by omega, by omega, or_bit hc ?_⟩
        rw [bit_lefts]
        refine ⟨by omega, p, hp, by omega, List.all_eq_true.2 fun s hs => ?_⟩
        rw [Bool.or_eq_true, decide_eq_true_eq]
        by_cases h100 : s < 100
        · exact .inl h100
        · right
          obtain ⟨j, e, hj, hb⟩ := ih s hs (by omega)
          rw [show s - 100 = (j : Int) by omega, shas_bit _ _ hj]
          exact hb
    obtain ⟨j, e, _, hb⟩ := key _ hN
    rwa [show i = j by omega]
theorem rea_is {g : Gr} (hn : NumsOk g) {r : Nat} (h : Grown (namedF g.prods) 1 r) : SetIs r (Rea g) := by
  obtain ⟨⟨n, rfl⟩, hc⟩ := h
  have hlt := iterS_lt (f := namedF g.prods) (s := 1) (by decide) (named_lt g.prods)
  refine ⟨hlt n, fun i => ⟨fun hi => ?_, ?_⟩⟩
  · have key : ∀ m i, (iterS (namedF g.prods) 1 m).testBit i = true → i < 64 ∧ Rea g (100 + (i : Int)) := by
      intro m
      induction m with
      | zero =>
        intro i hi
        have hi : Nat.testBit 1 i = true := hi
        have h0 : i = 0 := by
          rw [show (1 : Nat) = 2 ^ 0 from rfl, Nat.testBit_two_pow] at hi
          simpa using (of_decide_eq_true hi).symm
        subst h0
        exact ⟨by omega, .start⟩
      | succ m ih =>
        intro i hi
        have hi : (iterS (namedF g.prods) 1 m ||| namedF g.prods (iterS (namedF g.prods) 1 m)).testBit i = true := hi
        rw [Nat.testBit_or, Bool.or_eq_true] at hi
        rcases hi with hi | hi
        · exact ih i hi
        · obtain ⟨h64, p, hp, hl, s, hs, e⟩ := (bit_named _ _ _).1 hi
          refine ⟨h64, ?_⟩
          obtain ⟨a1, a2⟩ := (has_iff _ _).1 hl
          have h2 := (ih _ a2).2
          rw [show (100 : Int) + ((p.1 - 100).toNat : Int) = p.1 by omega] at h2
          have : Rea g s := .step p s hp h2 hs (by omega)
          rwa [show s = 100 + (i : Int) by omega] at this
    exact key n i hi
  · rintro ⟨h64, hN⟩
    have key : ∀ x, Rea g x → ∃ j : Nat, x = 100 + (j : Int) ∧ j < 64 ∧ (iterS (namedF g.prods) 1 n).testBit j = true := by
      intro x hx
      induction hx with
      | start =>
        refine ⟨0, by omega, by omega, ?_⟩
        have : ∀ m, (iterS (namedF g.prods) 1 m).testBit 0 = true := by
          intro m
          induction m with
          | zero => exact (by decide : Nat.testBit 1 0 = true)
          | succ m ih => show Nat.testBit (iterS (namedF g.prods) 1 m ||| _) 0 = true; rw [Nat.testBit_or, ih]; rfl
        exact this n
      | step p s hp _ hs h100 ih =>
        obtain ⟨j, e, hj, hb⟩ := ih
        have hb2 := (hn p hp).2 s hs
        refine ⟨(s - 100).toNat, by omega, by omega, or_bit hc ?_⟩
        rw [bit_named]
        refine ⟨by omega, p, hp, ?_, s, hs, by omega⟩
        rw [show p.1 - 100 = (j : Int) by omega, shas_bit _ _ hj]
        exact hb
    obtain ⟨j, e, _, hb⟩ := key _ hN
    rwa [show i = j by omega]

end Go.Proofs.Ytdnlbmdmaiacaaa
