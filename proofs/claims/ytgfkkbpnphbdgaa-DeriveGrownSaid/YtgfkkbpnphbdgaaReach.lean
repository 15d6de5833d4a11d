/- What is of use in a grammar: sets that grow, in plain words. No program here. reach: the small calls, walked. reach: lefts, walked. reach: what grows, walked. reach: Nullable, Fruitful, Reached, Trim: of a grammar that may be. reach: Trim, of a grammar that may be. ReachHolds: what holds of the sets. No program here. wakes of chapter 5. -/
import Derived.Test.YtgfkkbpnphbdgaaSetO
import Derived.Test.YtgfkkbpnphbdgaaSpec
import Derived.Test.YtgfkkbpnphbdgaaChk
import Derived.Test.YtgfkkbpnphbdgaaWake
import Derived.Test.YtgfkkbpnphbdgaaRaw
import Derived.Deep.CutRange
namespace Go.Proofs.Ytgfkkbpnphbdgaa
open Doc

def vanI (r : List Int) (S : Nat) : Bool := r.all fun s => shas S (s - 100)
def bearI (r : List Int) (S : Nat) : Bool := r.all fun s => decide (s < 100) || shas S (s - 100)
def leftsF (ps : List (Int × List Int)) (h : List Int → Nat → Bool) (S : Nat) : Nat := ps.foldl (fun a p => if h p.2 S = true then a ||| sdig (p.1 - 100) else a) 0
def namedR (r : List Int) (a : Nat) : Nat := r.foldl (fun a s => a ||| sdig (s - 100)) a
def namedF (ps : List (Int × List Int)) (S : Nat) : Nat := ps.foldl (fun a p => if shas S (p.1 - 100) = true then namedR p.2 a else a) 0
def iterS (f : Nat → Nat) (s : Nat) : Nat → Nat
  | 0 => s
  | n + 1 => iterS f s n ||| f (iterS f s n)
/-- What grow tells: the rounds' last. -/
def Grown (f : Nat → Nat) (s r : Nat) : Prop := (∃ n, r = iterS f s n) ∧ r ||| f r = r

theorem lefts_lt (ps : List (Int × List Int)) (h : List Int → Nat → Bool) (S : Nat) : leftsF ps h S < 18446744073709551616 := by
  unfold leftsF
  suffices H : ∀ (l : List (Int × List Int)) (a : Nat), a < 18446744073709551616 → l.foldl (fun a p => if h p.2 S = true then a ||| sdig (p.1 - 100) else a) a < 18446744073709551616 from H ps 0 (by decide)
  intro l
  induction l with
  | nil => intro a ha; exact ha
  | cons p l ih =>
    intro a ha
    rw [List.foldl_cons]
    apply ih
    split
    · exact or_lt _ _ ha (dig_lt _)
    · exact ha
theorem namedR_lt (r : List Int) : ∀ a, a < 18446744073709551616 → namedR r a < 18446744073709551616 := by
  induction r with
  | nil => intro a ha; exact ha
  | cons s l ih => intro a ha; exact ih _ (or_lt _ _ ha (dig_lt _))
theorem named_lt (ps : List (Int × List Int)) (S : Nat) : namedF ps S < 18446744073709551616 := by
  unfold namedF
  suffices H : ∀ (l : List (Int × List Int)) (a : Nat), a < 18446744073709551616 → l.foldl (fun a p => if shas S (p.1 - 100) = true then namedR p.2 a else a) a < 18446744073709551616 from H ps 0 (by decide)
  intro l
  induction l with
  | nil => intro a ha; exact ha
  | cons p l ih =>
    intro a ha
    rw [List.foldl_cons]
    apply ih
    split
    · exact namedR_lt _ _ ha
    · exact ha
theorem iterS_lt {f : Nat → Nat} {s : Nat} (hs : s < 18446744073709551616) (hf : ∀ u, f u < 18446744073709551616) : ∀ n, iterS f s n < 18446744073709551616
  | 0 => hs
  | n + 1 => or_lt _ _ (iterS_lt hs hf n) (hf _)
theorem le_or (a b : Nat) : a ≤ a ||| b := Nat.left_le_or

theorem has_iff (S : Nat) (n : Int) : shas S n = true ↔ (0 ≤ n ∧ n < 64) ∧ S.testBit n.toNat = true := by
  rw [has_eq, Bool.and_eq_true, decide_eq_true_eq]
/-- A digit of a set. -/
theorem shas_bit (S : Nat) (k : Nat) (hk : k < 64) : shas S (k : Int) = S.testBit k := by
  rw [has_eq]
  have : decide ((0 : Int) ≤ k ∧ (k : Int) < 64) = true := by rw [decide_eq_true_iff]; omega
  rw [this]; simp
theorem bit_lefts (ps : List (Int × List Int)) (h : List Int → Nat → Bool) (S i : Nat) : (leftsF ps h S).testBit i = true ↔ i < 64 ∧ ∃ p ∈ ps, p.1 - 100 = (i : Int) ∧ h p.2 S = true := by
  unfold leftsF
  suffices H : ∀ (l : List (Int × List Int)) (a : Nat), (l.foldl (fun a p => if h p.2 S = true then a ||| sdig (p.1 - 100) else a) a).testBit i = true ↔ a.testBit i = true ∨ (i < 64 ∧ ∃ p ∈ l, p.1 - 100 = (i : Int) ∧ h p.2 S = true) by
    rw [H ps 0]; simp
  intro l
  induction l with
  | nil => intro a; simp
  | cons p l ih =>
    intro a
    rw [List.foldl_cons, ih]
    by_cases hh : h p.2 S = true
    · rw [if_pos hh, Nat.testBit_or, Bool.or_eq_true, bit_dig]
      simp only [decide_eq_true_eq, List.mem_cons, exists_eq_or_imp]
      constructor
      · rintro ((h1 | ⟨h1, h2⟩) | ⟨h1, h2⟩)
        · exact .inl h1
        · exact .inr ⟨h2, .inl ⟨h1, hh⟩⟩
        · exact .inr ⟨h1, .inr h2⟩
      · rintro (h1 | ⟨h1, (⟨h2, _⟩ | h2)⟩)
        · exact .inl (.inl h1)
        · exact .inl (.inr ⟨h2, h1⟩)
        · exact .inr ⟨h1, h2⟩
    · rw [if_neg hh]
      simp only [List.mem_cons, exists_eq_or_imp]
      constructor
      · rintro (h1 | ⟨h1, h2⟩)
        · exact .inl h1
        · exact .inr ⟨h1, .inr h2⟩
      · rintro (h1 | ⟨h1, (⟨_, h2⟩ | h2)⟩)
        · exact .inl h1
        · exact absurd h2 hh
        · exact .inr ⟨h1, h2⟩
theorem bit_namedR (r : List Int) (i : Nat) : ∀ a, (namedR r a).testBit i = true ↔ a.testBit i = true ∨ (i < 64 ∧ ∃ s ∈ r, s - 100 = (i : Int)) := by
  induction r with
  | nil => intro a; simp [namedR]
  | cons s l ih =>
    intro a
    show (namedR l (a ||| sdig (s - 100))).testBit i = true ↔ _
    rw [ih, Nat.testBit_or, Bool.or_eq_true, bit_dig]
    simp only [decide_eq_true_eq, List.mem_cons, exists_eq_or_imp]
    constructor
    · rintro ((h1 | ⟨h1, h2⟩) | ⟨h1, h2⟩)
      · exact .inl h1
      · exact .inr ⟨h2, .inl h1⟩
      · exact .inr ⟨h1, .inr h2⟩
    · rintro (h1 | ⟨h1, (h2 | h2)⟩)
      · exact .inl (.inl h1)
      · exact .inl (.inr ⟨h2, h1⟩)
      · exact .inr ⟨h1, h2⟩
theorem bit_named (ps : List (Int × List Int)) (S i : Nat) : (namedF ps S).testBit i = true ↔ i < 64 ∧ ∃ p ∈ ps, shas S (p.1 - 100) = true ∧ ∃ s ∈ p.2, s - 100 = (i : Int) := by
  unfold namedF
  suffices H : ∀ (l : List (Int × List Int)) (a : Nat), (l.foldl (fun a p => if shas S (p.1 - 100) = true then namedR p.2 a else a) a).testBit i = true ↔ a.testBit i = true ∨ (i < 64 ∧ ∃ p ∈ l, shas S (p.1 - 100) = true ∧ ∃ s ∈ p.2, s - 100 = (i : Int)) by
    rw [H ps 0]; simp
  intro l
  induction l with
  | nil => intro a; simp
  | cons p l ih =>
    intro a
    rw [List.foldl_cons, ih]
    by_cases hh : shas S (p.1 - 100) = true
    · rw [if_pos hh, bit_namedR]
      simp only [List.mem_cons, exists_eq_or_imp]
      constructor
      · rintro ((h1 | ⟨h1, h2⟩) | ⟨h1, h2⟩)
        · exact .inl h1
        · exact .inr ⟨h1, .inl ⟨hh, h2⟩⟩
        · exact .inr ⟨h1, .inr h2⟩
      · rintro (h1 | ⟨h1, (⟨_, h2⟩ | h2)⟩)
        · exact .inl (.inl h1)
        · exact .inl (.inr ⟨h1, h2⟩)
        · exact .inr ⟨h1, h2⟩
    · rw [if_neg hh]
      simp only [List.mem_cons, exists_eq_or_imp]
      constructor
      · rintro (h1 | ⟨h1, h2⟩)
        · exact .inl h1
        · exact .inr ⟨h1, .inr h2⟩
      · rintro (h1 | ⟨h1, (⟨h2, _⟩ | h2)⟩)
        · exact .inl h1
        · exact absurd h2 hh
        · exact .inr ⟨h1, h2⟩

/-- Of which the empty word can come; of which any word can; what the start leads to. -/
inductive Nul (g : Gr) : Int → Prop where
  | mk (p : Int × List Int) : p ∈ g.prods → (∀ s ∈ p.2, Nul g s) → Nul g p.1
inductive Fru (g : Gr) : Int → Prop where
  | mk (p : Int × List Int) : p ∈ g.prods → (∀ s ∈ p.2, 100 ≤ s → Fru g s) → Fru g p.1
inductive Rea (g : Gr) : Int → Prop where
  | start : Rea g 100
  | step (p : Int × List Int) (s : Int) : p ∈ g.prods → Rea g p.1 → s ∈ p.2 → 100 ≤ s → Rea g s

/-- A set of nonterminals, by what is in it. -/
def SetIs (r : Nat) (P : Int → Prop) : Prop := r < 18446744073709551616 ∧ ∀ i : Nat, r.testBit i = true ↔ i < 64 ∧ P (100 + (i : Int))
theorem SetIs.uniq {r r' : Nat} {P : Int → Prop} (h : SetIs r P) (h' : SetIs r' P) : r = r' := Nat.eq_of_testBit_eq fun i => by
  rw [Bool.eq_iff_iff, h.2, h'.2]
theorem SetIs.has {r : Nat} {P : Int → Prop} (h : SetIs r P) (s : Int) : shas r (s - 100) = true ↔ 100 ≤ s ∧ s < 164 ∧ P s := by
  rw [has_eq, Bool.and_eq_true, decide_eq_true_eq, h.2]
  constructor
  · rintro ⟨⟨h1, h2⟩, h3, h4⟩
    refine ⟨by omega, by omega, ?_⟩
    rwa [show (100 : Int) + ((s - 100).toNat : Int) = s by omega] at h4
  · rintro ⟨h1, h2, h3⟩
    refine ⟨⟨by omega, by omega⟩, by omega, ?_⟩
    rwa [show (100 : Int) + ((s - 100).toNat : Int) = s by omega]
theorem or_bit {a b : Nat} (h : a ||| b = a) {i : Nat} (hb : b.testBit i = true) : a.testBit i = true := by
  rw [← h, Nat.testBit_or, hb, Bool.or_true]

/-- Every number of a production is a small one. -/
def NumsOk (g : Gr) : Prop := ∀ p ∈ g.prods, (100 ≤ p.1 ∧ p.1 < 164) ∧ ∀ s ∈ p.2, 0 ≤ s ∧ s < 164
theorem nums_of_check {g : Gr} (h : CheckG g) : NumsOk g := fun p hp => by
  have h1 := h.pv p hp
  have h8 := h.n8
  have ht8 := h.t8
  refine ⟨by omega, fun s hs => ?_⟩
  have := h1.2.2 s hs
  unfold symOk at this
  omega

theorem nul_is {g : Gr} (hn : NumsOk g) {r : Nat} (h : Grown (leftsF g.prods vanI) 0 r) : SetIs r (Nul g) := by
  obtain ⟨⟨n, rfl⟩, hc⟩ := h
  have hlt := iterS_lt (f := leftsF g.prods vanI) (s := 0) (by decide) (lefts_lt g.prods vanI)
  refine ⟨hlt n, fun i => ⟨fun hi => ?_, ?_⟩⟩
  · have key : ∀ m i, (iterS (leftsF g.prods vanI) 0 m).testBit i = true → i < 64 ∧ Nul g (100 + (i : Int)) := by
      intro m
      induction m with
      | zero => intro i hi; simp [iterS] at hi
      | succ m ih =>
        intro i hi
        have hi : (iterS (leftsF g.prods vanI) 0 m ||| leftsF g.prods vanI (iterS (leftsF g.prods vanI) 0 m)).testBit i = true := hi
        rw [Nat.testBit_or, Bool.or_eq_true] at hi
        rcases hi with hi | hi
        · exact ih i hi
        · obtain ⟨h64, p, hp, e, hv⟩ := (bit_lefts _ _ _ _).1 hi
          refine ⟨h64, ?_⟩
          have : Nul g p.1 := .mk p hp fun s hs => by
            have hsv := List.all_eq_true.1 hv s hs
            obtain ⟨a1, a2⟩ := (has_iff _ _).1 hsv
            have := (ih _ a2).2
            rwa [show (100 : Int) + ((s - 100).toNat : Int) = s by omega] at this
          rwa [show p.1 = 100 + (i : Int) by omega] at this
    exact key n i hi
  · rintro ⟨h64, hN⟩
    have key : ∀ x, Nul g x → ∃ j : Nat, x = 100 + (j : Int) ∧ j < 64 ∧ (iterS (leftsF g.prods vanI) 0 n).testBit j = true := by
      intro x hx
      induction hx with
      | mk p hp _ ih =>
        have hb := (hn p hp).1
        refine ⟨(p.1 - 100).toNat, by omega, by omega, or_bit hc ?_⟩
        rw [bit_lefts]
        refine ⟨by omega, p, hp, by omega, List.all_eq_true.2 fun s hs => ?_⟩
        obtain ⟨j, e, hj, hb⟩ := ih s hs
        rw [show s - 100 = (j : Int) by omega, shas_bit _ _ hj]
        exact hb
    obtain ⟨j, e, _, hb⟩ := key _ hN
    rwa [show i = j by omega]
theorem fru_is {g : Gr} (hn : NumsOk g) {r : Nat} (h : Grown (leftsF g.prods bearI) 0 r) : SetIs r (Fru g) := by
  obtain ⟨⟨n, rfl⟩, hc⟩ := h
  have hlt := iterS_lt (f := leftsF g.prods bearI) (s := 0) (by decide) (lefts_lt g.prods bearI)
  refine ⟨hlt n, fun i => ⟨fun hi => ?_, ?_⟩⟩
  · have key : ∀ m i, (iterS (leftsF g.prods bearI) 0 m).testBit i = true → i < 64 ∧ Fru g (100 + (i : Int)) := by
      intro m
      induction m with
      | zero => intro i hi; simp [iterS] at hi
      | succ m ih =>
        intro i hi
        have hi : (iterS (leftsF g.prods bearI) 0 m ||| leftsF g.prods bearI (iterS (leftsF g.prods bearI) 0 m)).testBit i = true := hi
        rw [Nat.testBit_or, Bool.or_eq_true] at hi
        rcases hi with hi | hi
        · exact ih i hi
        · obtain ⟨h64, p, hp, e, hv⟩ := (bit_lefts _ _ _ _).1 hi
          refine ⟨h64, ?_⟩
          have : Fru g p.1 := .mk p hp fun s hs h100 => by
            have hsv := List.all_eq_true.1 hv s hs
            rw [Bool.or_eq_true, decide_eq_true_eq] at hsv
            rcases hsv with hsv | hsv
            · omega
            · obtain ⟨a1, a2⟩ := (has_iff _ _).1 hsv
              have := (ih _ a2).2
              rwa [show (100 : Int) + ((s - 100).toNat : Int) = s by omega] at this
          rwa [show p.1 = 100 + (i : Int) by omega] at this
    exact key n i hi
  · rintro ⟨h64, hN⟩
    have key : ∀ x, Fru g x → ∃ j : Nat, x = 100 + (j : Int) ∧ j < 64 ∧ (iterS (leftsF g.prods bearI) 0 n).testBit j = true := by
      intro x hx
      induction hx with
      | mk p hp _ ih =>
        have hb := (hn p hp).1
        refine ⟨(p.1 - 100).toNat, by omega, by omega, or_bit hc ?_⟩
        rw [bit_lefts]
        refine ⟨by omega, p, hp, by omega, List.all_eq_true.2 fun s hs => ?_⟩
        rw [Bool.or_eq_true, decide_eq_true_eq]
        by_cases h100 : s < 100
        · exact .inl h100
        · right
          obtain ⟨j, e, hj, hb⟩ := ih s hs (by omega)
          rw [show s - 100 = (j : Int) by omega, shas_bit _ _ hj]
          exact hb
    obtain ⟨j, e, _, hb⟩ := key _ hN
    rwa [show i = j by omega]
theorem rea_is {g : Gr} (hn : NumsOk g) {r : Nat} (h : Grown (namedF g.prods) 1 r) : SetIs r (Rea g) := by
  obtain ⟨⟨n, rfl⟩, hc⟩ := h
  have hlt := iterS_lt (f := namedF g.prods) (s := 1) (by decide) (named_lt g.prods)
  refine ⟨hlt n, fun i => ⟨fun hi => ?_, ?_⟩⟩
  · have key : ∀ m i, (iterS (namedF g.prods) 1 m).testBit i = true → i < 64 ∧ Rea g (100 + (i : Int)) := by
      intro m
      induction m with
      | zero =>
        intro i hi
        have hi : Nat.testBit 1 i = true := hi
        have h0 : i = 0 := by
          rw [show (1 : Nat) = 2 ^ 0 from rfl, Nat.testBit_two_pow] at hi
          simpa using (of_decide_eq_true hi).symm
        subst h0
        exact ⟨by omega, .start⟩
      | succ m ih =>
        intro i hi
        have hi : (iterS (namedF g.prods) 1 m ||| namedF g.prods (iterS (namedF g.prods) 1 m)).testBit i = true := hi
        rw [Nat.testBit_or, Bool.or_eq_true] at hi
        rcases hi with hi | hi
        · exact ih i hi
        · obtain ⟨h64, p, hp, hl, s, hs, e⟩ := (bit_named _ _ _).1 hi
          refine ⟨h64, ?_⟩
          obtain ⟨a1, a2⟩ := (has_iff _ _).1 hl
          have h2 := (ih _ a2).2
          rw [show (100 : Int) + ((p.1 - 100).toNat : Int) = p.1 by omega] at h2
          have : Rea g s := .step p s hp h2 hs (by omega)
          rwa [show s = 100 + (i : Int) by omega] at this
    exact key n i hi
  · rintro ⟨h64, hN⟩
    have key : ∀ x, Rea g x → ∃ j : Nat, x = 100 + (j : Int) ∧ j < 64 ∧ (iterS (namedF g.prods) 1 n).testBit j = true := by
      intro x hx
      induction hx with
      | start =>
        refine ⟨0, by omega, by omega, ?_⟩
        have : ∀ m, (iterS (namedF g.prods) 1 m).testBit 0 = true := by
          intro m
          induction m with
          | zero => exact (by decide : Nat.testBit 1 0 = true)
          | succ m ih => show Nat.testBit (iterS (namedF g.prods) 1 m ||| _) 0 = true; rw [Nat.testBit_or, ih]; rfl
        exact this n
      | step p s hp _ hs h100 ih =>
        obtain ⟨j, e, hj, hb⟩ := ih
        have hb2 := (hn p hp).2 s hs
        refine ⟨(s - 100).toNat, by omega, by omega, or_bit hc ?_⟩
        rw [bit_named]
        refine ⟨by omega, p, hp, ?_, s, hs, by omega⟩
        rw [show p.1 - 100 = (j : Int) by omega, shas_bit _ _ hj]
        exact hb
    obtain ⟨j, e, _, hb⟩ := key _ hN
    rwa [show i = j by omega]

end Go.Proofs.Ytgfkkbpnphbdgaa

namespace Go.Proofs.Ytgfkkbpnphbdgaa
open Go.RowKit
open Doc

theorem all_take {r : List Int} {h : Int → Bool} {k : Nat} {s : Int} (hs : r[k]? = some s) (hp : (r.take k).all h = true) (hh : h s = true) : (r.take (k + 1)).all h = true := by
  rw [List.take_add_one, hs]; simp only [Option.toList_some, List.all_append, hp, List.all_cons, hh, List.all_nil, Bool.and_self]
theorem all_not {r : List Int} {h : Int → Bool} {k : Nat} {s : Int} (hs : r[k]? = some s) (hh : h s = false) : r.all h = false := by
  rw [List.all_eq_false]
  exact ⟨s, List.mem_of_getElem? hs, by simp [hh]⟩

def Small (r : List Int) : Prop := ∀ s ∈ r, -1000 ≤ s ∧ s ≤ 1000

theorem leftsN_step {ls : List Lay} {k : Nat} {p : Lay} {S : Nat} (hp : ls[k]? = some p) (h : List Int → Nat → Bool) : leftsF ((ls.take (k + 1)).map Lay.plain) h S = if h p.right S = true then leftsF ((ls.take k).map Lay.plain) h S ||| sdig (p.left - 100) else leftsF ((ls.take k).map Lay.plain) h S := by
  rw [List.take_add_one, hp]
  simp only [Option.toList_some, List.map_append, List.map_cons, List.map_nil, leftsF, List.foldl_append, List.foldl_cons, List.foldl_nil]
  rfl


end Go.Proofs.Ytgfkkbpnphbdgaa

namespace Go.Proofs.Ytgfkkbpnphbdgaa
open Go.RowKit
open Doc

end Go.Proofs.Ytgfkkbpnphbdgaa

namespace Go.Proofs.Ytgfkkbpnphbdgaa
open Go.RowKit
open Doc

/-- Sizes and numbers that the walks ask for. -/
structure RGr (g : Gr) : Prop where
  ps : g.prods.length ≤ 1000000
  pv : ∀ p ∈ g.prods, Small p.2 ∧ p.2.length ≤ 1000000 ∧ -1000 ≤ p.1 ∧ p.1 ≤ 1000
theorem rgr_check {g : Gr} (h : CheckG g) : RGr g := by
  refine ⟨by have := h.p24; omega, fun p hp => ?_⟩
  have h1 := (nums_of_check h) p hp
  have h2 := (h.pv p hp).2.1
  exact ⟨fun s hs => by have := h1.2 s hs; omega, by omega, by omega, by omega⟩
theorem rgr_lay {g : Gr} (h : RGr g) {ls : List Lay} (hp : ls.map Lay.plain = g.prods) : (∀ p ∈ ls, Small p.right ∧ p.right.length ≤ 1000000 ∧ -1000 ≤ p.left ∧ p.left ≤ 1000) ∧ ls.length ≤ 1000000 := by
  refine ⟨fun p hp' => ?_, ?_⟩
  · have := h.pv p.plain (by rw [← hp]; exact List.mem_map.2 ⟨p, hp', rfl⟩)
    exact this
  · have := h.ps; rw [← hp, List.length_map] at this; exact this

theorem named_step {ls : List Lay} {k : Nat} {p : Lay} {S : Nat} (hp : ls[k]? = some p) : namedF ((ls.take (k + 1)).map Lay.plain) S = if shas S (p.left - 100) = true then namedR p.right (namedF ((ls.take k).map Lay.plain) S) else namedF ((ls.take k).map Lay.plain) S := by
  rw [List.take_add_one, hp]
  simp only [Option.toList_some, List.map_append, List.map_cons, List.map_nil, namedF, List.foldl_append, List.foldl_cons, List.foldl_nil]
  rfl
theorem namedR_step {r : List Int} {k : Nat} {s : Int} (hs : r[k]? = some s) (a : Nat) : namedR (r.take (k + 1)) a = namedR (r.take k) a ||| sdig (s - 100) := by
  rw [List.take_add_one, hs]
  simp only [Option.toList_some, namedR, List.foldl_append, List.foldl_cons, List.foldl_nil]

end Go.Proofs.Ytgfkkbpnphbdgaa

namespace Go.Proofs.Ytgfkkbpnphbdgaa
open Go.RowKit
open Doc

theorem chk_ok {g : Gr} (h : CheckG g) : chkI g = 0 := if_pos ((chk_iff g).2 h)
theorem fits_check {g : Gr} (h : CheckG g) : Fits g := by
  have h1 := h.t8
  have h2 := h.n8
  have h3 := h.p24
  exact ⟨by omega, by omega, by omega, fun p hp => by have := (h.pv p hp).2.1; omega⟩
theorem small_checkG {g : Gr} (h : CheckG g) : SmallG g := fun p hp => by
  have h1 := nums_of_check h p hp
  unfold maxI
  exact ⟨by omega, fun s hs => by have := h1.2 s hs; omega⟩
theorem kind_len {x : List UInt8} (h : kindOf x ≠ 0) : x.length ≤ 8 := by
  cases x with
  | nil => simp
  | cons c l =>
    have e : kindOf (c :: l) = if nameOk (c :: l) = true then (if up c = true then 1 else 2) else 0 := rfl
    rw [e] at h
    cases hn : nameOk (c :: l) with
    | false => rw [hn] at h; simp at h
    | true => unfold nameOk at hn; simp at hn; have := hn.1.1; simp only [List.length_cons]; omega
theorem check_terms {g : Gr} (h : CheckG g) : ∀ x ∈ g.terms, x.length ≤ maxLen := fun x hx => by
  have := kind_len (x := x) (by rw [h.tk x hx]; decide); unfold maxLen; omega
theorem check_nons {g : Gr} (h : CheckG g) : ∀ x ∈ g.nons, x.length ≤ maxLen := fun x hx => by
  have := kind_len (x := x) (by rw [h.nk x hx]; decide); unfold maxLen; omega
theorem check_calls (v : Value) (g : Gr) (w : World) (hg : GramAt w v g) (h : CheckG g) :
    Calls Try.prog 50 #[v] w fun e w' => e = .returned (.int .i64 0) ∧ Below w.heap.size w w' :=
  (chk_any v g w hg (fits_check h) (small_checkG h) (check_terms h) (check_nons h)).mono fun e w' ⟨he, hb⟩ => ⟨he.trans (by rw [chk_ok h]), hb⟩

theorem box_at {w w2 : World} {o : Obj} (h : Below (w.alloc o).heap.size (w.alloc o) w2) : w2.heap[w.heap.size]? = some o := (h.block w.heap.size (by simp)).trans (heap_alloc_new w o)

theorem ofL_one' : ofL [0] = 1 := by decide

end Go.Proofs.Ytgfkkbpnphbdgaa

namespace Go.Proofs.Ytgfkkbpnphbdgaa
open Go.RowKit
open Doc

/-- The places of productions all of whose nonterminals are in F. -/
def trimF (F : Nat) : List (Int × List Int) → Nat → List Int
  | [], _ => []
  | p :: l, i => if bearI p.2 F = true then (i : Int) :: trimF F l (i + 1) else trimF F l (i + 1)
theorem trimF_app (F : Nat) (p : Int × List Int) : ∀ (l : List (Int × List Int)) (i : Nat), trimF F (l ++ [p]) i = trimF F l i ++ (if bearI p.2 F = true then [((i + l.length : Nat) : Int)] else [])
  | [], i => by simp only [List.nil_append, trimF, List.length_nil, Nat.add_zero]
  | q :: l, i => by
    simp only [List.cons_append, trimF, List.length_cons]
    rw [trimF_app F p l (i + 1), show i + 1 + l.length = i + (l.length + 1) by omega]
    split <;> simp
theorem trimF_step {ls : List Lay} {k : Nat} {p : Lay} {F : Nat} (hp : ls[k]? = some p) : trimF F ((ls.take (k + 1)).map Lay.plain) 0 = trimF F ((ls.take k).map Lay.plain) 0 ++ (if bearI p.right F = true then [(k : Int)] else []) := by
  have hk := (List.getElem?_eq_some_iff.1 hp).1
  rw [List.take_add_one, hp]
  simp only [Option.toList_some, List.map_append, List.map_cons, List.map_nil]
  rw [trimF_app]
  have e : 0 + ((ls.take k).map Lay.plain).length = k := by rw [List.length_map, List.length_take]; omega
  rw [e]
  rfl
theorem trimF_len (F : Nat) : ∀ (l : List (Int × List Int)) (i : Nat), (trimF F l i).length ≤ l.length
  | [], _ => by simp [trimF]
  | p :: l, i => by
    have := trimF_len F l (i + 1)
    simp only [trimF]
    split <;> simp only [List.length_cons] <;> omega
theorem trimF_mem (F : Nat) : ∀ (l : List (Int × List Int)) (i : Nat) (x : Int), x ∈ trimF F l i ↔ ∃ j p, l[j]? = some p ∧ bearI p.2 F = true ∧ x = ((i + j : Nat) : Int)
  | [], i, x => by simp [trimF]
  | q :: l, i, x => by
    have ih := trimF_mem F l (i + 1) x
    have step : (∃ j p, (q :: l)[j]? = some p ∧ bearI p.2 F = true ∧ x = ((i + j : Nat) : Int)) ↔ (bearI q.2 F = true ∧ x = (i : Int)) ∨ x ∈ trimF F l (i + 1) := by
      rw [ih]
      constructor
      · rintro ⟨j, p, hj, hb, e⟩
        cases j with
        | zero => simp at hj; subst hj; exact .inl ⟨hb, by simpa using e⟩
        | succ j => exact .inr ⟨j, p, by simpa using hj, hb, by rw [e]; congr 1; omega⟩
      · rintro (⟨hb, e⟩ | ⟨j, p, hj, hb, e⟩)
        · exact ⟨0, q, rfl, hb, by simpa using e⟩
        · exact ⟨j + 1, p, by simpa using hj, hb, by rw [e]; congr 1; omega⟩
    rw [step]
    simp only [trimF]
    split
    · rename_i hb
      rw [List.mem_cons]
      constructor
      · rintro (h | h)
        · exact .inl ⟨hb, h⟩
        · exact .inr h
      · rintro (⟨_, h⟩ | h)
        · exact .inl h
        · exact .inr h
    · rename_i hb
      constructor
      · exact .inr
      · rintro (⟨h, _⟩ | h)
        · exact absurd h hb
        · exact h

/-- How Trim ends. -/
def TrimEnd (B : Nat) (g : Gr) (e : Ending) (w' : World) : Prop :=
  ∃ F : Nat, SetIs F (Fru g) ∧ ((shas F 0 = true ∧ ∃ (a : Option Addr) (c : Nat), e = .returned (.tuple #[.slice a (trimF F g.prods 0).length c, .int .i64 0]) ∧ w'.ownsRow B 3 1 (.slice a (trimF F g.prods 0).length c) (trimF F g.prods 0).length (nums (trimF F g.prods 0))) ∨
    (shas F 0 = false ∧ e = .returned (.tuple #[.slice none 0 0, .int .i64 6])))

end Go.Proofs.Ytgfkkbpnphbdgaa

namespace Go.Proofs.Ytgfkkbpnphbdgaa
open Go.RowKit
open Doc

theorem nul_fru {g : Gr} : ∀ {x : Int}, Nul g x → Fru g x := fun {x} h => by
  induction h with
  | mk p hp _ ih => exact .mk p hp fun s hs _ => ih s hs
theorem less_zero {n f : Nat} {P Q : Int → Prop} (hn : SetIs n P) (hf : SetIs f Q) (h : ∀ x, P x → Q x) : sless n f = 0 := Nat.eq_of_testBit_eq fun i => by
  rw [bit_less n f i hn.1 hf.1, Nat.zero_testBit, Bool.eq_false_iff]
  intro hb
  rw [Bool.and_eq_true, hn.2] at hb
  have h2 := (hf.2 i).2 ⟨hb.1.1, h _ hb.1.2⟩
  rw [h2] at hb
  simp at hb
theorem has_zero {r : Nat} {P : Int → Prop} (h : SetIs r P) : shas r 0 = true ↔ P 100 := by
  have := h.has 100
  simp only [Int.sub_self] at this
  rw [this]
  constructor
  · exact fun h => h.2.2
  · exact fun h => ⟨by omega, by omega, h⟩

/-- All that ReachHolds asks of the three sets. -/
structure Tells5 (g : Gr) (n f r : Nat) : Prop where
  n_ : SetIs n (Nul g)
  f_ : SetIs f (Fru g)
  r_ : SetIs r (Rea g)
theorem van_has {g : Gr} {n : Nat} (hc : NumsOk g) (hn : SetIs n (Nul g)) {p : Int × List Int} (hp : p ∈ g.prods) (h : vanI p.2 n = true) : shas n (p.1 - 100) = true := by
  rw [hn.has]
  have := (hc p hp).1
  refine ⟨by omega, by omega, .mk p hp fun s hs => ?_⟩
  have h1 := List.all_eq_true.1 h s hs
  exact ((hn.has s).1 h1).2.2
theorem bear_has {g : Gr} {f : Nat} (hc : NumsOk g) (hf : SetIs f (Fru g)) {p : Int × List Int} (hp : p ∈ g.prods) (h : bearI p.2 f = true) : shas f (p.1 - 100) = true := by
  rw [hf.has]
  have := (hc p hp).1
  refine ⟨by omega, by omega, .mk p hp fun s hs h100 => ?_⟩
  have h1 := List.all_eq_true.1 h s hs
  rw [Bool.or_eq_true, decide_eq_true_eq] at h1
  rcases h1 with h1 | h1
  · omega
  · exact ((hf.has s).1 h1).2.2
theorem rea_has {g : Gr} {r : Nat} (hc : NumsOk g) (hr : SetIs r (Rea g)) {p : Int × List Int} (hp : p ∈ g.prods) {s : Int} (hs : s ∈ p.2) (h100 : 100 ≤ s) (h : shas r (p.1 - 100) = true) : shas r (s - 100) = true := by
  rw [hr.has] at h ⊢
  have := (hc p hp).2 s hs
  exact ⟨h100, by omega, .step p s hp h.2.2 hs h100⟩
/-- The places told, as a set. -/
theorem trim_has (F : Nat) (ps : List (Int × List Int)) (hl : ps.length ≤ 64) {k : Nat} {p : Int × List Int} (hp : ps[k]? = some p) : shas (ofL (trimF F ps 0)) (k : Int) = bearI p.2 F := by
  have hk := (List.getElem?_eq_some_iff.1 hp).1
  rw [shas_bit _ _ (by omega), bit_ofL]
  rw [Bool.eq_iff_iff, decide_eq_true_eq, trimF_mem]
  constructor
  · rintro ⟨⟨j, q, hj, hb, e⟩, _⟩
    have : j = k := by omega
    subst this
    rw [hp] at hj
    cases hj
    exact hb
  · intro hb
    exact ⟨⟨k, p, hp, hb, by simp⟩, by omega⟩

theorem vanI_step {r : List Int} {S k : Nat} {s : Int} (hs : r[k]? = some s) : vanI (r.take (k + 1)) S = (vanI (r.take k) S && shas S (s - 100)) := by
  unfold vanI
  rw [List.take_add_one, hs]; simp
theorem bearI_step {r : List Int} {S k : Nat} {s : Int} (hs : r[k]? = some s) : bearI (r.take (k + 1)) S = (bearI (r.take k) S && (decide (s < 100) || shas S (s - 100))) := by
  unfold bearI
  rw [List.take_add_one, hs]; simp
theorem shas_low (S : Nat) {s : Int} (h : s < 100) : shas S (s - 100) = false := by
  rw [has_eq]
  have : decide (0 ≤ s - 100 ∧ s - 100 < 64) = false := by rw [decide_eq_false_iff_not]; omega
  rw [this]; rfl

/-- Trim, in one form. -/
def TrimOf (g : Gr) (F : Nat) (l : List Int) (er : Int) : Prop := (shas F 0 = true ∧ er = 0 ∧ l = trimF F g.prods 0) ∨ (shas F 0 = false ∧ er = 6 ∧ l = [])
end Go.Proofs.Ytgfkkbpnphbdgaa

namespace Go.Proofs.Ytgfkkbpnphbdgaa
open Go.RowKit
open Doc

def wg : Gr := ⟨[[97]], [[83]], [(100, [1, 100]), (100, [])]⟩
theorem wg_check : CheckG wg := (chk_iff wg).1 (by decide +kernel)
theorem wg_nul {r : Nat} (h : SetIs r (Nul wg)) : r = 1 := by
  refine h.uniq ⟨by decide, fun i => ?_⟩
  have hall : ∀ x, Nul wg x → x = 100 := fun x hx => by
    cases hx with
    | mk p hp _ =>
      simp only [wg, List.mem_cons, List.not_mem_nil, or_false] at hp
      rcases hp with rfl | rfl <;> rfl
  have h0 : Nul wg 100 := Nul.mk (100, []) (by simp [wg]) (by intro s hs; cases hs)
  rw [show (1 : Nat) = 2 ^ 0 from rfl, Nat.testBit_two_pow, decide_eq_true_eq]
  constructor
  · rintro rfl; exact ⟨by omega, h0⟩
  · rintro ⟨_, h1⟩; have := hall _ h1; omega

theorem cells_w {w : World} {b : Nat} {cs : Array Value} {T : TypeId} (h : w.heap[b]? = some (.cells cs T)) : Cells w (some ⟨b, 0, none⟩) cs.toList := by
  refine .inr ⟨b, 0, rfl, heap_lt h, fun j u hj => ?_⟩
  rw [Nat.zero_add]
  exact (blk_cell h (by simpa using hj)).1

end Go.Proofs.Ytgfkkbpnphbdgaa
