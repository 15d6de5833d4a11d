/- What is of use in a grammar: sets that grow, in plain words. No program here. reach: the small calls, walked. reach: lefts, walked. reach: what grows, walked. reach: Nullable, Fruitful, Reached, Trim: of a grammar that may be. reach: Trim, of a grammar that may be. ReachHolds: what holds of the sets. No program here. wakes of chapter 5. -/
import Derived.Test.YtejjdfmobiegdaaDoorSetO
import Derived.Test.YtejjdfmobiegdaaDoorSpec
import Derived.Test.YtejjdfmobiegdaaDoorChk
import Derived.Test.YtejjdfmobiegdaaDoorWake
import Derived.Test.YtejjdfmobiegdaaDoorRaw
import Derived.Deep.CutRange
namespace Go.Proofs.YtejjdfmobiegdaaDoor
open Doc

def vanI (r : List Int) (S : Nat) : Bool := r.all fun s => shas S (s - 100)
def bearI (r : List Int) (S : Nat) : Bool := r.all fun s => decide (s < 100) || shas S (s - 100)
def leftsF (ps : List (Int × List Int)) (h : List Int → Nat → Bool) (S : Nat) : Nat := ps.foldl (fun a p => if h p.2 S = true then a ||| sdig (p.1 - 100) else a) 0
def namedR (r : List Int) (a : Nat) : Nat := r.foldl (fun a s => a ||| sdig (s - 100)) a
def namedF (ps : List (Int × List Int)) (S : Nat) : Nat := ps.foldl (fun a p => if shas S (p.1 - 100) = true then namedR p.2 a else a) 0
def iterS (f : Nat → Nat) (s : Nat) : Nat → Nat
  | 0 => s
  | n + 1 => iterS f s n ||| f (iterS f s n)
/-- What grow tells: the rounds' last. -/
def Grown (f : Nat → Nat) (s r : Nat) : Prop := (∃ n, r = iterS f s n) ∧ r ||| f r = r

theorem lefts_lt (ps : List (Int × List Int)) (h : List Int → Nat → Bool) (S : Nat) : leftsF ps h S < 18446744073709551616 := by
  unfold leftsF
  suffices H : ∀ (l : List (Int × List Int)) (a : Nat), a < 18446744073709551616 → l.foldl (fun a p => if h p.2 S = true then a ||| sdig (p.1 - 100) else a) a < 18446744073709551616 from H ps 0 (by decide)
  intro l
  induction l with
  | nil => intro a ha; exact ha
  | cons p l ih =>
    intro a ha
    rw [List.foldl_cons]
    apply ih
    split
    · exact or_lt _ _ ha (dig_lt _)
    · exact ha
theorem namedR_lt (r : List Int) : ∀ a, a < 18446744073709551616 → namedR r a < 18446744073709551616 := by
  induction r with
  | nil => intro a ha; exact ha
  | cons s l ih => intro a ha; exact ih _ (or_lt _ _ ha (dig_lt _))
theorem named_lt (ps : List (Int × List Int)) (S : Nat) : namedF ps S < 18446744073709551616 := by
  unfold namedF
  suffices H : ∀ (l : List (Int × List Int)) (a : Nat), a < 18446744073709551616 → l.foldl (fun a p => if shas S (p.1 - 100) = true then namedR p.2 a else a) a < 18446744073709551616 from H ps 0 (by decide)
  intro l
  induction l with
  | nil => intro a ha; exact ha
  | cons p l ih =>
    intro a ha
    rw [List.foldl_cons]
    apply ih
    split
    · exact namedR_lt _ _ ha
    · exact ha
theorem iterS_lt {f : Nat → Nat} {s : Nat} (hs : s < 18446744073709551616) (hf : ∀ u, f u < 18446744073709551616) : ∀ n, iterS f s n < 18446744073709551616
  | 0 => hs
  | n + 1 => or_lt _ _ (iterS_lt hs hf n) (hf _)
theorem le_or (a b : Nat) : a ≤ a ||| b := Nat.left_le_or

theorem has_iff (S : Nat) (n : Int) : shas S n = true ↔ (0 ≤ n ∧ n < 64) ∧ S.testBit n.toNat = true := by
  rw [has_eq, Bool.and_eq_true, decide_eq_true_eq]
/-- A digit of a set. -/
theorem shas_bit (S : Nat) (k : Nat) (hk : k < 64) : shas S (k : Int) = S.testBit k := by
  rw [has_eq]
  have : decide ((0 : Int) ≤ k ∧ (k : Int) < 64) = true := by rw [decide_eq_true_iff]; omega
  rw [this]; simp
theorem bit_lefts (ps : List (Int × List Int)) (h : List Int → Nat → Bool) (S i : Nat) : (leftsF ps h S).testBit i = true ↔ i < 64 ∧ ∃ p ∈ ps, p.1 - 100 = (i : Int) ∧ h p.2 S = true := by
  unfold leftsF
  suffices H : ∀ (l : List (Int × List Int)) (a : Nat), (l.foldl (fun a p => if h p.2 S = true then a ||| sdig (p.1 - 100) else a) a).testBit i = true ↔ a.testBit i = true ∨ (i < 64 ∧ ∃ p ∈ l, p.1 - 100 = (i : Int) ∧ h p.2 S = true) by
    rw [H ps 0]; simp
  intro l
  induction l with
  | nil => intro a; simp
  | cons p l ih =>
    intro a
    rw [List.foldl_cons, ih]
    by_cases hh : h p.2 S = true
    · rw [if_pos hh, Nat.testBit_or, Bool.or_eq_true, bit_dig]
      simp only [decide_eq_true_eq, List.mem_cons, exists_eq_or_imp]
      constructor
      · rintro ((h1 | ⟨h1, h2⟩) | ⟨h1, h2⟩)
        · exact .inl h1
        · exact .inr ⟨h2, .inl ⟨h1, hh⟩⟩
        · exact .inr ⟨h1, .inr h2⟩
      · rintro (h1 | ⟨h1, (⟨h2, _⟩ | h2)⟩)
        · exact .inl (.inl h1)
        · exact .inl (.inr ⟨h2, h1⟩)
        · exact .inr ⟨h1, h2⟩
    · rw [if_neg hh]
      simp only [List.mem_cons, exists_eq_or_imp]
      constructor
      · rintro (h1 | ⟨h1, h2⟩)
        · exact .inl h1
        · exact .inr ⟨h1, .inr h2⟩
      · rintro (h1 | ⟨h1, (⟨_, h2⟩ | h2)⟩)
        · exact .inl h1
        · exact absurd h2 hh
        · exact .inr ⟨h1, h2⟩
theorem bit_namedR (r : List Int) (i : Nat) : ∀ a, (namedR r a).testBit i = true ↔ a.testBit i = true ∨ (i < 64 ∧ ∃ s ∈ r, s - 100 = (i : Int)) := by
  induction r with
  | nil => intro a; simp [namedR]
  | cons s l ih =>
    intro a
    show (namedR l (a ||| sdig (s - 100))).testBit i = true ↔ _
    rw [ih, Nat.testBit_or, Bool.or_eq_true, bit_dig]
    simp only [decide_eq_true_eq, List.mem_cons, exists_eq_or_imp]
    constructor
    · rintro ((h1 | ⟨h1, h2⟩) | ⟨h1, h2⟩)
      · exact .inl h1
      · exact .inr ⟨h2, .inl h1⟩
      · exact .inr ⟨h1, .inr h2⟩
    · rintro (h1 | ⟨h1, (h2 | h2)⟩)
      · exact .inl (.inl h1)
      · exact .inl (.inr ⟨h2, h1⟩)
      · exact .inr ⟨h1, h2⟩
theorem bit_named (ps : List (Int × List Int)) (S i : Nat) : (namedF ps S).testBit i = true ↔ i < 64 ∧ ∃ p ∈ ps, shas S (p.1 - 100) = true ∧ ∃ s ∈ p.2, s - 100 = (i : Int) := by
  unfold namedF
  suffices H : ∀ (l : List (Int × List Int)) (a : Nat), (l.foldl (fun a p => if shas S (p.1 - 100) = true then namedR p.2 a else a) a).testBit i = true ↔ a.testBit i = true ∨ (i < 64 ∧ ∃ p ∈ l, shas S (p.1 - 100) = true ∧ ∃ s ∈ p.2, s - 100 = (i : Int)) by
    rw [H ps 0]; simp
  intro l
  induction l with
  | nil => intro a; simp
  | cons p l ih =>
    intro a
    rw [List.foldl_cons, ih]
    by_cases hh : shas S (p.1 - 100) = true
    · rw [if_pos hh, bit_namedR]
      simp only [List.mem_cons, exists_eq_or_imp]
      constructor
      · rintro ((h1 | ⟨h1, h2⟩) | ⟨h1, h2⟩)
        · exact .inl h1
        · exact .inr ⟨h1, .inl ⟨hh, h2⟩⟩
        · exact .inr ⟨h1, .inr h2⟩
      · rintro (h1 | ⟨h1, (⟨_, h2⟩ | h2)⟩)
        · exact .inl (.inl h1)
        · exact .inl (.inr ⟨h1, h2⟩)
        · exact .inr ⟨h1, h2⟩
    · rw [if_neg hh]
      simp only [List.mem_cons, exists_eq_or_imp]
      constructor
      · rintro (h1 | ⟨h1, h2⟩)
        · exact .inl h1
        · exact .inr ⟨h1, .inr h2⟩
      · rintro (h1 | ⟨h1, (⟨h2, _⟩ | h2)⟩)
        · exact .inl h1
        · exact absurd h2 hh
        · exact .inr ⟨h1, h2⟩

/-- Of which the empty word can come; of which any word can; what the start leads to. -/
inductive Nul (g : Gr) : Int → Prop where
  | mk (p : Int × List Int) : p ∈ g.prods → (∀ s ∈ p.2, Nul g s) → Nul g p.1
inductive Fru (g : Gr) : Int → Prop where
  | mk (p : Int × List Int) : p ∈ g.prods → (∀ s ∈ p.2, 100 ≤ s → Fru g s) → Fru g p.1
inductive Rea (g : Gr) : Int → Prop where
  | start : Rea g 100
  | step (p : Int × List Int) (s : Int) : p ∈ g.prods → Rea g p.1 → s ∈ p.2 → 100 ≤ s → Rea g s

/-- A set of nonterminals, by what is in it. -/
def SetIs (r : Nat) (P : Int → Prop) : Prop := r < 18446744073709551616 ∧ ∀ i : Nat, r.testBit i = true ↔ i < 64 ∧ P (100 + (i : Int))
theorem SetIs.uniq {r r' : Nat} {P : Int → Prop} (h : SetIs r P) (h' : SetIs r' P) : r = r' := Nat.eq_of_testBit_eq fun i => by
  rw [Bool.eq_iff_iff, h.2, h'.2]
theorem SetIs.has {r : Nat} {P : Int → Prop} (h : SetIs r P) (s : Int) : shas r (s - 100) = true ↔ 100 ≤ s ∧ s < 164 ∧ P s := by
  rw [has_eq, Bool.and_eq_true, decide_eq_true_eq, h.2]
  constructor
  · rintro ⟨⟨h1, h2⟩, h3, h4⟩
    refine ⟨by omega, by omega, ?_⟩
    rwa [show (100 : Int) + ((s - 100).toNat : Int) = s by omega] at h4
  · rintro ⟨h1, h2, h3⟩
    refine ⟨⟨by omega, by omega⟩, by omega, ?_⟩
    rwa [show (100 : Int) + ((s - 100).toNat : Int) = s by omega]
theorem or_bit {a b : Nat} (h : a ||| b = a) {i : Nat} (hb : b.testBit i = true) : a.testBit i = true := by
  rw [← h, Nat.testBit_or, hb, Bool.or_true]

/-- Every number of a production is a small one. -/
def NumsOk (g : Gr) : Prop := ∀ p ∈ g.prods, (100 ≤ p.1 ∧ p.1 < 164) ∧ ∀ s ∈ p.2, 0 ≤ s ∧ s < 164
theorem nums_of_check {g : Gr} (h : CheckG g) : NumsOk g := fun p hp => by
  have h1 := h.pv p hp
  have h8 := h.n8
  have ht8 := h.t8
  refine ⟨by omega, fun s hs => ?_⟩
  have := h1.2.2 s hs
  unfold symOk at this
  omega

theorem nul_is {g : Gr} (hn : NumsOk g) {r : Nat} (h : Grown (leftsF g.prods vanI) 0 r) : SetIs r (Nul g) := by
  obtain ⟨⟨n, rfl⟩, hc⟩ := h
  have hlt := iterS_lt (f := leftsF g.prods vanI) (s := 0) (by decide) (lefts_lt g.prods vanI)
  refine ⟨hlt n, fun i => ⟨fun hi => ?_, ?_⟩⟩
  · have key : ∀ m i, (iterS (leftsF g.prods vanI) 0 m).testBit i = true → i < 64 ∧ Nul g (100 + (i : Int)) := by
      intro m
      induction m with
      | zero => intro i hi; simp [iterS] at hi
      | succ m ih =>
        intro i hi
        have hi : (iterS (leftsF g.prods vanI) 0 m ||| leftsF g.prods vanI (iterS (leftsF g.prods vanI) 0 m)).testBit i = true := hi
        rw [Nat.testBit_or, Bool.or_eq_true] at hi
        rcases hi with hi | hi
        · exact ih i hi
        · obtain ⟨h64, p, hp, e, hv⟩ := (bit_lefts _ _ _ _).1 hi
          refine ⟨h64, ?_⟩
          have : Nul g p.1 := .mk p hp fun s hs => by
            have hsv := List.all_eq_true.1 hv s hs
            obtain ⟨a1, a2⟩ := (has_iff _ _).1 hsv
            have := (ih _ a2).2
            rwa [show (100 : Int) + ((s - 100).toNat : Int) = s by omega] at this
          rwa [show p.1 = 100 + (i : Int) by omega] at this
    exact key n i hi
  · rintro ⟨h64, hN⟩
    have key : ∀ x, Nul g x → ∃ j : Nat, x = 100 + (j : Int) ∧ j < 64 ∧ (iterS (leftsF g.prods vanI) 0 n).testBit j = true := by
      intro x hx
      induction hx with
      | mk p hp _ ih =>
        have hb := (hn p hp).1
        refine ⟨(p.1 - 100).toNat, by omega, by omega, or_bit hc ?_⟩
        rw [bit_lefts]
        refine ⟨by omega, p, hp, by omega, List.all_eq_true.2 fun s hs => ?_⟩
        obtain ⟨j, e, hj, hb⟩ := ih s hs
        rw [show s - 100 = (j : Int) by omega, shas_bit _ _ hj]
        exact hb
    obtain ⟨j, e, _, hb⟩ := key _ hN
    rwa [show i = j by omega]
theorem fru_is {g : Gr} (hn : NumsOk g) {r : Nat} (h : Grown (leftsF g.prods bearI) 0 r) : SetIs r (Fru g) := by
  obtain ⟨⟨n, rfl⟩, hc⟩ := h
  have hlt := iterS_lt (f := leftsF g.prods bearI) (s := 0) (by decide) (lefts_lt g.prods bearI)
  refine ⟨hlt n, fun i => ⟨fun hi => ?_, ?_⟩⟩
  · have key : ∀ m i, (iterS (leftsF g.prods bearI) 0 m).testBit i = true → i < 64 ∧ Fru g (100 + (i : Int)) := by
      intro m
      induction m with
      | zero => intro i hi; simp [iterS] at hi
      | succ m ih =>
        intro i hi
        have hi : (iterS (leftsF g.prods bearI) 0 m ||| leftsF g.prods bearI (iterS (leftsF g.prods bearI) 0 m)).testBit i = true := hi
        rw [Nat.testBit_or, Bool.or_eq_true] at hi
        rcases hi with hi | hi
        · exact ih i hi
        · obtain ⟨h64, p, hp, e, hv⟩ := (bit_lefts _ _ _ _).1 hi
          refine ⟨h64, ?_⟩
          have : Fru g p.1 := .mk p hp fun s hs h100 => by
            have hsv := List.all_eq_true.1 hv s hs
            rw [Bool.or_eq_true, decide_eq_true_eq] at hsv
            rcases hsv with hsv | hsv
            · omega
            · obtain ⟨a1, a2⟩ := (has_iff _ _).1 hsv
              have := (ih _ a2).2
              rwa [show (100 : Int) + ((s - 100).toNat : Int) = s by omega] at this
          rwa [show p.1 = 100 + (i : Int) by omega] at this
    exact key n i hi
  · rintro ⟨h64, hN⟩
    have key : ∀ x, Fru g x → ∃ j : Nat, x = 100 + (j : Int) ∧ j < 64 ∧ (iterS (leftsF g.prods bearI) 0 n).testBit j = true := by
      intro x hx
      induction hx with
      | mk p hp _ ih =>
        have hb := (hn p hp).1
        refine ⟨(p.1 - 100).toNat, by omega, by omega, or_bit hc ?_⟩
        rw [bit_lefts]
        refine ⟨by omega, p, hp, by omega, List.all_eq_true.2 fun s hs => ?_⟩
        rw [Bool.or_eq_true, decide_eq_true_eq]
        by_cases h100 : s < 100
        · exact .inl h100
        · right
          obtain ⟨j, e, hj, hb⟩ := ih s hs (by omega)
          rw [show s - 100 = (j : Int) by omega, shas_bit _ _ hj]
          exact hb
    obtain ⟨j, e, _, hb⟩ := key _ hN
    rwa [show i = j by omega]
theorem rea_is {g : Gr} (hn : NumsOk g) {r : Nat} (h : Grown (namedF g.prods) 1 r) : SetIs r (Rea g) := by
  obtain ⟨⟨n, rfl⟩, hc⟩ := h
  have hlt := iterS_lt (f := namedF g.prods) (s := 1) (by decide) (named_lt g.prods)
  refine ⟨hlt n, fun i => ⟨fun hi => ?_, ?_⟩⟩
  · have key : ∀ m i, (iterS (namedF g.prods) 1 m).testBit i = true → i < 64 ∧ Rea g (100 + (i : Int)) := by
      intro m
      induction m with
      | zero =>
        intro i hi
        have hi : Nat.testBit 1 i = true := hi
        have h0 : i = 0 := by
          rw [show (1 : Nat) = 2 ^ 0 from rfl, Nat.testBit_two_pow] at hi
          simpa using (of_decide_eq_true hi).symm
        subst h0
        exact ⟨by omega, .start⟩
      | succ m ih =>
        intro i hi
        have hi : (iterS (namedF g.prods) 1 m ||| namedF g.prods (iterS (namedF g.prods) 1 m)).testBit i = true := hi
        rw [Nat.testBit_or, Bool.or_eq_true] at hi
        rcases hi with hi | hi
        · exact ih i hi
        · obtain ⟨h64, p, hp, hl, s, hs, e⟩ := (bit_named _ _ _).1 hi
          refine ⟨h64, ?_⟩
          obtain ⟨a1, a2⟩ := (has_iff _ _).1 hl
          have h2 := (ih _ a2).2
          rw [show (100 : Int) + ((p.1 - 100).toNat : Int) = p.1 by omega] at h2
          have : Rea g s := .step p s hp h2 hs (by omega)
          rwa [show s = 100 + (i : Int) by omega] at this
    exact key n i hi
  · rintro ⟨h64, hN⟩
    have key : ∀ x, Rea g x → ∃ j : Nat, x = 100 + (j : Int) ∧ j < 64 ∧ (iterS (namedF g.prods) 1 n).testBit j = true := by
      intro x hx
      induction hx with
      | start =>
        refine ⟨0, by omega, by omega, ?_⟩
        have : ∀ m, (iterS (namedF g.prods) 1 m).testBit 0 = true := by
          intro m
          induction m with
          | zero => exact (by decide : Nat.testBit 1 0 = true)
          | succ m ih => show Nat.testBit (iterS (namedF g.prods) 1 m ||| _) 0 = true; rw [Nat.testBit_or, ih]; rfl
        exact this n
      | step p s hp _ hs h100 ih =>
        obtain ⟨j, e, hj, hb⟩ := ih
        have hb2 := (hn p hp).2 s hs
        refine ⟨(s - 100).toNat, by omega, by omega, or_bit hc ?_⟩
        rw [bit_named]
        refine ⟨by omega, p, hp, ?_, s, hs, by omega⟩
        rw [show p.1 - 100 = (j : Int) by omega, shas_bit _ _ hj]
        exact hb
    obtain ⟨j, e, _, hb⟩ := key _ hN
    rwa [show i = j by omega]

end Go.Proofs.YtejjdfmobiegdaaDoor

namespace Go.Proofs.YtejjdfmobiegdaaDoor
open Go.RowKit
open Doc

theorem place_any (s : Int) (w : World) (h1 : -1000000 ≤ s) (h2 : s ≤ 1000000) :
    Calls Tryd.prog 95 #[.int .i64 s] w fun e w' => e = .returned (.int .i64 (s - 100)) ∧ w' = w := by
  go_enter Tryd.func95, Tryd.ntmps95
  go_wp2
  go_ret
  exact ⟨rfl, rfl⟩
theorem terminal_any (s : Int) (w : World) :
    Calls Tryd.prog 119 #[.int .i64 s] w fun e w' => e = .returned (.bool (decide (s < 100))) ∧ w' = w := by
  go_enter Tryd.func119, Tryd.ntmps119
  go_wp2
  go_ret
  exact ⟨rfl, rfl⟩

theorem all_take {r : List Int} {h : Int → Bool} {k : Nat} {s : Int} (hs : r[k]? = some s) (hp : (r.take k).all h = true) (hh : h s = true) : (r.take (k + 1)).all h = true := by
  rw [List.take_add_one, hs]; simp only [Option.toList_some, List.all_append, hp, List.all_cons, hh, List.all_nil, Bool.and_self]
theorem all_not {r : List Int} {h : Int → Bool} {k : Nat} {s : Int} (hs : r[k]? = some s) (hh : h s = false) : r.all h = false := by
  rw [List.all_eq_false]
  exact ⟨s, List.mem_of_getElem? hs, by simp [hh]⟩

def Small (r : List Int) : Prop := ∀ s ∈ r, -1000 ≤ s ∧ s ≤ 1000

set_option maxHeartbeats 2000000 in
theorem bears_any (left : Int) (a : Option Addr) (cap : Nat) (r : List Int) (S : Nat) (hS : S < 18446744073709551616) (w : World) (h : Cells w a (nums r)) (hr : Small r) (hl : r.length ≤ 1000000) :
    Calls Tryd.prog 96 #[.agg #[.int .i64 left, .slice a r.length cap], .int .u64 S] w fun e w' => e = .returned (.bool (bearI r S)) ∧ Below w.heap.size w w' := by
  have hbl : Below w.heap.size w (w.alloc (.cells #[.int .i64 left, .slice a r.length cap] 68)) := (Below.refl _ _).alloc (Nat.le_refl _) _
  have HC := Lib.hid (h.below hbl)
  have HBL := Lib.hid hbl
  have HR := Lib.hid hr
  clear h hbl hr
  go_enter Tryd.func96, Tryd.ntmps96
  go_wp2
  generalize w.alloc (.cells #[.int .i64 left, .slice a r.length cap] 68) = W at *
  go_loop [10] (fun i => ∃ k : Nat, k ≤ r.length ∧ i = .int .i64 k ∧ Hid ((r.take k).all (fun s => decide (s < 100) || shas S (s - 100)) = true)) (fun i => r.length - (intOf i).toNat)
  case atStart => exact ⟨0, by omega, rfl, Lib.hid (by simp)⟩
  case round =>
    obtain ⟨k, hk, rfl, HA⟩ := hrel
    by_cases hlt : k < r.length
    · obtain ⟨s, hs⟩ : ∃ s, r[k]? = some s := ⟨_, List.getElem?_eq_getElem hlt⟩
      obtain ⟨b, off, rfl, hb, hc⟩ := HC.out.get (by unfold nums; intro e; rw [List.map_eq_nil_iff] at e; rw [e] at hlt; simp at hlt)
      have x0 := hc k _ (nums_at hs)
      have e1 : (k : Int) < r.length := by omega
      have hsm := HR.out s (List.mem_of_getElem? hs)
      have HP := Lib.hid (place_any s W (by omega) (by omega))
      have HH := Lib.hid (has_any S (s - 100) hS W)
      have HS := Lib.hid hs
      clear hc hs hsm
      have HT := Lib.hid (terminal_any s W)
      cases ht : decide (s < 100) with
      | true =>
        have hN := Lib.hid (all_take (h := fun s => decide (s < 100) || shas S (s - 100)) HS.out HA.out (by simp only [ht, Bool.true_or]))
        go_wp2_with (go_at_call 119; refine HT.out.mono ?_; rintro e w2 ⟨rfl, rfl⟩; simp only [ht])
        exact ⟨⟨k + 1, by omega, by go_num, hN⟩, by simp [intOf]; omega⟩
      | false =>
        cases hv : shas S (s - 100) with
        | true =>
          have hN := Lib.hid (all_take (h := fun s => decide (s < 100) || shas S (s - 100)) HS.out HA.out (by simp only [ht, hv, Bool.or_true]))
          go_wp2_with (first | (go_at_call 119; refine HT.out.mono ?_; rintro e w2 ⟨rfl, rfl⟩; simp only [ht]) | (go_at_call 95; refine HP.out.mono ?_; rintro e w2 ⟨rfl, rfl⟩) | (go_at_call 94; refine HH.out.mono ?_; rintro e w2 ⟨rfl, rfl⟩; simp only [hv]))
          exact ⟨⟨k + 1, by omega, by go_num, hN⟩, by simp [intOf]; omega⟩
        | false =>
          have hN := Lib.hid (show bearI r S = false from all_not (h := fun s => decide (s < 100) || shas S (s - 100)) HS.out (by simp only [ht, hv, Bool.or_self]))
          go_wp2_with (first | (go_at_call 119; refine HT.out.mono ?_; rintro e w2 ⟨rfl, rfl⟩; simp only [ht]) | (go_at_call 95; refine HP.out.mono ?_; rintro e w2 ⟨rfl, rfl⟩) | (go_at_call 94; refine HH.out.mono ?_; rintro e w2 ⟨rfl, rfl⟩; simp only [hv]))
          go_ret
          exact ⟨ret_bool hN.out.symm, HBL.out⟩
    · have hN := Lib.hid (show bearI r S = true by unfold bearI; have := HA.out; rwa [List.take_of_length_le (by omega)] at this)
      have e1 : ¬ (k : Int) < r.length := by omega
      go_wp2
      go_ret
      exact ⟨ret_bool hN.out.symm, HBL.out⟩

theorem fru11_any (left : Int) (a : Option Addr) (cap : Nat) (r : List Int) (b S : Nat) (hS : S < 18446744073709551616) (w : World) (hc : w.heap[b]? = some (.cells #[.int .u64 S] 127)) (h : Cells w a (nums r)) (hr : Small r) (hl : r.length ≤ 1000000) :
    Calls Tryd.prog 118 #[.agg #[.int .i64 left, .slice a r.length cap], .pointer (some ⟨b, 0, none⟩)] w fun e w' => e = .returned (.bool (bearI r S)) ∧ Below w.heap.size w w' := by
  have hbl : Below w.heap.size w (w.alloc (.cells #[.int .i64 left, .slice a r.length cap] 68)) := (Below.refl _ _).alloc (Nat.le_refl _) _
  have HV := Lib.hid (bears_any left a cap r S hS (w.alloc (.cells #[.int .i64 left, .slice a r.length cap] 68)) (h.below hbl) hr hl)
  have c0 := (blk_cell (i := 0) (u := .int .u64 S) hc rfl).1
  have hlt := heap_lt hc
  have HBL := Lib.hid hbl
  clear h hbl hr hc
  go_enter Tryd.func118, Tryd.ntmps118
  go_wp2_with (go_at_call 96; refine HV.out.mono ?_; rintro e w2 ⟨rfl, hb2⟩)
  go_ret
  exact ⟨rfl, HBL.out.trans (hb2.mono HBL.out.size)⟩

theorem leftsN_step {ls : List Lay} {k : Nat} {p : Lay} {S : Nat} (hp : ls[k]? = some p) (h : List Int → Nat → Bool) : leftsF ((ls.take (k + 1)).map Lay.plain) h S = if h p.right S = true then leftsF ((ls.take k).map Lay.plain) h S ||| sdig (p.left - 100) else leftsF ((ls.take k).map Lay.plain) h S := by
  rw [List.take_add_one, hp]
  simp only [Option.toList_some, List.map_append, List.map_cons, List.map_nil, leftsF, List.foldl_append, List.foldl_cons, List.foldl_nil]
  rfl


end Go.Proofs.YtejjdfmobiegdaaDoor

namespace Go.Proofs.YtejjdfmobiegdaaDoor
open Go.RowKit
open Doc

set_option maxHeartbeats 2000000 in
theorem lefts_fru (a1 a2 a3 : Option Addr) (n1 c1 n2 c2 c3 : Nat) (ls : List Lay) (b S : Nat) (hS : S < 18446744073709551616) (w : World) (hc : w.heap[b]? = some (.cells #[.int .u64 S] 127)) (h3 : Cells w a3 (lays ls)) (h4 : ∀ p ∈ ls, Cells w p.addr (nums p.right)) (hr : ∀ p ∈ ls, Small p.right ∧ p.right.length ≤ 1000000 ∧ -1000 ≤ p.left ∧ p.left ≤ 1000) (hls : ls.length ≤ 1000000) :
    Calls Tryd.prog 117 #[.agg #[.slice a1 n1 c1, .slice a2 n2 c2, .slice a3 ls.length c3], .func (.func 118) #[] #[.pointer (some ⟨b, 0, none⟩)]] w fun e w' => e = .returned (.int .u64 (leftsF (ls.map Lay.plain) bearI S : Nat)) ∧ Below w.heap.size w w' := by
  have hbl : Below w.heap.size w (w.alloc (.cells #[.slice a1 n1 c1, .slice a2 n2 c2, .slice a3 ls.length c3] 29)) := (Below.refl _ _).alloc (Nat.le_refl _) _
  have HC3 := Lib.hid (h3.below hbl)
  have HC4 := Lib.hid (fun p hp => (h4 p hp).below hbl)
  have HCB := Lib.hid ((hbl.block b (heap_lt hc)).trans hc)
  have HBL := Lib.hid hbl
  have HR := Lib.hid hr
  clear h3 h4 hbl hr hc
  go_enter Tryd.func117, Tryd.ntmps117
  go_wp2
  generalize w.alloc (.cells #[.slice a1 n1 c1, .slice a2 n2 c2, .slice a3 ls.length c3] 29) = W at *
  go_loopw [5, 11] (fun s i wr => ∃ k : Nat, k ≤ ls.length ∧ i = .int .i64 k ∧ s = .int .u64 (leftsF ((ls.take k).map Lay.plain) bearI S : Nat) ∧ Below W.heap.size W wr) (fun _ i _ => ls.length - (intOf i).toNat)
  case atStart => exact ⟨0, by omega, rfl, rfl, Below.refl _ _⟩
  case round =>
    obtain ⟨k, hk, rfl, rfl, hbe⟩ := hrel
    by_cases hlt : k < ls.length
    · obtain ⟨p, hp⟩ : ∃ p, ls[k]? = some p := ⟨_, List.getElem?_eq_getElem hlt⟩
      obtain ⟨pl, pr, pa, pc⟩ := p
      obtain ⟨b3, o3, rfl, hb3, hc3⟩ := (HC3.out.below hbe).get (by intro e; have := (lays_at ls k _ hp).1; rw [e] at this; simp at this)
      have x0 := hc3 _ _ (lays_at ls k _ hp).1
      have x1 := hc3 _ _ (lays_at ls k _ hp).2
      rw [← Nat.add_assoc] at x1
      simp only at x0 x1
      have e1 : (k : Int) < ls.length := by omega
      have hpm := List.mem_of_getElem? hp
      obtain ⟨r1, r2, r3, r4⟩ := HR.out _ hpm
      simp only at r1 r2 r3 r4
      have hbA : Below wr.heap.size wr (wr.alloc (.cells #[.int .i64 pl, .slice pa pr.length pc] 68)) := (Below.refl _ _).alloc (Nat.le_refl _) _
      have HCL := Lib.hid (fru11_any pl pa pc pr b S hS (wr.alloc (.cells #[.int .i64 pl, .slice pa pr.length pc] 68)) ((hbA.block b (heap_lt ((hbe.block b (heap_lt HCB.out)).trans HCB.out))).trans ((hbe.block b (heap_lt HCB.out)).trans HCB.out)) ((show Cells wr pa (nums pr) from (HC4.out _ hpm).below hbe).below hbA) r1 r2)
      have HPL := Lib.hid fun W => place_any pl W (by omega) (by omega)
      have hll := lefts_lt ((ls.take k).map Lay.plain) bearI S
      have HWI := Lib.hid fun W => with_any (leftsF ((ls.take k).map Lay.plain) bearI S) (pl - 100) hll W
      have HST := Lib.hid (leftsN_step (S := S) hp bearI)
      have HBE := Lib.hid hbe
      have HBA := Lib.hid hbA
      clear hc3 hp hpm r1 r2 hbA hbe
      generalize leftsF ((ls.take k).map Lay.plain) bearI S = T at *
      cases hv : bearI pr S with
      | true =>
        have hN := Lib.hid (show leftsF ((ls.take (k + 1)).map Lay.plain) bearI S = T ||| sdig (pl - 100) by rw [HST.out]; exact if_pos hv)
        go_wp2_with (first
          | (go_at_call 118; refine HCL.out.mono ?_; rintro e w2 ⟨rfl, hb2⟩; simp only [hv]; have y0 := (hb2.cell (p := ⟨wr.heap.size, 0, none⟩) (by simp)).trans (by go_simp : _ = some (.int .i64 pl)); have y1 : wr.heap.size < w2.heap.size := Nat.lt_of_lt_of_le (by simp) hb2.size)
          | (go_at_call 95; refine (HPL.out _).mono ?_; rintro e w2 ⟨rfl, rfl⟩)
          | (go_at_call 75; refine (HWI.out _).mono ?_; rintro e w2 ⟨rfl, rfl⟩))
        exact ⟨⟨k + 1, by omega, by go_num, by rw [hN.out], HBE.out.trans ((HBA.out.trans (hb2.mono HBA.out.size)).mono HBE.out.size)⟩, by simp [intOf]; omega⟩
      | false =>
        have hN := Lib.hid (show leftsF ((ls.take (k + 1)).map Lay.plain) bearI S = T by rw [HST.out]; exact if_neg (by show ¬ bearI pr S = true; rw [hv]; decide))
        go_wp2_with (go_at_call 118; refine HCL.out.mono ?_; rintro e w2 ⟨rfl, hb2⟩; simp only [hv])
        exact ⟨⟨k + 1, by omega, by go_num, by rw [hN.out], HBE.out.trans ((HBA.out.trans (hb2.mono HBA.out.size)).mono HBE.out.size)⟩, by simp [intOf]; omega⟩
    · have e1 : ¬ (k : Int) < ls.length := by omega
      have hN := Lib.hid (show leftsF ((ls.take k).map Lay.plain) bearI S = leftsF (ls.map Lay.plain) bearI S by rw [List.take_of_length_le (by omega)])
      generalize leftsF ((ls.take k).map Lay.plain) bearI S = T at *
      have HBE := Lib.hid hbe
      clear hbe
      go_wp2
      go_ret
      exact ⟨ret_int (by rw [hN.out]), HBL.out.trans (HBE.out.mono HBL.out.size)⟩


end Go.Proofs.YtejjdfmobiegdaaDoor

namespace Go.Proofs.YtejjdfmobiegdaaDoor
open Go.RowKit
open Doc

/-- Sizes and numbers that the walks ask for. -/
structure RGr (g : Gr) : Prop where
  ps : g.prods.length ≤ 1000000
  pv : ∀ p ∈ g.prods, Small p.2 ∧ p.2.length ≤ 1000000 ∧ -1000 ≤ p.1 ∧ p.1 ≤ 1000
theorem rgr_check {g : Gr} (h : CheckG g) : RGr g := by
  refine ⟨by have := h.p24; omega, fun p hp => ?_⟩
  have h1 := (nums_of_check h) p hp
  have h2 := (h.pv p hp).2.1
  exact ⟨fun s hs => by have := h1.2 s hs; omega, by omega, by omega, by omega⟩
theorem rgr_lay {g : Gr} (h : RGr g) {ls : List Lay} (hp : ls.map Lay.plain = g.prods) : (∀ p ∈ ls, Small p.right ∧ p.right.length ≤ 1000000 ∧ -1000 ≤ p.left ∧ p.left ≤ 1000) ∧ ls.length ≤ 1000000 := by
  refine ⟨fun p hp' => ?_, ?_⟩
  · have := h.pv p.plain (by rw [← hp]; exact List.mem_map.2 ⟨p, hp', rfl⟩)
    exact this
  · have := h.ps; rw [← hp, List.length_map] at this; exact this

theorem fru1_any (a1 a2 a3 : Option Addr) (n1 c1 n2 c2 c3 : Nat) (ls : List Lay) (b S : Nat) (hS : S < 18446744073709551616) (w : World) (hc : w.heap[b]? = some (.cells #[.slice a1 n1 c1, .slice a2 n2 c2, .slice a3 ls.length c3] 29)) (h3 : Cells w a3 (lays ls)) (h4 : ∀ p ∈ ls, Cells w p.addr (nums p.right)) (hr : ∀ p ∈ ls, Small p.right ∧ p.right.length ≤ 1000000 ∧ -1000 ≤ p.left ∧ p.left ≤ 1000) (hls : ls.length ≤ 1000000) :
    Calls Tryd.prog 116 #[.int .u64 S, .pointer (some ⟨b, 0, none⟩)] w fun e w' => e = .returned (.int .u64 (leftsF (ls.map Lay.plain) bearI S : Nat)) ∧ Below w.heap.size w w' := by
  have hbl : Below w.heap.size w (w.alloc (.cells #[.int .u64 S] 127)) := (Below.refl _ _).alloc (Nat.le_refl _) _
  have HV := Lib.hid (lefts_fru a1 a2 a3 n1 c1 n2 c2 c3 ls w.heap.size S hS (w.alloc (.cells #[.int .u64 S] 127)) (heap_alloc_new w _) (h3.below hbl) (fun p hp => (h4 p hp).below hbl) hr hls)
  have x0 := (blk_cell (i := 0) (u := .slice a1 n1 c1) hc rfl).1
  have x1 := (blk_cell (i := 1) (u := .slice a2 n2 c2) hc rfl).1
  have x2 := (blk_cell (i := 2) (u := .slice a3 ls.length c3) hc rfl).1
  have hlt := heap_lt hc
  have HBL := Lib.hid hbl
  clear h3 h4 hbl hr hc
  go_enter Tryd.func116, Tryd.ntmps116
  go_wp2_with (go_at_call 117; refine HV.out.mono ?_; rintro e w2 ⟨rfl, hb2⟩)
  go_ret
  exact ⟨rfl, HBL.out.trans (hb2.mono HBL.out.size)⟩

theorem named_step {ls : List Lay} {k : Nat} {p : Lay} {S : Nat} (hp : ls[k]? = some p) : namedF ((ls.take (k + 1)).map Lay.plain) S = if shas S (p.left - 100) = true then namedR p.right (namedF ((ls.take k).map Lay.plain) S) else namedF ((ls.take k).map Lay.plain) S := by
  rw [List.take_add_one, hp]
  simp only [Option.toList_some, List.map_append, List.map_cons, List.map_nil, namedF, List.foldl_append, List.foldl_cons, List.foldl_nil]
  rfl
theorem namedR_step {r : List Int} {k : Nat} {s : Int} (hs : r[k]? = some s) (a : Nat) : namedR (r.take (k + 1)) a = namedR (r.take k) a ||| sdig (s - 100) := by
  rw [List.take_add_one, hs]
  simp only [Option.toList_some, namedR, List.foldl_append, List.foldl_cons, List.foldl_nil]

set_option maxHeartbeats 1000000 in
theorem grow_fru (a1 a2 a3 : Option Addr) (n1 c1 n2 c2 c3 : Nat) (ls : List Lay) (b s : Nat) (hs : s < 18446744073709551616) (w : World) (hc : w.heap[b]? = some (.cells #[.slice a1 n1 c1, .slice a2 n2 c2, .slice a3 ls.length c3] 29)) (h3 : Cells w a3 (lays ls)) (h4 : ∀ p ∈ ls, Cells w p.addr (nums p.right)) (hr : ∀ p ∈ ls, Small p.right ∧ p.right.length ≤ 1000000 ∧ -1000 ≤ p.left ∧ p.left ≤ 1000) (hls : ls.length ≤ 1000000) :
    Calls Tryd.prog 115 #[.int .u64 s, .func (.func 116) #[] #[.pointer (some ⟨b, 0, none⟩)]] w fun e w' => (∃ r : Nat, e = .returned (.int .u64 r) ∧ Grown (leftsF (ls.map Lay.plain) bearI) s r) ∧ Below w.heap.size w w' := by
  have HF := Lib.hid fun (u : Nat) (hu : u < 18446744073709551616) W (hW : Below w.heap.size w W) => fru1_any a1 a2 a3 n1 c1 n2 c2 c3 ls b u hu W ((hW.block b (heap_lt hc)).trans hc) (h3.below hW) (fun p hp => (h4 p hp).below hW) hr hls
  have HLT := Lib.hid (lefts_lt (ls.map Lay.plain) bearI)
  clear hc h3 h4 hr hls
  go_enter Tryd.func115, Tryd.ntmps115
  go_wp2
  go_loopw [0] (fun v wr => ∃ u : Nat, v = .int .u64 u ∧ u < 18446744073709551616 ∧ Hid (∃ n, u = iterS (leftsF (ls.map Lay.plain) bearI) s n) ∧ Below w.heap.size w wr) (fun v _ => 18446744073709551616 - (intOf v).toNat)
  case atStart => exact ⟨s, rfl, hs, Lib.hid ⟨0, rfl⟩, Below.refl _ _⟩
  case round =>
    obtain ⟨u, rfl, hu, HN, hbe⟩ := hrel
    have HC := Lib.hid (HF.out u hu wr hbe)
    have ht := HLT.out u
    have HNX := Lib.hid (show ∃ n, u ||| leftsF (ls.map Lay.plain) bearI u = iterS (leftsF (ls.map Lay.plain) bearI) s n from HN.out.elim fun n hn => ⟨n + 1, by rw [hn]; rfl⟩)
    have HGR : Hid (u ||| leftsF (ls.map Lay.plain) bearI u = u → Grown (leftsF (ls.map Lay.plain) bearI) s u) := Lib.hid fun h => ⟨HN.out, h⟩
    have hle := le_or u (leftsF (ls.map Lay.plain) bearI u)
    have hol := or_lt u (leftsF (ls.map Lay.plain) bearI u) hu ht
    have HJ := Lib.hid fun W => join_any u (leftsF (ls.map Lay.plain) bearI u) hu ht W
    have HBE := Lib.hid hbe
    clear hbe
    generalize leftsF (ls.map Lay.plain) bearI u = t at *
    by_cases he : u ||| t = u
    · have heb : (((u ||| t : Nat) : Int) == (u : Int)) = true := by rw [he]; simp
      have HG := Lib.hid (HGR.out he)
      clear he hle hol
      go_wp2_with (first
        | (go_at_call 116; refine HC.out.mono ?_; rintro e w2 ⟨rfl, hb2⟩)
        | (go_at_call 120; refine (HJ.out _).mono ?_; rintro e w2 ⟨rfl, rfl⟩))
      go_ret
      exact ⟨⟨u, rfl, HG.out⟩, HBE.out.trans (hb2.mono HBE.out.size)⟩
    · have heb : (((u ||| t : Nat) : Int) == (u : Int)) = false := by simpa using fun h => he (by exact_mod_cast h)
      have hlt : u < u ||| t := by omega
      have HLT2 := Lib.hid hlt
      clear he hle hlt
      go_wp2_with (first
        | (go_at_call 116; refine HC.out.mono ?_; rintro e w2 ⟨rfl, hb2⟩)
        | (go_at_call 120; refine (HJ.out _).mono ?_; rintro e w2 ⟨rfl, rfl⟩))
      exact ⟨⟨u ||| t, rfl, hol, HNX, HBE.out.trans (hb2.mono HBE.out.size)⟩, by have := HLT2.out; simp only [intOf]; omega⟩

end Go.Proofs.YtejjdfmobiegdaaDoor

namespace Go.Proofs.YtejjdfmobiegdaaDoor
open Go.RowKit
open Doc

theorem chk_ok {g : Gr} (h : CheckG g) : chkI g = 0 := if_pos ((chk_iff g).2 h)
theorem fits_check {g : Gr} (h : CheckG g) : Fits g := by
  have h1 := h.t8
  have h2 := h.n8
  have h3 := h.p24
  exact ⟨by omega, by omega, by omega, fun p hp => by have := (h.pv p hp).2.1; omega⟩
theorem small_checkG {g : Gr} (h : CheckG g) : SmallG g := fun p hp => by
  have h1 := nums_of_check h p hp
  unfold maxI
  exact ⟨by omega, fun s hs => by have := h1.2 s hs; omega⟩
theorem kind_len {x : List UInt8} (h : kindOf x ≠ 0) : x.length ≤ 8 := by
  cases x with
  | nil => simp
  | cons c l =>
    have e : kindOf (c :: l) = if nameOk (c :: l) = true then (if up c = true then 1 else 2) else 0 := rfl
    rw [e] at h
    cases hn : nameOk (c :: l) with
    | false => rw [hn] at h; simp at h
    | true => unfold nameOk at hn; simp at hn; have := hn.1.1; simp only [List.length_cons]; omega
theorem check_terms {g : Gr} (h : CheckG g) : ∀ x ∈ g.terms, x.length ≤ maxLen := fun x hx => by
  have := kind_len (x := x) (by rw [h.tk x hx]; decide); unfold maxLen; omega
theorem check_nons {g : Gr} (h : CheckG g) : ∀ x ∈ g.nons, x.length ≤ maxLen := fun x hx => by
  have := kind_len (x := x) (by rw [h.nk x hx]; decide); unfold maxLen; omega
theorem check_calls (v : Value) (g : Gr) (w : World) (hg : GramAt w v g) (h : CheckG g) :
    Calls Tryd.prog 44 #[v] w fun e w' => e = .returned (.int .i64 0) ∧ Below w.heap.size w w' :=
  (chk_any v g w hg (fits_check h) (small_checkG h) (check_terms h) (check_nons h)).mono fun e w' ⟨he, hb⟩ => ⟨he.trans (by rw [chk_ok h]), hb⟩

theorem box_at {w w2 : World} {o : Obj} (h : Below (w.alloc o).heap.size (w.alloc o) w2) : w2.heap[w.heap.size]? = some o := (h.block w.heap.size (by simp)).trans (heap_alloc_new w o)

set_option maxHeartbeats 1000000 in
theorem fruitful0_any (v : Value) (g : Gr) (w : World) (hg : GramAt w v g) (h : CheckG g) :
    Calls Tryd.prog 93 #[v] w fun e w' => (∃ r : Nat, e = .returned (.int .u64 r) ∧ SetIs r (Fru g)) ∧ Below w.heap.size w w' := by
  have hg0 := hg
  obtain ⟨a1, a2, a3, c1, c2, c3, ls, rfl, hp, k1, k2, k3, k4, k5, k6, k7⟩ := hg
  have hS : Below w.heap.size w (w.alloc (.cells #[.slice a1 g.terms.length c1, .slice a2 g.nons.length c2, .slice a3 ls.length c3] 29)) := (Below.refl _ _).alloc (Nat.le_refl _) _
  have hL := rgr_lay (rgr_check h) hp
  have HGR := Lib.hid (grow_fru a1 a2 a3 g.terms.length c1 g.nons.length c2 c3 ls w.heap.size 0 (by decide) (w.alloc (.cells #[.slice a1 g.terms.length c1, .slice a2 g.nons.length c2, .slice a3 ls.length c3] 29)) (heap_alloc_new w _) (k3.below hS) (fun p hp => (k4 p hp).below hS) hL.1 hL.2)
  have HIS := Lib.hid fun r (hr : Grown (leftsF (ls.map Lay.plain) bearI) 0 r) => fru_is (nums_of_check h) (hp ▸ hr)
  have HS := Lib.hid hS
  clear hg0 hS k1 k2 k3 k4 hp h hL
  go_enter Tryd.func93, Tryd.ntmps93
  go_wp2_with (go_at_call 115; refine HGR.out.mono ?_; rintro e w3 ⟨⟨r, rfl, hr⟩, hb3⟩)
  go_ret
  exact ⟨⟨r, rfl, HIS.out r hr⟩, HS.out.trans (hb3.mono HS.out.size)⟩

theorem ofL_one' : ofL [0] = 1 := by decide

end Go.Proofs.YtejjdfmobiegdaaDoor

namespace Go.Proofs.YtejjdfmobiegdaaDoor
open Go.RowKit
open Doc

/-- The places of productions all of whose nonterminals are in F. -/
def trimF (F : Nat) : List (Int × List Int) → Nat → List Int
  | [], _ => []
  | p :: l, i => if bearI p.2 F = true then (i : Int) :: trimF F l (i + 1) else trimF F l (i + 1)
theorem trimF_app (F : Nat) (p : Int × List Int) : ∀ (l : List (Int × List Int)) (i : Nat), trimF F (l ++ [p]) i = trimF F l i ++ (if bearI p.2 F = true then [((i + l.length : Nat) : Int)] else [])
  | [], i => by simp only [List.nil_append, trimF, List.length_nil, Nat.add_zero]
  | q :: l, i => by
    simp only [List.cons_append, trimF, List.length_cons]
    rw [trimF_app F p l (i + 1), show i + 1 + l.length = i + (l.length + 1) by omega]
    split <;> simp
theorem trimF_step {ls : List Lay} {k : Nat} {p : Lay} {F : Nat} (hp : ls[k]? = some p) : trimF F ((ls.take (k + 1)).map Lay.plain) 0 = trimF F ((ls.take k).map Lay.plain) 0 ++ (if bearI p.right F = true then [(k : Int)] else []) := by
  have hk := (List.getElem?_eq_some_iff.1 hp).1
  rw [List.take_add_one, hp]
  simp only [Option.toList_some, List.map_append, List.map_cons, List.map_nil]
  rw [trimF_app]
  have e : 0 + ((ls.take k).map Lay.plain).length = k := by rw [List.length_map, List.length_take]; omega
  rw [e]
  rfl
theorem trimF_len (F : Nat) : ∀ (l : List (Int × List Int)) (i : Nat), (trimF F l i).length ≤ l.length
  | [], _ => by simp [trimF]
  | p :: l, i => by
    have := trimF_len F l (i + 1)
    simp only [trimF]
    split <;> simp only [List.length_cons] <;> omega
theorem trimF_mem (F : Nat) : ∀ (l : List (Int × List Int)) (i : Nat) (x : Int), x ∈ trimF F l i ↔ ∃ j p, l[j]? = some p ∧ bearI p.2 F = true ∧ x = ((i + j : Nat) : Int)
  | [], i, x => by simp [trimF]
  | q :: l, i, x => by
    have ih := trimF_mem F l (i + 1) x
    have step : (∃ j p, (q :: l)[j]? = some p ∧ bearI p.2 F = true ∧ x = ((i + j : Nat) : Int)) ↔ (bearI q.2 F = true ∧ x = (i : Int)) ∨ x ∈ trimF F l (i + 1) := by
      rw [ih]
      constructor
      · rintro ⟨j, p, hj, hb, e⟩
        cases j with
        | zero => simp at hj; subst hj; exact .inl ⟨hb, by simpa using e⟩
        | succ j => exact .inr ⟨j, p, by simpa using hj, hb, by rw [e]; congr 1; omega⟩
      · rintro (⟨hb, e⟩ | ⟨j, p, hj, hb, e⟩)
        · exact ⟨0, q, rfl, hb, by simpa using e⟩
        · exact ⟨j + 1, p, by simpa using hj, hb, by rw [e]; congr 1; omega⟩
    rw [step]
    simp only [trimF]
    split
    · rename_i hb
      rw [List.mem_cons]
      constructor
      · rintro (h | h)
        · exact .inl ⟨hb, h⟩
        · exact .inr h
      · rintro (⟨_, h⟩ | h)
        · exact .inl h
        · exact .inr h
    · rename_i hb
      constructor
      · exact .inr
      · rintro (⟨h, _⟩ | h)
        · exact absurd h hb
        · exact h

/-- How Trim ends. -/
def TrimEnd (B : Nat) (g : Gr) (e : Ending) (w' : World) : Prop :=
  ∃ F : Nat, SetIs F (Fru g) ∧ ((shas F 0 = true ∧ ∃ (a : Option Addr) (c : Nat), e = .returned (.tuple #[.slice a (trimF F g.prods 0).length c, .int .i64 0]) ∧ w'.ownsRow B 3 1 (.slice a (trimF F g.prods 0).length c) (trimF F g.prods 0).length (nums (trimF F g.prods 0))) ∨
    (shas F 0 = false ∧ e = .returned (.tuple #[.slice none 0 0, .int .i64 6])))

set_option maxRecDepth 100000 in
set_option maxHeartbeats 4000000 in
theorem trim_any (v : Value) (g : Gr) (w : World) (hg : GramAt w v g) (h : CheckG g) :
    Calls Tryd.prog 71 #[v] w fun e w' => TrimEnd w.heap.size g e w' ∧ Below w.heap.size w w' := by
  obtain ⟨i0, hi0, hz0, hz1, hz2⟩ := info_of infoI
  have hg0 := hg
  obtain ⟨a1, a2, a3, c1, c2, c3, ls, rfl, hp, k1, k2, k3, k4, k5, k6, k7⟩ := hg
  have hS : Below w.heap.size w (w.alloc (.cells #[.slice a1 g.terms.length c1, .slice a2 g.nons.length c2, .slice a3 ls.length c3] 29)) := (Below.refl _ _).alloc (Nat.le_refl _) _
  have HCK := Lib.hid (check_calls _ g _ (hg0.below hS) h)
  have HFR := Lib.hid fun (W : World) (hW : Below (w.alloc (.cells #[.slice a1 g.terms.length c1, .slice a2 g.nons.length c2, .slice a3 ls.length c3] 29)).heap.size (w.alloc (.cells #[.slice a1 g.terms.length c1, .slice a2 g.nons.length c2, .slice a3 ls.length c3] 29)) W) => fruitful0_any _ g W ((hg0.below hS).below hW) h
  have HBX := Lib.hid fun (W : World) (hW : Below (w.alloc (.cells #[.slice a1 g.terms.length c1, .slice a2 g.nons.length c2, .slice a3 ls.length c3] 29)).heap.size (w.alloc (.cells #[.slice a1 g.terms.length c1, .slice a2 g.nons.length c2, .slice a3 ls.length c3] 29)) W) => box_at hW
  have hL := rgr_lay (rgr_check h) hp
  have HL := Lib.hid hL.1
  have hls := hL.2
  have HC3 := Lib.hid (k3.below hS)
  have HC4 := Lib.hid (fun p hp => (k4 p hp).below hS)
  have HS := Lib.hid hS
  have HP := Lib.hid hp
  have HPL := Lib.hid fun W => place_any 100 W (by omega) (by omega)
  obtain ⟨B0, hB0⟩ : ∃ B, B = w.heap.size := ⟨_, rfl⟩
  have HB0 := Lib.hid hB0
  clear hg0 hS k1 k2 k3 k4 hp h hL hB0
  go_enter Tryd.func71, Tryd.ntmps71
  go_upto_region 5 with (first
    | (go_at_call 44; refine HCK.out.mono ?_; rintro e w2 ⟨rfl, hb2⟩; have q0 := HBX.out _ hb2; have q1 := heap_lt q0; have y0 := (blk_cell (i := 0) (u := .slice a1 g.terms.length c1) q0 rfl).1; have y1 := (blk_cell (i := 1) (u := .slice a2 g.nons.length c2) q0 rfl).1; have y2 := (blk_cell (i := 2) (u := .slice a3 ls.length c3) q0 rfl).1; have HQ0 := Lib.hid q0; clear q0)
    | (go_at_call 93; refine (HFR.out _ hb2).mono ?_; rintro e w3 ⟨⟨F, rfl, hF⟩, hb3⟩))
  have HF := Lib.hid hF
  have hFl := hF.1
  have q3 := (hb3.block _ q1).trans HQ0.out
  have l3 := heap_lt q3
  have x2 := (blk_cell (i := 2) (u := .slice a3 ls.length c3) q3 rfl).1
  have hbw3 := (HS.out.trans (hb2.mono HS.out.size)).trans (hb3.mono (Nat.le_trans HS.out.size hb2.size))
  have HBW3 := Lib.hid hbw3
  have HC33 := Lib.hid ((HC3.out.below hb2).below hb3)
  have HC43 := Lib.hid (fun p hp => ((HC4.out p hp).below hb2).below hb3)
  have HHA := Lib.hid fun W => has_any F 0 hFl W
  clear hF y0 y1 y2 HC3 HC4 HBX HFR HCK q3 hbw3 hb2 hb3 q1
  cases hv : shas F 0 with
  | false =>
    have HV := Lib.hid hv
    go_wp2_with (first
      | (go_at_call 95; refine (HPL.out _).mono ?_; rintro e w4 ⟨rfl, rfl⟩)
      | (go_at_call 94; refine (HHA.out _).mono ?_; rintro e w4 ⟨rfl, rfl⟩; simp only [hv]))
    go_ret2
    exact ⟨⟨F, HF.out, .inr ⟨HV.out, rfl⟩⟩, HBW3.out⟩
  | true =>
    have HV := Lib.hid hv
    go_wp2_with (first
      | (go_at_call 95; refine (HPL.out _).mono ?_; rintro e w4 ⟨rfl, rfl⟩)
      | (go_at_call 94; refine (HHA.out _).mono ?_; rintro e w4 ⟨rfl, rfl⟩; simp only [hv]))
    rename World => w3
    have hB3 : B0 ≤ w3.heap.size := by rw [HB0.out]; exact HBW3.out.size
    go_loopw [6, 23] (fun v i wr => ∃ (k : Nat) (a : Option Addr) (c : Nat), k ≤ ls.length ∧ i = .int .i64 k ∧ v = .slice a (trimF F ((ls.take k).map Lay.plain) 0).length c ∧ Hid (wr.ownsRow w3.heap.size 3 1 (.slice a (trimF F ((ls.take k).map Lay.plain) 0).length c) (trimF F ((ls.take k).map Lay.plain) 0).length (nums (trimF F ((ls.take k).map Lay.plain) 0))) ∧ Below w3.heap.size w3 wr) (fun _ i _ => ls.length - (intOf i).toNat)
    case atStart => exact ⟨0, none, 0, by omega, rfl, rfl, Lib.hid (World.ownsRow_nil _ _ _ _), Below.refl _ _⟩
    case round =>
      obtain ⟨k, a, c, hk, rfl, rfl, HO, hbe⟩ := hrel
      by_cases hlt : k < ls.length
      · obtain ⟨p, hp⟩ : ∃ p, ls[k]? = some p := ⟨_, List.getElem?_eq_getElem hlt⟩
        obtain ⟨pl, pr, pa, pc⟩ := p
        obtain ⟨b3, o3, rfl, hb3, hc3⟩ := (HC33.out.below hbe).get (by intro e; have := (lays_at ls k _ hp).1; rw [e] at this; simp at this)
        have x0 := hc3 _ _ (lays_at ls k _ hp).1
        have x1 := hc3 _ _ (lays_at ls k _ hp).2
        rw [← Nat.add_assoc] at x1
        simp only at x0 x1
        have e1 : (k : Int) < ls.length := by omega
        have hpm := List.mem_of_getElem? hp
        obtain ⟨r1, r2, r3, r4⟩ := HL.out _ hpm
        simp only at r1 r2 r3 r4
        have hbA : Below wr.heap.size wr (wr.alloc (.cells #[.int .i64 pl, .slice pa pr.length pc] 68)) := (Below.refl _ _).alloc (Nat.le_refl _) _
        have HBR := Lib.hid (bears_any pl pa pc pr F hFl (wr.alloc (.cells #[.int .i64 pl, .slice pa pr.length pc] 68)) ((show Cells wr pa (nums pr) from (HC43.out _ hpm).below hbe).below hbA) r1 r2)
        have HST := Lib.hid (trimF_step (F := F) hp)
        have htl := trimF_len F ((ls.take k).map Lay.plain) 0
        rw [List.length_map, List.length_take] at htl
        have HBE := Lib.hid hbe
        have HBA := Lib.hid hbA
        have hsz := hbe.size
        clear hc3 hp hpm r1 hbA hbe
        generalize trimF F ((ls.take k).map Lay.plain) 0 = T at *
        have htl6 : T.length ≤ 1000000 := by omega
        cases hbv : bearI pr F with
        | true =>
          have hN := Lib.hid (show trimF F ((ls.take (k + 1)).map Lay.plain) 0 = T ++ [(k : Int)] by rw [HST.out]; congr 1; exact if_pos hbv)
          go_wp2_with (first
            | (go_at_call 96; refine HBR.out.mono ?_; rintro e w4 ⟨rfl, hb4⟩; simp only [hbv]; have ho4 := own_same HO.out (fun g _ hl => (hb4.block g (Nat.lt_of_lt_of_le hl HBA.out.size)).trans (HBA.out.block g hl)); have HO4 := Lib.hid ho4; clear ho4; have hz4 : w3.heap.size ≤ w4.heap.size := Nat.le_trans hsz (Nat.le_trans HBA.out.size hb4.size))
            | (at_builtin; refine wpList_append_lies _ rfl (.tmp 31) (.tmp 33) 25 rfl w3.heap.size 3 i0 (.int .i64 0) 1 8 Tryd.underlying25 hi0 hz0 hz1 hz2 rfl (by decide) _ T.length (nums T) rfl (HO4.out.alloc _) ⟨w4.heap.size, 0, none⟩ 1 1 [.int .i64 (k : Int)] rfl rfl (World.news_of_block (cs := #[.int .i64 (k : Int)]) (t := 3) (fr := (0, 0)) (heap_alloc_new w4 _)) (by simp [Value.oneCell']) (by decide) (by unfold maxLen; omega) (by omega) (by simp; omega) w4.heap.size.succ (by simp) ?_; intro g5 cap5 w5 hown5 hgrow5 hat5 hlt5; have HO5 := Lib.hid hown5; have HG5 := Lib.hid hgrow5; clear hown5 hgrow5))
          exact ⟨⟨k + 1, some ⟨g5, 0, none⟩, cap5, by omega, by go_num, by rw [hN.out]; simp, Lib.hid (by rw [hN.out]; simpa [nums] using HO5.out), ((HBE.out.trans ((HBA.out.trans (hb4.mono HBA.out.size)).mono HBE.out.size)).alloc hz4 _).grown HG5.out (by simp; omega) (fun x hx => (own_block HO4.out hx).1)⟩, by simp [intOf]; omega⟩
        | false =>
          have hN := Lib.hid (show trimF F ((ls.take (k + 1)).map Lay.plain) 0 = T by rw [HST.out]; rw [if_neg (by show ¬ bearI pr F = true; rw [hbv]; decide)]; simp)
          go_wp2_with (go_at_call 96; refine HBR.out.mono ?_; rintro e w4 ⟨rfl, hb4⟩; simp only [hbv])
          exact ⟨⟨k + 1, a, c, by omega, by go_num, by rw [hN.out], Lib.hid (by rw [hN.out]; exact own_same HO.out (fun g _ hl => (hb4.block g (Nat.lt_of_lt_of_le hl HBA.out.size)).trans (HBA.out.block g hl))), HBE.out.trans ((HBA.out.trans (hb4.mono HBA.out.size)).mono HBE.out.size)⟩, by simp [intOf]; omega⟩
      · have e1 : ¬ (k : Int) < ls.length := by omega
        have hN := Lib.hid (show trimF F ((ls.take k).map Lay.plain) 0 = trimF F g.prods 0 by rw [List.take_of_length_le (by omega), HP.out])
        generalize trimF F ((ls.take k).map Lay.plain) 0 = T at *
        have HBE := Lib.hid hbe
        clear hbe
        go_wp2
        go_ret2
        exact ⟨⟨F, HF.out, .inl ⟨HV.out, a, c, by rw [← hN.out]; rfl, by rw [← hN.out]; exact own_base' HO.out (by rw [← HB0.out]; exact hB3)⟩⟩, HBW3.out.trans (HBE.out.mono HBW3.out.size)⟩

end Go.Proofs.YtejjdfmobiegdaaDoor

namespace Go.Proofs.YtejjdfmobiegdaaDoor
open Go.RowKit
open Doc

theorem nul_fru {g : Gr} : ∀ {x : Int}, Nul g x → Fru g x := fun {x} h => by
  induction h with
  | mk p hp _ ih => exact .mk p hp fun s hs _ => ih s hs
theorem less_zero {n f : Nat} {P Q : Int → Prop} (hn : SetIs n P) (hf : SetIs f Q) (h : ∀ x, P x → Q x) : sless n f = 0 := Nat.eq_of_testBit_eq fun i => by
  rw [bit_less n f i hn.1 hf.1, Nat.zero_testBit, Bool.eq_false_iff]
  intro hb
  rw [Bool.and_eq_true, hn.2] at hb
  have h2 := (hf.2 i).2 ⟨hb.1.1, h _ hb.1.2⟩
  rw [h2] at hb
  simp at hb
theorem has_zero {r : Nat} {P : Int → Prop} (h : SetIs r P) : shas r 0 = true ↔ P 100 := by
  have := h.has 100
  simp only [Int.sub_self] at this
  rw [this]
  constructor
  · exact fun h => h.2.2
  · exact fun h => ⟨by omega, by omega, h⟩

/-- All that ReachHolds asks of the three sets. -/
structure Tells5 (g : Gr) (n f r : Nat) : Prop where
  n_ : SetIs n (Nul g)
  f_ : SetIs f (Fru g)
  r_ : SetIs r (Rea g)
theorem van_has {g : Gr} {n : Nat} (hc : NumsOk g) (hn : SetIs n (Nul g)) {p : Int × List Int} (hp : p ∈ g.prods) (h : vanI p.2 n = true) : shas n (p.1 - 100) = true := by
  rw [hn.has]
  have := (hc p hp).1
  refine ⟨by omega, by omega, .mk p hp fun s hs => ?_⟩
  have h1 := List.all_eq_true.1 h s hs
  exact ((hn.has s).1 h1).2.2
theorem bear_has {g : Gr} {f : Nat} (hc : NumsOk g) (hf : SetIs f (Fru g)) {p : Int × List Int} (hp : p ∈ g.prods) (h : bearI p.2 f = true) : shas f (p.1 - 100) = true := by
  rw [hf.has]
  have := (hc p hp).1
  refine ⟨by omega, by omega, .mk p hp fun s hs h100 => ?_⟩
  have h1 := List.all_eq_true.1 h s hs
  rw [Bool.or_eq_true, decide_eq_true_eq] at h1
  rcases h1 with h1 | h1
  · omega
  · exact ((hf.has s).1 h1).2.2
theorem rea_has {g : Gr} {r : Nat} (hc : NumsOk g) (hr : SetIs r (Rea g)) {p : Int × List Int} (hp : p ∈ g.prods) {s : Int} (hs : s ∈ p.2) (h100 : 100 ≤ s) (h : shas r (p.1 - 100) = true) : shas r (s - 100) = true := by
  rw [hr.has] at h ⊢
  have := (hc p hp).2 s hs
  exact ⟨h100, by omega, .step p s hp h.2.2 hs h100⟩
/-- The places told, as a set. -/
theorem trim_has (F : Nat) (ps : List (Int × List Int)) (hl : ps.length ≤ 64) {k : Nat} {p : Int × List Int} (hp : ps[k]? = some p) : shas (ofL (trimF F ps 0)) (k : Int) = bearI p.2 F := by
  have hk := (List.getElem?_eq_some_iff.1 hp).1
  rw [shas_bit _ _ (by omega), bit_ofL]
  rw [Bool.eq_iff_iff, decide_eq_true_eq, trimF_mem]
  constructor
  · rintro ⟨⟨j, q, hj, hb, e⟩, _⟩
    have : j = k := by omega
    subst this
    rw [hp] at hj
    cases hj
    exact hb
  · intro hb
    exact ⟨⟨k, p, hp, hb, by simp⟩, by omega⟩

theorem vanI_step {r : List Int} {S k : Nat} {s : Int} (hs : r[k]? = some s) : vanI (r.take (k + 1)) S = (vanI (r.take k) S && shas S (s - 100)) := by
  unfold vanI
  rw [List.take_add_one, hs]; simp
theorem bearI_step {r : List Int} {S k : Nat} {s : Int} (hs : r[k]? = some s) : bearI (r.take (k + 1)) S = (bearI (r.take k) S && (decide (s < 100) || shas S (s - 100))) := by
  unfold bearI
  rw [List.take_add_one, hs]; simp
theorem shas_low (S : Nat) {s : Int} (h : s < 100) : shas S (s - 100) = false := by
  rw [has_eq]
  have : decide (0 ≤ s - 100 ∧ s - 100 < 64) = false := by rw [decide_eq_false_iff_not]; omega
  rw [this]; rfl

/-- Trim, in one form. -/
def TrimOf (g : Gr) (F : Nat) (l : List Int) (er : Int) : Prop := (shas F 0 = true ∧ er = 0 ∧ l = trimF F g.prods 0) ∨ (shas F 0 = false ∧ er = 6 ∧ l = [])
theorem trim_one (v : Value) (g : Gr) (w : World) (hg : GramAt w v g) (h : CheckG g) :
    Calls Tryd.prog 71 #[v] w fun e w' => Below w.heap.size w w' ∧ ∃ (F : Nat) (a : Option Addr) (c : Nat) (l : List Int) (er : Int), e = .returned (.tuple #[.slice a l.length c, .int .i64 er]) ∧ SetIs F (Fru g) ∧ TrimOf g F l er ∧ Cells w' a (nums l) ∧ l.length ≤ 1000000 := by
  refine (trim_any v g w hg h).mono fun e w' ⟨⟨F, hF, he⟩, hb⟩ => ⟨hb, ?_⟩
  rcases he with ⟨h1, a, c, he, ho⟩ | ⟨h1, he⟩
  · exact ⟨F, a, c, trimF F g.prods 0, 0, he, hF, .inl ⟨h1, rfl, rfl⟩, (own_cells ho).1, by have := trimF_len F g.prods 0; have := h.p24; omega⟩
  · exact ⟨F, none, 0, [], 6, he, hF, .inr ⟨h1, rfl, rfl⟩, .inl rfl, by simp⟩

end Go.Proofs.YtejjdfmobiegdaaDoor

namespace Go.Proofs.YtejjdfmobiegdaaDoor
open Go.RowKit
open Doc

def wg : Gr := ⟨[[97]], [[83]], [(100, [1, 100]), (100, [])]⟩
theorem wg_check : CheckG wg := (chk_iff wg).1 (by decide +kernel)
theorem wg_nul {r : Nat} (h : SetIs r (Nul wg)) : r = 1 := by
  refine h.uniq ⟨by decide, fun i => ?_⟩
  have hall : ∀ x, Nul wg x → x = 100 := fun x hx => by
    cases hx with
    | mk p hp _ =>
      simp only [wg, List.mem_cons, List.not_mem_nil, or_false] at hp
      rcases hp with rfl | rfl <;> rfl
  have h0 : Nul wg 100 := Nul.mk (100, []) (by simp [wg]) (by intro s hs; cases hs)
  rw [show (1 : Nat) = 2 ^ 0 from rfl, Nat.testBit_two_pow, decide_eq_true_eq]
  constructor
  · rintro rfl; exact ⟨by omega, h0⟩
  · rintro ⟨_, h1⟩; have := hall _ h1; omega

theorem cells_w {w : World} {b : Nat} {cs : Array Value} {T : TypeId} (h : w.heap[b]? = some (.cells cs T)) : Cells w (some ⟨b, 0, none⟩) cs.toList := by
  refine .inr ⟨b, 0, rfl, heap_lt h, fun j u hj => ?_⟩
  rw [Nat.zero_add]
  exact (blk_cell h (by simpa using hj)).1

end Go.Proofs.YtejjdfmobiegdaaDoor
