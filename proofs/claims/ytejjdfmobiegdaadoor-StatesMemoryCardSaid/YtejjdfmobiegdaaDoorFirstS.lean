/- What a row may begin with: sets that grow, in plain words. No program here. -/
import Derived.Test.YtejjdfmobiegdaaDoorReach
namespace Go.Proofs.YtejjdfmobiegdaaDoor
open Doc

def aloneF (t : Nat) (F : List Nat) (s : Int) : Nat := if 1 ≤ s ∧ s ≤ (t : Int) then sdig s else if 100 ≤ s ∧ s < 100 + (F.length : Int) then F.getD (s - 100).toNat 0 else 0
def goOnF (row behind : Nat) : Nat := if shas row 0 = true then sless row 1 ||| behind else row
def ofF (t : Nat) (F : List Nat) : List Int → Nat → Nat
  | [], row => row
  | s :: l, row => if aloneF t F s = 0 then 0 else ofF t F l (goOnF row (aloneF t F s))
def stepF (t : Nat) (ps : List (Int × List Int)) (F : List Nat) (k : Int) : List Nat :=
  match ps[k.toNat]? with
  | none => F
  | some p => F.set (p.1 - 100).toNat (F.getD (p.1 - 100).toNat 0 ||| ofF t F p.2 1)
def growF (t : Nat) (ps : List (Int × List Int)) (l : List Int) (F : List Nat) : List Nat := l.foldl (stepF t ps) F
def iterL (f : List Nat → List Nat) (F : List Nat) : Nat → List Nat
  | 0 => F
  | n + 1 => f (iterL f F n)

/-- All of one are in the other. -/
def Sub (a b : Nat) : Prop := ∀ i, a.testBit i = true → b.testBit i = true
def SubF (F G : List Nat) : Prop := ∀ i, Sub (F.getD i 0) (G.getD i 0)
/-- No digit above t. -/
def LowB (t a : Nat) : Prop := ∀ i, a.testBit i = true → i ≤ t
def LowF (t : Nat) (F : List Nat) : Prop := ∀ i, LowB t (F.getD i 0)

theorem Sub.refl (a : Nat) : Sub a a := fun _ h => h
theorem Sub.trans {a b c : Nat} (h : Sub a b) (k : Sub b c) : Sub a c := fun i hi => k i (h i hi)
theorem Sub.zero (b : Nat) : Sub 0 b := fun i hi => by simp at hi
theorem Sub.anti {a b : Nat} (h : Sub a b) (k : Sub b a) : a = b := Nat.eq_of_testBit_eq fun i => Bool.eq_iff_iff.2 ⟨h i, k i⟩
theorem Sub.ne {a b : Nat} (h : Sub a b) (ha : a ≠ 0) : b ≠ 0 := by
  rintro rfl
  exact ha (h.anti (Sub.zero _))
theorem sub_or_left (a b : Nat) : Sub a (a ||| b) := fun i hi => by rw [Nat.testBit_or, hi]; rfl
theorem sub_or_right (a b : Nat) : Sub b (a ||| b) := fun i hi => by rw [Nat.testBit_or, hi]; simp
theorem or_sub {a b c : Nat} (h : Sub a c) (k : Sub b c) : Sub (a ||| b) c := fun i hi => by
  rw [Nat.testBit_or, Bool.or_eq_true] at hi
  exact hi.elim (h i) (k i)
theorem or_self_sub {a b : Nat} (h : a ||| b = a) : Sub b a := fun i hi => by rw [← h, Nat.testBit_or, hi]; simp
theorem sub_or_self {a b : Nat} (h : Sub b a) : a ||| b = a := Sub.anti (or_sub (Sub.refl _) h) (sub_or_left a b)
theorem low_lt {t a : Nat} (h : LowB t a) (ht : t ≤ 63) : a < 18446744073709551616 := by
  have : a < 2 ^ 64 := Nat.lt_pow_two_of_testBit _ fun i hi => by
    cases hb : a.testBit i with
    | false => rfl
    | true => have := h i hb; omega
  exact this
theorem LowB.or {t a b : Nat} (h : LowB t a) (k : LowB t b) : LowB t (a ||| b) := fun i hi => by
  rw [Nat.testBit_or, Bool.or_eq_true] at hi
  exact hi.elim (h i) (k i)
theorem low_dig {t : Nat} {s : Int} (h : s ≤ (t : Int)) : LowB t (sdig s) := fun i hi => by
  rw [bit_dig, decide_eq_true_eq] at hi; omega
theorem low_zero (t : Nat) : LowB t 0 := fun i hi => by simp at hi
theorem low_one (t : Nat) : LowB t 1 := fun i hi => by
  rw [show (1 : Nat) = 2 ^ 0 from rfl, Nat.testBit_two_pow, decide_eq_true_eq] at hi; omega
theorem one_bit (i : Nat) : Nat.testBit 1 i = decide (i = 0) := by
  rw [show (1 : Nat) = 2 ^ 0 from rfl, Nat.testBit_two_pow]
  by_cases h : i = 0
  · subst h; rfl
  · rw [decide_eq_false h, decide_eq_false (fun e => h e.symm)]
theorem has_zero_bit (a : Nat) : shas a 0 = a.testBit 0 := shas_bit a 0 (by omega)
theorem bit_less_one {a : Nat} (ha : a < 18446744073709551616) (i : Nat) : (sless a 1).testBit i = (a.testBit i && !decide (i = 0)) := by
  rw [bit_less a 1 i ha (by decide), one_bit]
theorem goOn_bit {a : Nat} (ha : a < 18446744073709551616) (b i : Nat) : (goOnF a b).testBit i = if a.testBit 0 = true then ((a.testBit i && !decide (i = 0)) || b.testBit i) else a.testBit i := by
  unfold goOnF
  rw [has_zero_bit]
  split
  · rw [Nat.testBit_or, bit_less_one ha]
  · rfl
theorem goOn_mono {a a' b b' : Nat} (ha : a < 18446744073709551616) (ha' : a' < 18446744073709551616) (h : Sub a a') (k : Sub b b') : Sub (goOnF a b) (goOnF a' b') := fun i hi => by
  rw [goOn_bit ha] at hi
  rw [goOn_bit ha']
  by_cases h0 : a.testBit 0 = true
  · rw [if_pos h0, Bool.or_eq_true, Bool.and_eq_true] at hi
    rw [if_pos (h 0 h0), Bool.or_eq_true, Bool.and_eq_true]
    exact hi.elim (fun x => .inl ⟨h i x.1, x.2⟩) (fun x => .inr (k i x))
  · rw [if_neg h0] at hi
    have hi0 : i ≠ 0 := by rintro rfl; exact h0 hi
    split
    · rw [Bool.or_eq_true, Bool.and_eq_true]
      exact .inl ⟨h i hi, by simpa using hi0⟩
    · exact h i hi
theorem low_goOn {t a b : Nat} (ht : t ≤ 63) (h : LowB t a) (k : LowB t b) : LowB t (goOnF a b) := fun i hi => by
  rw [goOn_bit (low_lt h ht)] at hi
  split at hi
  · rw [Bool.or_eq_true, Bool.and_eq_true] at hi
    exact hi.elim (fun x => h i x.1) (k i)
  · exact h i hi
theorem low_alone {t : Nat} {F : List Nat} (h : LowF t F) (s : Int) : LowB t (aloneF t F s) := by
  unfold aloneF
  split
  · rename_i hs; exact low_dig hs.2
  · split
    · exact h _
    · exact low_zero t
theorem low_of {t : Nat} (ht : t ≤ 63) {F : List Nat} (h : LowF t F) : ∀ (l : List Int) (row : Nat), LowB t row → LowB t (ofF t F l row)
  | [], row, hr => hr
  | s :: l, row, hr => by
    show LowB t (if aloneF t F s = 0 then 0 else ofF t F l (goOnF row (aloneF t F s)))
    split
    · exact low_zero t
    · exact low_of ht h l _ (low_goOn ht hr (low_alone h s))
theorem alone_mono {t : Nat} {F G : List Nat} (hl : F.length = G.length) (h : SubF F G) (s : Int) : Sub (aloneF t F s) (aloneF t G s) := by
  unfold aloneF
  rw [hl]
  split
  · exact Sub.refl _
  · split
    · exact h _
    · exact Sub.refl _
theorem of_mono {t : Nat} (ht : t ≤ 63) {F G : List Nat} (hl : F.length = G.length) (h : SubF F G) (hF : LowF t F) (hG : LowF t G) : ∀ (l : List Int) (a b : Nat), LowB t a → LowB t b → Sub a b → Sub (ofF t F l a) (ofF t G l b)
  | [], a, b, _, _, k => k
  | s :: l, a, b, ha, hb, k => by
    show Sub (if aloneF t F s = 0 then 0 else ofF t F l (goOnF a (aloneF t F s))) (if aloneF t G s = 0 then 0 else ofF t G l (goOnF b (aloneF t G s)))
    have hm := alone_mono (t := t) hl h s
    split
    · exact Sub.zero _
    · rename_i h0
      rw [if_neg (hm.ne h0)]
      exact of_mono ht hl h hF hG l _ _ (low_goOn ht ha (low_alone hF s)) (low_goOn ht hb (low_alone hG s)) (goOn_mono (low_lt ha ht) (low_lt hb ht) k hm)

/-- A production's own first ones are its left's already. -/
def ClosedAt (t : Nat) (F : List Nat) (p : Int × List Int) : Prop := Sub (ofF t F p.2 1) (F.getD (p.1 - 100).toNat 0)
theorem getD_set (F : List Nat) (i j v : Nat) : (F.set i v).getD j 0 = if i = j ∧ j < F.length then v else F.getD j 0 := by
  rw [List.getD_eq_getElem?_getD, List.getD_eq_getElem?_getD, List.getElem?_set]
  by_cases h : i = j
  · subst h
    by_cases h2 : i < F.length
    · simp [h2]
    · simp [h2]
  · simp [h]
theorem step_len (t : Nat) (ps : List (Int × List Int)) (F : List Nat) (k : Int) : (stepF t ps F k).length = F.length := by
  unfold stepF; split <;> simp
theorem grow_len (t : Nat) (ps : List (Int × List Int)) : ∀ (l : List Int) (F : List Nat), (growF t ps l F).length = F.length
  | [], _ => rfl
  | k :: l, F => (grow_len t ps l _).trans (step_len t ps F k)
theorem low_step {t : Nat} (ht : t ≤ 63) {ps : List (Int × List Int)} {F : List Nat} (h : LowF t F) (k : Int) : LowF t (stepF t ps F k) := by
  unfold stepF
  split
  · exact h
  · rename_i p hp
    intro j
    rw [getD_set]
    split
    · exact (h _).or (low_of ht h _ _ (low_one t))
    · exact h j
theorem low_grow {t : Nat} (ht : t ≤ 63) {ps : List (Int × List Int)} : ∀ (l : List Int) {F : List Nat}, LowF t F → LowF t (growF t ps l F)
  | [], _, h => h
  | k :: l, _, h => low_grow ht l (low_step ht h k)
theorem low_iter {t : Nat} (ht : t ≤ 63) {ps : List (Int × List Int)} {l : List Int} {F : List Nat} (h : LowF t F) : ∀ n, LowF t (iterL (growF t ps l) F n)
  | 0 => h
  | n + 1 => low_grow ht l (low_iter ht h n)
theorem iter_len (t : Nat) (ps : List (Int × List Int)) (l : List Int) (F : List Nat) : ∀ n, (iterL (growF t ps l) F n).length = F.length
  | 0 => rfl
  | n + 1 => (grow_len t ps l _).trans (iter_len t ps l F n)
theorem SubF.refl (F : List Nat) : SubF F F := fun _ => Sub.refl _
theorem SubF.trans {F G H : List Nat} (h : SubF F G) (k : SubF G H) : SubF F H := fun i => (h i).trans (k i)
theorem SubF.anti {F G : List Nat} (hl : F.length = G.length) (h : SubF F G) (k : SubF G F) : F = G := by
  apply List.ext_getElem? 
  intro i
  by_cases hi : i < F.length
  · have e := Sub.anti (h i) (k i)
    rw [List.getD_eq_getElem?_getD, List.getD_eq_getElem?_getD, List.getElem?_eq_getElem hi, List.getElem?_eq_getElem (by omega)] at e
    rw [List.getElem?_eq_getElem hi, List.getElem?_eq_getElem (by omega)]
    exact congrArg some e
  · rw [List.getElem?_eq_none (by omega), List.getElem?_eq_none (by omega)]
theorem step_ext (t : Nat) (ps : List (Int × List Int)) (F : List Nat) (k : Int) : SubF F (stepF t ps F k) := fun j => by
  unfold stepF
  split
  · exact Sub.refl _
  · rw [getD_set]
    split
    · rename_i h; rw [h.1]; exact sub_or_left _ _
    · exact Sub.refl _
theorem grow_ext (t : Nat) (ps : List (Int × List Int)) : ∀ (l : List Int) (F : List Nat), SubF F (growF t ps l F)
  | [], F => SubF.refl F
  | k :: l, F => (step_ext t ps F k).trans (grow_ext t ps l _)
/-- What is closed holds all that grows below it. -/
theorem step_sub {t : Nat} (ht : t ≤ 63) {ps : List (Int × List Int)} {F G : List Nat} (hl : F.length = G.length) (h : SubF F G) (hF : LowF t F) (hG : LowF t G) {k : Int} (hc : ∀ p, ps[k.toNat]? = some p → ClosedAt t G p) : SubF (stepF t ps F k) G := by
  unfold stepF
  cases hp : ps[k.toNat]? with
  | none => exact h
  | some p =>
    intro j
    simp only
    rw [getD_set]
    split
    · rename_i hj
      rw [← hj.1]
      exact or_sub (h _) ((of_mono ht hl h hF hG p.2 1 1 (low_one t) (low_one t) (Sub.refl _)).trans (hc p hp))
    · exact h j
theorem grow_sub {t : Nat} (ht : t ≤ 63) {ps : List (Int × List Int)} {G : List Nat} (hG : LowF t G) : ∀ (l : List Int) {F : List Nat}, F.length = G.length → SubF F G → LowF t F → (∀ k ∈ l, ∀ p, ps[k.toNat]? = some p → ClosedAt t G p) → SubF (growF t ps l F) G
  | [], _, _, h, _, _ => h
  | k :: l, F, hl, h, hF, hc => grow_sub ht hG l ((step_len t ps F k).trans hl) (step_sub ht hl h hF hG (hc k List.mem_cons_self)) (low_step ht hF k) (fun k' hk' => hc k' (List.mem_cons_of_mem _ hk'))
theorem iter_sub {t : Nat} (ht : t ≤ 63) {ps : List (Int × List Int)} {l : List Int} {F G : List Nat} (hG : LowF t G) (hl : F.length = G.length) (h : SubF F G) (hF : LowF t F) (hc : ∀ k ∈ l, ∀ p, ps[k.toNat]? = some p → ClosedAt t G p) : ∀ n, SubF (iterL (growF t ps l) F n) G
  | 0 => h
  | n + 1 => grow_sub ht hG l ((iter_len t ps l F n).trans hl) (iter_sub ht hG hl h hF hc n) (low_iter ht hF n) hc
/-- What grows no more is closed. -/
theorem grow_fix {t : Nat} {ps : List (Int × List Int)} {F : List Nat} (hps : ∀ p ∈ ps, (p.1 - 100).toNat < F.length) : ∀ (l : List Int) (E : List Nat), E.length = F.length → SubF F E → SubF (growF t ps l E) F → ∀ k ∈ l, ∀ p, ps[k.toNat]? = some p → ClosedAt t F p
  | [], _, _, _, _, k, hk, _, _ => by cases hk
  | k :: l, E, hl, h1, h2, k', hk', p, hp => by
    have e1 : E = F := SubF.anti hl ((step_ext t ps E k).trans ((grow_ext t ps l _).trans h2)) h1
    subst e1
    have e2 : stepF t ps E k = E := (SubF.anti (step_len t ps E k) ((grow_ext t ps l _).trans h2) (step_ext t ps E k))
    have h2' : SubF (growF t ps l (stepF t ps E k)) E := h2
    rw [e2] at h2'
    rcases List.mem_cons.1 hk' with rfl | hk'
    · have hb := hps p (List.mem_of_getElem? hp)
      unfold stepF at e2
      rw [hp] at e2
      try simp only at e2
      have e3 : (E.set (p.1 - 100).toNat (E.getD (p.1 - 100).toNat 0 ||| ofF t E p.2 1)).getD (p.1 - 100).toNat 0 = E.getD (p.1 - 100).toNat 0 := by rw [e2]
      rw [getD_set, if_pos ⟨rfl, hb⟩] at e3
      exact or_self_sub e3
    · exact grow_fix hps l E rfl (SubF.refl E) h2' k' hk' p hp

/-- Productions of which words come. -/
def Usable (g : Gr) (p : Int × List Int) : Prop := ∀ s ∈ p.2, 100 ≤ s → Fru g s
/-- What New makes of a grammar. -/
structure FirstIs (g : Gr) (F : List Nat) : Prop where
  len : F.length = g.nons.length
  low : LowF g.terms.length F
  closed : ∀ p ∈ g.prods, Usable g p → ClosedAt g.terms.length F p
  least : ∀ G : List Nat, G.length = g.nons.length → LowF g.terms.length G → (∀ p ∈ g.prods, Usable g p → ClosedAt g.terms.length G p) → SubF F G
theorem usable_bear {g : Gr} {S : Nat} (hn : NumsOk g) (hS : SetIs S (Fru g)) {p : Int × List Int} (hp : p ∈ g.prods) : bearI p.2 S = true ↔ Usable g p := by
  unfold bearI Usable
  rw [List.all_eq_true]
  constructor
  · intro h s hs h100
    have := h s hs
    rw [Bool.or_eq_true, decide_eq_true_eq] at this
    rcases this with h1 | h1
    · omega
    · exact ((hS.has s).1 h1).2.2
  · intro h s hs
    rw [Bool.or_eq_true, decide_eq_true_eq]
    by_cases h100 : s < 100
    · exact .inl h100
    · refine .inr ((hS.has s).2 ⟨by omega, ?_, h s hs (by omega)⟩)
      have := ((hn p hp).2 s hs).2; omega
def zerosF (n : Nat) : List Nat := List.replicate n 0
theorem zeros_get (n i : Nat) : (zerosF n).getD i 0 = 0 := by
  unfold zerosF
  rw [List.getD_eq_getElem?_getD, List.getElem?_replicate]
  split <;> rfl
theorem first_is {g : Gr} (hc : CheckG g) {S : Nat} (hS : SetIs S (Fru g)) {F : List Nat} {m : Nat} (hF : F = iterL (growF g.terms.length g.prods (trimF S g.prods 0)) (zerosF g.nons.length) m) (hfix : growF g.terms.length g.prods (trimF S g.prods 0) F = F) : FirstIs g F := by
  have ht : g.terms.length ≤ 63 := by have := hc.t8; omega
  have hn := nums_of_check hc
  have hz : LowF g.terms.length (zerosF g.nons.length) := fun i => by rw [zeros_get]; exact low_zero _
  have hl : F.length = g.nons.length := by rw [hF, iter_len]; simp [zerosF]
  have hlow : LowF g.terms.length F := by rw [hF]; exact low_iter ht hz m
  have hps : ∀ p ∈ g.prods, (p.1 - 100).toNat < F.length := fun p hp => by have := (hc.pv p hp).1; omega
  have hmem : ∀ k ∈ trimF S g.prods 0, ∀ p, g.prods[k.toNat]? = some p → p ∈ g.prods ∧ Usable g p := fun k hk p hp => by
    obtain ⟨j, q, hj, hb, rfl⟩ := (trimF_mem S g.prods 0 k).1 hk
    have e : ((0 + j : Nat) : Int).toNat = j := by omega
    rw [e] at hp
    rw [hp] at hj
    cases hj
    exact ⟨List.mem_of_getElem? hp, (usable_bear hn hS (List.mem_of_getElem? hp)).1 hb⟩
  refine ⟨hl, hlow, ?_, ?_⟩
  · intro p hp hu
    obtain ⟨j, hj⟩ := List.mem_iff_getElem?.1 hp
    have hk : ((0 + j : Nat) : Int) ∈ trimF S g.prods 0 := (trimF_mem S g.prods 0 _).2 ⟨j, p, hj, (usable_bear hn hS hp).2 hu, rfl⟩
    refine grow_fix hps (trimF S g.prods 0) F rfl (SubF.refl F) (by rw [hfix]; exact SubF.refl F) _ hk p ?_
    have e : ((0 + j : Nat) : Int).toNat = j := by omega
    rw [e]; exact hj
  · intro G hG hGl hGc
    rw [hF]
    refine iter_sub ht hGl (by rw [hG]; simp [zerosF]) (fun i => by rw [zeros_get]; exact Sub.zero _) hz (fun k hk p hp => ?_) m
    obtain ⟨h1, h2⟩ := hmem k hk p hp
    exact hGc p h1 h2

/-- A row whose first ones are known, behind what there is by now. -/
theorem goOn_one {b : Nat} : goOnF 1 b = b := by
  have e : sless 1 1 = 0 := by decide
  unfold goOnF
  rw [if_pos (by decide), e, Nat.zero_or]
theorem of_goOn {t : Nat} (ht : t ≤ 63) {F : List Nat} (hF : LowF t F) : ∀ (l : List Int) (a : Nat), LowB t a → (∀ s ∈ l, aloneF t F s ≠ 0) → ofF t F l a = if shas a 0 = true then sless a 1 ||| ofF t F l 1 else a
  | [], a, ha, _ => by
    show a = _
    split
    · rename_i h0
      apply Nat.eq_of_testBit_eq
      intro i
      show _ = (sless a 1 ||| 1).testBit i
      rw [has_zero_bit] at h0
      rw [Nat.testBit_or, bit_less_one (low_lt ha ht), one_bit]
      by_cases hi : i = 0
      · subst hi; rw [h0]; rfl
      · simp [hi]
    · rfl
  | s :: l, a, ha, hl => by
    have hs := hl s List.mem_cons_self
    have hr := fun s' h' => hl s' (List.mem_cons_of_mem s h')
    have e1 : ∀ r, ofF t F (s :: l) r = ofF t F l (goOnF r (aloneF t F s)) := fun r => if_neg hs
    have hb := low_alone hF s
    rw [e1, e1, goOn_one, of_goOn ht hF l _ (low_goOn ht ha hb) hr, of_goOn ht hF l _ hb hr]
    generalize aloneF t F s = b at *
    generalize ofF t F l 1 = X
    have hal := low_lt ha ht
    have hbl := low_lt hb ht
    by_cases h0 : shas a 0 = true
    · have hg : goOnF a b = sless a 1 ||| b := if_pos h0
      have hgl : sless a 1 ||| b < 18446744073709551616 := or_lt _ _ (less_lt _ _ hal) hbl
      rw [if_pos h0, hg]
      have h00 : shas (sless a 1 ||| b) 0 = shas b 0 := by
        rw [has_zero_bit, has_zero_bit, Nat.testBit_or, bit_less_one hal]; simp
      rw [h00]
      by_cases h1 : shas b 0 = true
      · rw [if_pos h1, if_pos h1]
        apply Nat.eq_of_testBit_eq
        intro i
        rw [Nat.testBit_or, Nat.testBit_or, Nat.testBit_or, bit_less_one hgl, bit_less_one hbl, bit_less_one hal, Nat.testBit_or, bit_less_one hal]
        by_cases hi : i = 0
        · subst hi; simp
        · simp [hi, Bool.or_assoc]
      · rw [if_neg h1, if_neg h1]
    · have hg : goOnF a b = a := if_neg h0
      rw [hg, if_neg h0, if_neg h0]

end Go.Proofs.YtejjdfmobiegdaaDoor
