/- lang: what a settled track tells, in plain terms. lang: a settled track is closed. -/
import Derived.Test.YtejjdfmobiegdaaDoorTrkT
import Derived.Test.YtejjdfmobiegdaaDoorWordD
set_option linter.unusedVariables false
namespace Go.Proofs.YtejjdfmobiegdaaDoor
open Doc

/-- A step by a terminal. -/
def Stp (X : Trk) (p : Nat) (t : Int) (q : Nat) : Prop := (q = p + 1 ∧ (X.st.getD t.toNat 0).testBit p = true) ∨ (q = p ∧ X.stays.testBit p = true)
/-- A word leads from a place to a place. -/
inductive Wlk (X : Trk) : List Int → Nat → Nat → Prop where
  | nil (p : Nat) : Wlk X [] p p
  | cons {p m q : Nat} {t : Int} {v : List Int} : Stp X p t m → Wlk X v m q → Wlk X (t :: v) p q
theorem Wlk.split {X : Trk} : ∀ {v w : List Int} {p q : Nat}, Wlk X (v ++ w) p q → ∃ m, Wlk X v p m ∧ Wlk X w m q
  | [], w, p, q, h => ⟨p, .nil p, h⟩
  | t :: v, w, p, q, h => by
    cases h with
    | cons hs h =>
      obtain ⟨m, h1, h2⟩ := Wlk.split h
      exact ⟨m, .cons hs h1, h2⟩
theorem Wlk.app {X : Trk} : ∀ {v w : List Int} {p m q : Nat}, Wlk X v p m → Wlk X w m q → Wlk X (v ++ w) p q
  | [], _, _, _, _, h, k => by cases h; exact k
  | t :: v, w, p, m, q, h, k => by
    cases h with
    | cons hs h => exact .cons hs (Wlk.app h k)
/-- A symbol leads from a place to a place, as the track's ends say. -/
def Sy (X : Trk) (s : Int) (p q : Nat) : Prop := (s < 100 ∧ Stp X p s q) ∨ (¬ s < 100 ∧ (X.en.getD ((s - 100).toNat * 13 + p) 0).testBit q = true)
def Pth (X : Trk) : List Int → Nat → Nat → Prop
  | [], p, q => p = q
  | s :: r, p, q => ∃ m, Sy X s p m ∧ Pth X r m q
theorem dbl_bit (x q : Nat) : (x * 2).testBit q = (decide (1 ≤ q) && x.testBit (q - 1)) := by
  rw [show x * 2 = 2 ^ 1 * x by omega, Nat.testBit_two_pow_mul]
theorem symT_bit {X : Trk} {l : Nat} (hl : l < 8192) (s : Int) (q : Nat) : (symT X l s).testBit q = true ↔ ∃ p, l.testBit p = true ∧ Sy X s p q := by
  unfold symT Sy Stp
  by_cases hs : s < 100
  · rw [if_pos hs, Nat.testBit_or, dbl_bit, Nat.testBit_and, Nat.testBit_and, Bool.or_eq_true, Bool.and_eq_true, Bool.and_eq_true, Bool.and_eq_true, decide_eq_true_eq]
    constructor
    · rintro (⟨h1, h2, h3⟩ | ⟨h1, h2⟩)
      · exact ⟨q - 1, h2, .inl ⟨hs, .inl ⟨by omega, h3⟩⟩⟩
      · exact ⟨q, h1, .inl ⟨hs, .inr ⟨rfl, h2⟩⟩⟩
    · rintro ⟨p, hp, ⟨_, (⟨rfl, h⟩ | ⟨rfl, h⟩)⟩ | ⟨hn, _⟩⟩
      · left; exact ⟨by omega, by rw [Nat.add_sub_cancel]; exact hp, by rw [Nat.add_sub_cancel]; exact h⟩
      · right; exact ⟨hp, h⟩
      · exact absurd hs hn
  · rw [if_neg hs, onT_bit]
    constructor
    · rintro ⟨p, _, h1, h2⟩; exact ⟨p, h1, .inr ⟨hs, h2⟩⟩
    · rintro ⟨p, hp, ⟨h, _⟩ | ⟨_, h⟩⟩
      · exact absurd h hs
      · exact ⟨p, bit_lt (n := 13) hl hp, hp, h⟩
theorem fold_bit {X : Trk} (hk : TrkOk X) : ∀ (r : List Int) (l : Nat), l < 8192 → ∀ q, (r.foldl (symT X) l).testBit q = true ↔ ∃ p, l.testBit p = true ∧ Pth X r p q
  | [], l, hl, q => by
    constructor
    · intro h; exact ⟨q, h, rfl⟩
    · rintro ⟨p, hp, rfl⟩; exact hp
  | s :: r, l, hl, q => by
    rw [List.foldl_cons, fold_bit hk r _ (symT_lt hk l hl s)]
    constructor
    · rintro ⟨m, h1, h2⟩
      obtain ⟨p, hp, hs⟩ := (symT_bit hl s m).1 h1
      exact ⟨p, hp, m, hs, h2⟩
    · rintro ⟨p, hp, m, hs, h2⟩
      exact ⟨m, (symT_bit hl s m).2 ⟨p, hp, hs⟩, h2⟩
theorem rowT_bit {X : Trk} (hk : TrkOk X) (r : List Int) {at_ : Nat} (ha : at_ < 13) (q : Nat) : (rowT X r at_).testBit q = true ↔ Pth X r at_ q := by
  unfold rowT
  rw [fold_bit hk r _ (show 2 ^ at_ < 2 ^ 13 from Nat.pow_lt_pow_right (by omega) ha)]
  constructor
  · rintro ⟨p, hp, h⟩
    rw [Nat.testBit_two_pow] at hp
    have := of_decide_eq_true hp
    subst this; exact h
  · intro h; exact ⟨at_, by rw [Nat.testBit_two_pow]; simp, h⟩

/-- All productions' words are told, at the places up to the last. -/
def ClosedT (X : Trk) (E : List Nat) : Prop := ∀ at_, at_ ≤ X.last → ∀ p ∈ X.ls, Sub (rowT (X.wen E) p.right at_) (E.getD ((p.left - 100).toNat * 13 + at_) 0)
/-- No step leads behind the last place. -/
def StepsIn (X : Trk) : Prop := ∀ p t q, p ≤ X.last → Stp X p t q → q ≤ X.last
theorem Wlk.le {X : Trk} (hs : StepsIn X) : ∀ {v : List Int} {p q : Nat}, Wlk X v p q → p ≤ X.last → q ≤ X.last
  | _, _, _, .nil _, h => h
  | _, _, _, .cons hst hw, h => Wlk.le hs hw (hs _ _ _ h hst)
theorem pth_of {X : Trk} {E : List Nat} (hk : TrkOk (X.wen E)) (hc : ClosedT X E) (hs : StepsIn X) (h13 : X.last < 13) {r v : List Int} (h : Wd.Der (X.ls.map Lay.plain) r v) : ∀ {p q : Nat}, p ≤ X.last → Wlk X v p q → Pth (X.wen E) r p q := by
  induction h with
  | nil => intro p q _ hw; cases hw; rfl
  | term s r w h100 _ ih =>
    intro p q hp hw
    cases hw with
    | cons hst hw => exact ⟨_, .inl ⟨h100, hst⟩, ih (hs _ _ _ hp hst) hw⟩
  | non pr r v w hpr h100 _ _ ih1 ih2 =>
    intro p q hp hw
    obtain ⟨m, h1, h2⟩ := hw.split
    obtain ⟨l, hl, rfl⟩ := List.mem_map.1 hpr
    have hpth := ih1 hp h1
    have hb := hc p hp l hl m ((rowT_bit hk l.right (by omega) m).2 hpth)
    exact ⟨m, .inr ⟨by show ¬ l.left < 100; have : (100 : Int) ≤ l.left := h100; omega, hb⟩, ih2 (h1.le hs hp) h2⟩
/-- Where words lead is told. -/
theorem leads_of {X : Trk} {E : List Nat} (hk : TrkOk (X.wen E)) (hc : ClosedT X E) (hs : StepsIn X) (h13 : X.last < 13) {v : List Int} (h : Wd.Der (X.ls.map Lay.plain) [100] v) (hw : Wlk X v 0 X.last) : (E.getD 0 0).testBit X.last = true := by
  obtain ⟨m, hsy, rfl⟩ := pth_of hk hc hs h13 h (Nat.zero_le _) hw
  rcases hsy with ⟨h1, _⟩ | ⟨_, h2⟩
  · omega
  · exact h2
end Go.Proofs.YtejjdfmobiegdaaDoor

set_option linter.unusedVariables false
namespace Go.Proofs.YtejjdfmobiegdaaDoor
open Doc

/-- No end lies ahead of its place. -/
def Asc (E : List Nat) : Prop := ∀ A p q, p < 13 → (E.getD (A * 13 + p) 0).testBit q = true → p ≤ q
theorem Stp.asc {X : Trk} {p q : Nat} {t : Int} (h : Stp X p t q) : p ≤ q := by
  rcases h with ⟨rfl, _⟩ | ⟨rfl, _⟩ <;> omega
theorem Sy.asc {X : Trk} (h : Asc X.en) {s : Int} {p q : Nat} (hp : p < 13) (k : Sy X s p q) : p ≤ q := by
  rcases k with ⟨_, k⟩ | ⟨_, k⟩
  · exact k.asc
  · exact h _ _ _ hp k
theorem Sy.lt {X : Trk} (hk : TrkOk X) {s : Int} {p q : Nat} (hp : p < 13) (k : Sy X s p q) : q < 13 := by
  rcases k with ⟨_, ⟨rfl, k⟩ | ⟨rfl, k⟩⟩ | ⟨_, k⟩
  · have := bit_lt (n := 12) (getD_lt hk.st (by omega) _) k; omega
  · exact hp
  · exact bit_lt (n := 13) (getD_lt hk.en (by omega) _) k
theorem pth_asc {X : Trk} (hk : TrkOk X) (h : Asc X.en) : ∀ {r : List Int} {p q : Nat}, p < 13 → Pth X r p q → p ≤ q
  | [], p, q, _, k => by cases k; exact Nat.le_refl _
  | s :: r, p, q, hp, ⟨m, h1, h2⟩ => Nat.le_trans (h1.asc h hp) (pth_asc hk h (h1.lt hk hp) h2)
theorem asc_set {X : Trk} {E : List Nat} {at_ : Nat} (h : Asc E) {B v : Nat} (hat : at_ < 13) (hv : ∀ q, v.testBit q = true → at_ ≤ q) : Asc (E.set (B * 13 + at_) v) := fun A p q hp hb => by
  rw [getD_set] at hb
  split at hb
  · rename_i he
    have := hv q hb
    omega
  · exact h A p q hp hb
theorem asc_gs {X : Trk} {E : List Nat} {at_ : Nat} (hk : TrkOk (X.wen E)) (h : Asc E) (hat : at_ < 13) (p : Lay) : Asc (gsT X at_ E p) := by
  unfold gsT
  refine asc_set (X := X) h hat fun q hq => ?_
  rw [Nat.testBit_or, Bool.or_eq_true] at hq
  rcases hq with hq | hq
  · exact h _ _ _ hat hq
  · exact pth_asc hk h hat ((rowT_bit hk _ hat q).1 hq)
theorem asc_grow {X : Trk} (hk : TrkOk X) {at_ : Nat} (hat : at_ < 13) : ∀ (l : List Lay) {E : List Nat}, (∀ x ∈ E, x < 8192) → Asc E → Asc (growE X at_ l E)
  | [], E, _, h => h
  | p :: l, E, hE, h => asc_grow hk hat l (gsT_lt hk hat hE p) (asc_gs (hk.wen hE) h hat p)
theorem asc_zero {at_ : Nat} (X : Trk) (hat : at_ < 13) {F : List Nat} (h : Asc F) : ∀ n, Asc (zeroN at_ n F)
  | 0 => h
  | n + 1 => asc_set (X := X) (asc_zero X hat h n) hat fun q hq => by simp at hq
theorem asc_iter {X : Trk} (hk : TrkOk X) {at_ : Nat} (hat : at_ < 13) {F : List Nat} (hF : ∀ x ∈ F, x < 8192) (h : Asc F) : ∀ n, Asc (iterL (growE X at_ X.ls) F n)
  | 0 => h
  | n + 1 => asc_grow hk hat _ (iterE_lt hk hat hF n) (asc_iter hk hat hF h n)

/-- Two tables are one, from a place on. -/
def SameC (m : Nat) (E G : List Nat) : Prop := ∀ A p, m ≤ p → p < 13 → E.getD (A * 13 + p) 0 = G.getD (A * 13 + p) 0
theorem same_set {m at_ : Nat} (hat : at_ < m) (hat13 : at_ < 13) {E : List Nat} (B v : Nat) : SameC m (E.set (B * 13 + at_) v) E := fun A p hp hp13 => by
  rw [getD_set]
  split
  · omega
  · rfl
theorem SameC.trans {m : Nat} {E G H : List Nat} (h : SameC m E G) (k : SameC m G H) : SameC m E H := fun A p h1 h2 => (h A p h1 h2).trans (k A p h1 h2)
theorem SameC.symm {m : Nat} {E G : List Nat} (h : SameC m E G) : SameC m G E := fun A p h1 h2 => (h A p h1 h2).symm
theorem same_grow {X : Trk} {m at_ : Nat} (hat : at_ < m) (h13 : at_ < 13) : ∀ (l : List Lay) (E : List Nat), SameC m (growE X at_ l E) E
  | [], E => fun _ _ _ _ => rfl
  | p :: l, E => (same_grow hat h13 l _).trans (same_set hat h13 _ _)
theorem same_zero {m at_ : Nat} (hat : at_ < m) (h13 : at_ < 13) (F : List Nat) : ∀ n, SameC m (zeroN at_ n F) F
  | 0 => fun _ _ _ _ => rfl
  | n + 1 => (same_set hat h13 _ _).trans (same_zero hat h13 F n)
theorem same_iter {X : Trk} {m at_ : Nat} (hat : at_ < m) (h13 : at_ < 13) (F : List Nat) : ∀ n, SameC m (iterL (growE X at_ X.ls) F n) F
  | 0 => fun _ _ _ _ => rfl
  | n + 1 => (same_grow hat h13 _ _).trans (same_iter hat h13 F n)
theorem sy_same {X : Trk} {E G : List Nat} {m : Nat} (h : SameC m E G) {s : Int} {p q : Nat} (hm : m ≤ p) (hp : p < 13) (k : Sy (X.wen E) s p q) : Sy (X.wen G) s p q := by
  rcases k with k | ⟨k1, k2⟩
  · exact .inl k
  · refine .inr ⟨k1, ?_⟩
    have k2 : (E.getD ((s - 100).toNat * 13 + p) 0).testBit q = true := k2
    rw [h _ _ hm hp] at k2
    exact k2
theorem pth_same {X : Trk} {E G : List Nat} {m : Nat} (hk : TrkOk (X.wen E)) (ha : Asc E) (h : SameC m E G) : ∀ {r : List Int} {p q : Nat}, m ≤ p → p < 13 → Pth (X.wen E) r p q → Pth (X.wen G) r p q
  | [], _, _, _, _, k => k
  | s :: r, p, q, hm, hp, ⟨x, h1, h2⟩ => ⟨x, sy_same h hm hp h1, pth_same hk ha h (Nat.le_trans hm (Sy.asc (X := X.wen E) ha hp h1)) (h1.lt hk hp) h2⟩

theorem grow_fixT {X : Trk} {at_ : Nat} : ∀ (l : List Lay) {E : List Nat}, growE X at_ l E = E → ∀ p ∈ l, gsT X at_ E p = E
  | p :: l, E, h, q, hq => by
    have h1 : growE X at_ l (gsT X at_ E p) = E := h
    have h2 : gsT X at_ E p = E := SubF.anti (gsT_len X at_ E p) (by have := growE_ext X at_ l (gsT X at_ E p); rwa [h1] at this) (gsT_ext X at_ E p)
    rw [h2] at h1
    rcases List.mem_cons.1 hq with rfl | hq
    · exact h2
    · exact grow_fixT l h1 q hq
/-- One place's productions' words are told. -/
def ClosedC (X : Trk) (E : List Nat) (c : Nat) : Prop := ∀ p ∈ X.ls, Sub (rowT (X.wen E) p.right c) (E.getD ((p.left - 100).toNat * 13 + c) 0)
theorem closed_fix {X : Trk} {E : List Nat} {at_ : Nat} (hl : LaysOk X) (h104 : E.length = 104) (hat : at_ < 13) (h : growE X at_ X.ls E = E) : ClosedC X E at_ := fun p hp => by
  have h1 := grow_fixT _ h p hp
  have h2 : (gsT X at_ E p).getD ((p.left - 100).toNat * 13 + at_) 0 = E.getD ((p.left - 100).toNat * 13 + at_) 0 := by rw [h1]
  have hb := (hl p hp).1
  unfold gsT at h2
  rw [getD_set, if_pos ⟨rfl, by omega⟩] at h2
  rw [← h2]
  exact sub_or_right _ _
theorem closed_same {X : Trk} {E G : List Nat} {c : Nat} (hE : TrkOk (X.wen E)) (hG : TrkOk (X.wen G)) (aE : Asc E) (hc : c < 13) (h : SameC c E G) (k : ClosedC X G c) : ClosedC X E c := fun p hp q hq => by
  have h1 := (rowT_bit hE _ hc q).1 hq
  have h2 := pth_same hE aE h (Nat.le_refl _) hc h1
  have h3 := k p hp q ((rowT_bit hG _ hc q).2 h2)
  rwa [← h _ _ (Nat.le_refl _) hc] at h3
theorem set_closed {X : Trk} (hk : TrkOk X) (hl : LaysOk X) (h13 : X.last < 13) : ∀ (m : Nat) {F E : List Nat}, m ≤ X.last + 1 → F.length = 104 → (∀ x ∈ F, x < 8192) → Asc F → (∀ c, m ≤ c → c ≤ X.last → ClosedC X F c) → SetT X m F E → ClosedT X E
  | 0, F, E, _, _, _, _, hc, h => by cases h; exact fun at_ ha => hc at_ (Nat.zero_le _) ha
  | m + 1, F, E, hm, hF, hF2, haF, hc, ⟨G, ⟨n, hG, hfix⟩, hS⟩ => by
    have hm13 : m < 13 := by omega
    have hZ := zeroN_lt m hF2 8
    have hG2 : ∀ x ∈ G, x < 8192 := by rw [hG]; exact iterE_lt hk hm13 hZ n
    have haG : Asc G := by rw [hG]; exact asc_iter hk hm13 hZ (asc_zero X hm13 haF 8) n
    have hG104 : G.length = 104 := by rw [hG, iterE_len, zeroN_len]; exact hF
    refine set_closed hk hl h13 m (by omega) hG104 hG2 haG (fun c h1 h2 => ?_) hS
    by_cases hcm : c = m
    · subst hcm
      exact closed_fix hl hG104 hm13 hfix
    · have hs : SameC c G F := by
        rw [hG]
        exact (same_iter (by omega) hm13 _ n).trans (same_zero (by omega) hm13 F 8)
      exact closed_same (hk.wen hG2) (hk.wen hF2) haG (by omega) hs (hc c (by omega) h2)
theorem zeros_asc : Asc (List.replicate 104 0) := fun A p q _ h => by
  rw [List.getD_eq_getElem?_getD, List.getElem?_replicate] at h
  split at h <;> simp at h
end Go.Proofs.YtejjdfmobiegdaaDoor
