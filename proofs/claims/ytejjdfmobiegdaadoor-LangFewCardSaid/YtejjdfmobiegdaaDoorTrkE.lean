/- lang: what comes of the start is told by Has, what begins such a word by Begins. lang: what a track tells is so. lang: a track of which first steps are fixed, in plain terms. -/
import Derived.Test.YtejjdfmobiegdaaDoorTrkC
import Derived.Test.YtejjdfmobiegdaaDoorTrkN
import Derived.Test.YtejjdfmobiegdaaDoorTrkB
import Derived.Test.YtejjdfmobiegdaaDoorAllS
set_option linter.unusedVariables false
namespace Go.Proofs.YtejjdfmobiegdaaDoor
open Doc

theorem wd_fru {g : Gr} {r u : List Int} (h : Wd.Der g.prods r u) : ∀ s ∈ r, 100 ≤ s → Fru g s := by
  induction h with
  | nil => intro s hs; cases hs
  | term a r w ha _ ih =>
    intro s hs h100
    rcases List.mem_cons.1 hs with rfl | hs
    · omega
    · exact ih s hs h100
  | non p r v w hp _ _ _ ih1 ih2 =>
    intro s hs h100
    rcases List.mem_cons.1 hs with rfl | hs
    · exact Fru.mk p hp ih1
    · exact ih2 s hs h100
/-- The rows that bear words derive all that the grammar derives. -/
theorem der_pick {g : Gr} {ps : List (Int × List Int)} (hps : ∀ p ∈ g.prods, Usable g p → p ∈ ps) {r u : List Int} (h : Wd.Der g.prods r u) : Wd.Der ps r u := by
  induction h with
  | nil => exact .nil
  | term a r w ha _ ih => exact .term a r w ha ih
  | non p r v w hp h100 hd _ ih1 ih2 => exact .non p r v w (hps p hp (wd_fru hd)) h100 ih1 ih2
theorem pick_has {g : Gr} (hck : CheckG g) {F : Nat} {l : List Int} {er : Int} {ls : List Lay} (hF : SetIs F (Fru g)) (hT : TrimOf g F l er) (h1 : Fru g 100) (hp : ls.map Lay.plain = g.prods) : ∀ p ∈ g.prods, Usable g p → p ∈ (pickL ls l).map Lay.plain := by
  intro p hpm hu
  rcases hT with ⟨_, _, rfl⟩ | ⟨h2, _, _⟩
  · obtain ⟨j, hj⟩ := List.mem_iff_getElem?.1 hpm
    rw [pickL_plain, hp, List.mem_filterMap]
    exact ⟨((0 + j : Nat) : Int), (trimF_mem F g.prods 0 _).2 ⟨j, p, hj, (usable_bear (nums_of_check hck) hF hpm).2 hu, rfl⟩, by rw [Int.toNat_natCast, Nat.zero_add]; exact hj⟩
  · have := (hF.has 100).2 ⟨by omega, by omega, h1⟩
    rw [show (100 : Int) - 100 = 0 by omega, h2] at this
    cases this

/-! ### A word's own steps -/
theorem stT_bit (u : List Int) (hu : ∀ s ∈ u, 1 ≤ s ∧ s < 9) : ∀ k, k ≤ u.length → ∀ t p : Nat, ((stT u k).getD t 0).testBit p = true ↔ (p < k ∧ u[p]? = some (t : Int))
  | 0, _, t, p => by
    rw [stT, List.getD_eq_getElem?_getD, List.getElem?_replicate]
    constructor
    · intro h; split at h <;> simp at h
    · rintro ⟨h, _⟩; omega
  | k + 1, hk, t, p => by
    obtain ⟨s, hs⟩ : ∃ s, u[k]? = some s := ⟨_, List.getElem?_eq_getElem (by omega)⟩
    have h19 := hu s (List.mem_of_getElem? hs)
    obtain ⟨x, rfl⟩ := Int.eq_ofNat_of_zero_le (show 0 ≤ s by omega)
    have e : (u.getD k 0).toNat = x := by rw [List.getD_eq_getElem?_getD, hs]; rfl
    have ih := stT_bit u hu k (by omega)
    show (((stT u k).set (u.getD k 0).toNat ((stT u k).getD (u.getD k 0).toNat 0 ||| 2 ^ k)).getD t 0).testBit p = true ↔ _
    rw [e, getD_set, stT_len]
    by_cases hxt : x = t
    · subst hxt
      rw [if_pos ⟨rfl, by omega⟩, Nat.testBit_or, Bool.or_eq_true, ih, Nat.testBit_two_pow, decide_eq_true_eq]
      constructor
      · rintro (⟨h1, h2⟩ | rfl)
        · exact ⟨by omega, h2⟩
        · exact ⟨by omega, hs⟩
      · rintro ⟨h1, h2⟩
        by_cases hpk : k = p
        · exact .inr hpk
        · exact .inl ⟨by omega, h2⟩
    · rw [if_neg (by omega), ih]
      constructor
      · rintro ⟨h1, h2⟩; exact ⟨by omega, h2⟩
      · rintro ⟨h1, h2⟩
        by_cases hpk : p = k
        · subst hpk
          rw [hs] at h2
          have := Option.some.inj h2
          omega
        · exact ⟨by omega, h2⟩
/-- A word leads along its own places. -/
theorem wlk_own {X : Trk} {u : List Int} (hu : ∀ s ∈ u, 1 ≤ s ∧ s < 9) (hX : X.st = stT u u.length) : ∀ (v : List Int) (p : Nat), u.drop p = v → p ≤ u.length → Wlk X v p u.length
  | [], p, h, hp => by
    have : p = u.length := by have := congrArg List.length h; rw [List.length_drop] at this; simp at this; omega
    subst this; exact .nil _
  | t :: v, p, h, hp => by
    have hpl : p < u.length := by have := congrArg List.length h; rw [List.length_drop] at this; simp at this; omega
    have ht : u[p]? = some t := by have := congrArg (·[0]?) h; simpa using this
    have hd : u.drop (p + 1) = v := by rw [← List.drop_drop, h]; rfl
    have h19 := hu t (List.mem_of_getElem? ht)
    obtain ⟨x, rfl⟩ := Int.eq_ofNat_of_zero_le (show 0 ≤ t by omega)
    refine .cons (.inl ⟨rfl, ?_⟩) (wlk_own hu hX v (p + 1) hd (by omega))
    rw [hX, Int.toNat_natCast]
    exact (stT_bit u hu _ (Nat.le_refl _) x p).2 ⟨hpl, ht⟩
/-- What lies behind a word stays at the last place. -/
theorem wlk_stay {X : Trk} {n : Nat} (hy : X.stays = 2 ^ n) : ∀ v : List Int, Wlk X v n n
  | [] => .nil _
  | t :: v => .cons (.inr ⟨rfl, by rw [hy, Nat.testBit_two_pow]; simp⟩) (wlk_stay hy v)
theorem steps_in {X : Trk} {u : List Int} (hu : ∀ s ∈ u, 1 ≤ s ∧ s < 9) (hX : X.st = stT u u.length) (hl : X.last = u.length) (h9 : X.st.length = 9) : StepsIn X := by
  rintro p t q hp (⟨rfl, h⟩ | ⟨rfl, _⟩)
  · rw [hX] at h
    have := ((stT_bit u hu _ (Nat.le_refl _) _ p).1 h).1
    omega
  · exact hp
theorem lays_ok {g : Gr} (hck : CheckG g) {ls : List Lay} {l : List Int} (hp : ls.map Lay.plain = g.prods) : ∀ p ∈ pickL ls l, (100 ≤ p.left ∧ p.left < 108) ∧ (∀ s ∈ p.right, (1 ≤ s ∧ s < 9) ∨ (100 ≤ s ∧ s < 108)) ∧ p.right.length ≤ 1000000 := fun p hpm => by
  have hpp : p.plain ∈ g.prods := by
    rw [← hp]
    obtain ⟨q, _, hq⟩ := List.mem_filterMap.1 hpm
    exact List.mem_map_of_mem (List.mem_of_getElem? hq)
  have hv := hck.pv _ hpp
  have h8 := hck.n8
  have t8 := hck.t8
  have hle : p.plain.2.length ≤ 6 := hv.2.1
  refine ⟨⟨hv.1.1, by have := hv.1.2; show p.plain.1 < 108; omega⟩, fun s hs => ?_, by show p.plain.2.length ≤ _; omega⟩
  have hs' := hv.2.2 s hs
  unfold symOk at hs'
  omega
/-- Where a word of the start leads, its track tells. -/
theorem track_tells {g : Gr} (hck : CheckG g) {F : Nat} {l : List Int} {er : Int} {ls : List Lay} (hF : SetIs F (Fru g)) (hT : TrimOf g F l er) (hp : ls.map Lay.plain = g.prods) {a : Option Addr} {c t y : Nat} {u v : List Int} (hu : ∀ s ∈ u, 1 ≤ s ∧ s < 9) (hul : u.length ≤ 12) (hy : y < 8192) {E : List Nat}
    (hS : SetT (wordT a c (pickL ls l) t (stT u u.length) u.length y) (u.length + 1) (List.replicate 104 0) E) (hE : ∀ x ∈ E, x < 8192) (hd : Wd.Der g.prods [100] v) (hw : Wlk (wordT a c (pickL ls l) t (stT u u.length) u.length y) v 0 u.length) : (E.getD 0 0).testBit u.length = true := by
  have h1 : Fru g 100 := wd_fru hd 100 (by simp) (by omega)
  have hk : TrkOk (wordT a c (pickL ls l) t (stT u u.length) u.length y) := ⟨stT_lt u _ hul, hy, fun x hx => by rw [show (wordT a c (pickL ls l) t (stT u u.length) u.length y).en = List.replicate 104 0 from rfl, List.mem_replicate] at hx; omega⟩
  have hin : StepsIn (wordT a c (pickL ls l) t (stT u u.length) u.length y) := steps_in hu rfl rfl (stT_len u _)
  have h13 : (wordT a c (pickL ls l) t (stT u u.length) u.length y).last < 13 := by show u.length < 13; omega
  have hc := set_closed hk (fun p hp' => lays_ok hck hp p hp') h13 (u.length + 1) (Nat.le_refl _) (by simp) (fun x hx => by rw [List.mem_replicate] at hx; omega) zeros_asc (fun c' h1 h2 => by
    have h2 : c' ≤ u.length := h2
    omega) hS
  exact leads_of (hk.wen hE) hc hin h13 (der_pick (pick_has hck hF hT h1 hp) hd) hw
end Go.Proofs.YtejjdfmobiegdaaDoor

set_option linter.unusedVariables false
namespace Go.Proofs.YtejjdfmobiegdaaDoor
open Doc

/-- All ends that a track tells are led to by words. -/
def SoundE (X : Trk) (E : List Nat) : Prop := ∀ A p q, p < 13 → (E.getD (A * 13 + p) 0).testBit q = true → ∃ v, Wd.Der (X.ls.map Lay.plain) [100 + (A : Int)] v ∧ Wlk X v p q
theorem der_two {ps : List (Int × List Int)} {s : Int} {r v w : List Int} (h : Wd.Der ps [s] v) (k : Wd.Der ps r w) : Wd.Der ps (s :: r) (v ++ w) := by
  generalize hq : [s] = q at h
  cases h with
  | nil => cases hq
  | term a r' w' ha h' =>
    cases hq
    cases h'
    exact .term s r w ha k
  | non p r' v' w' hp h100 hd h' =>
    cases hq
    cases h'
    rw [List.append_nil]
    exact .non p r v' w hp h100 hd k
theorem pth_sound {X : Trk} {E : List Nat} (hk : TrkOk (X.wen E)) (h : SoundE X E) : ∀ {r : List Int} {p q : Nat}, p < 13 → Pth (X.wen E) r p q → ∃ v, Wd.Der (X.ls.map Lay.plain) r v ∧ Wlk X v p q
  | [], p, q, _, k => by cases k; exact ⟨[], .nil, .nil _⟩
  | s :: r, p, q, hp, ⟨m, h1, h2⟩ => by
    obtain ⟨w, hw1, hw2⟩ := pth_sound hk h (h1.lt hk hp) h2
    rcases h1 with ⟨hs, hst⟩ | ⟨hs, hb⟩
    · exact ⟨s :: w, .term s r w hs hw1, .cons hst hw2⟩
    · obtain ⟨v, hv1, hv2⟩ := h _ _ _ hp hb
      rw [show (100 : Int) + ((s - 100).toNat : Int) = s by omega] at hv1
      exact ⟨v ++ w, der_two hv1 hw1, hv2.app hw2⟩
theorem sound_set {X : Trk} {E : List Nat} {at_ : Nat} (h : SoundE X E) {B x : Nat} (hat : at_ < 13) (hv : ∀ q, x.testBit q = true → ∃ v, Wd.Der (X.ls.map Lay.plain) [100 + (B : Int)] v ∧ Wlk X v at_ q) : SoundE X (E.set (B * 13 + at_) x) := fun A p q hp hb => by
  rw [getD_set] at hb
  split at hb
  · rename_i he
    obtain ⟨rfl, rfl⟩ : B = A ∧ at_ = p := by omega
    exact hv q hb
  · exact h A p q hp hb
theorem sound_gs {X : Trk} {E : List Nat} {at_ : Nat} (hk : TrkOk (X.wen E)) (hl : LaysOk X) (h : SoundE X E) (hat : at_ < 13) {p : Lay} (hp : p ∈ X.ls) : SoundE X (gsT X at_ E p) := by
  refine sound_set h hat fun q hq => ?_
  rw [Nat.testBit_or, Bool.or_eq_true] at hq
  have hb := (hl p hp).1
  rcases hq with hq | hq
  · exact h _ _ _ hat hq
  · obtain ⟨v, h1, h2⟩ := pth_sound hk h hat ((rowT_bit hk _ hat q).1 hq)
    refine ⟨v, ?_, h2⟩
    rw [show (100 : Int) + ((p.left - 100).toNat : Int) = p.plain.1 by show _ = p.left; omega]
    have := Wd.Der.non p.plain [] v [] (List.mem_map_of_mem hp) (by show 100 ≤ p.left; omega) h1 .nil
    rwa [List.append_nil] at this
theorem sound_grow {X : Trk} (hk : TrkOk X) (hl : LaysOk X) {at_ : Nat} (hat : at_ < 13) : ∀ (l : List Lay) {E : List Nat}, (∀ p ∈ l, p ∈ X.ls) → (∀ x ∈ E, x < 8192) → SoundE X E → SoundE X (growE X at_ l E)
  | [], E, _, _, h => h
  | p :: l, E, hs, hE, h => sound_grow hk hl hat l (fun q hq => hs q (List.mem_cons_of_mem _ hq)) (gsT_lt hk hat hE p) (sound_gs (hk.wen hE) hl h hat (hs p List.mem_cons_self))
theorem sound_zero {X : Trk} {at_ : Nat} (hat : at_ < 13) {F : List Nat} (h : SoundE X F) : ∀ n, SoundE X (zeroN at_ n F)
  | 0 => h
  | n + 1 => sound_set (sound_zero hat h n) hat fun q hq => by simp at hq
theorem sound_iter {X : Trk} (hk : TrkOk X) (hl : LaysOk X) {at_ : Nat} (hat : at_ < 13) {F : List Nat} (hF : ∀ x ∈ F, x < 8192) (h : SoundE X F) : ∀ n, SoundE X (iterL (growE X at_ X.ls) F n)
  | 0 => h
  | n + 1 => sound_grow hk hl hat _ (fun _ hp => hp) (iterE_lt hk hat hF n) (sound_iter hk hl hat hF h n)
theorem set_sound {X : Trk} (hk : TrkOk X) (hl : LaysOk X) : ∀ (m : Nat) {F E : List Nat}, m ≤ 13 → (∀ x ∈ F, x < 8192) → SoundE X F → SetT X m F E → SoundE X E
  | 0, F, E, _, _, h, hS => by cases hS; exact h
  | m + 1, F, E, hm, hF, h, ⟨G, ⟨n, hG, _⟩, hS⟩ => by
    have hZ := zeroN_lt m hF 8
    refine set_sound hk hl m (by omega) ?_ ?_ hS
    · rw [hG]; exact iterE_lt hk (by omega) hZ n
    · rw [hG]; exact sound_iter hk hl (by omega) hZ (sound_zero (by omega) h 8) n
theorem zeros_sound (X : Trk) : SoundE X (List.replicate 104 0) := fun A p q _ h => by
  rw [List.getD_eq_getElem?_getD, List.getElem?_replicate] at h
  split at h <;> simp at h
theorem der_mono {ps qs : List (Int × List Int)} (hs : ∀ p ∈ ps, p ∈ qs) {r u : List Int} (h : Wd.Der ps r u) : Wd.Der qs r u := by
  induction h with
  | nil => exact .nil
  | term a r w ha _ ih => exact .term a r w ha ih
  | non p r v w hp h100 _ _ ih1 ih2 => exact .non p r v w (hs p hp) h100 ih1 ih2
theorem step_own {X : Trk} {u : List Int} (hu : ∀ s ∈ u, 1 ≤ s ∧ s < 9) (hX : X.st = stT u u.length) {p q : Nat} {t : Int} (h : Stp X p t q) : (q = p + 1 ∧ u[p]? = some t) ∨ (q = p ∧ X.stays.testBit p = true) := by
  rcases h with ⟨h1, h2⟩ | h
  · left
    rw [hX] at h2
    have h3 := ((stT_bit u hu _ (Nat.le_refl _) _ p).1 h2).2
    have := hu _ (List.mem_of_getElem? h3)
    exact ⟨h1, by rw [h3]; congr 1; omega⟩
  · exact .inr h
/-- Only a word's own places lead behind it, where nothing stays. -/
theorem wlk_only {X : Trk} {u : List Int} (hu : ∀ s ∈ u, 1 ≤ s ∧ s < 9) (hX : X.st = stT u u.length) (hy : X.stays = 0) : ∀ {v : List Int} {p : Nat}, p ≤ u.length → Wlk X v p u.length → v = u.drop p
  | [], p, _, h => by cases h; simp
  | t :: v, p, hp, h => by
    cases h with
    | cons hs h =>
      rcases step_own hu hX hs with ⟨rfl, h1⟩ | ⟨_, h1⟩
      · have hpl : p < u.length := (List.getElem?_eq_some_iff.1 h1).1
        rw [wlk_only hu hX hy (by omega) h, ← List.getElem_cons_drop hpl]
        congr 1
        have := (List.getElem?_eq_some_iff.1 h1).2
        exact this.symm
      · rw [hy] at h1; simp at h1
/-- Where the last place stays: what leads to it begins with the word. -/
theorem wlk_begins {X : Trk} {u : List Int} (hu : ∀ s ∈ u, 1 ≤ s ∧ s < 9) (hX : X.st = stT u u.length) (hy : X.stays = 2 ^ u.length) : ∀ {v : List Int} {p : Nat}, p ≤ u.length → Wlk X v p u.length → ∃ z, v = u.drop p ++ z
  | [], p, _, h => by cases h; exact ⟨[], by simp⟩
  | t :: v, p, hp, h => by
    cases h with
    | cons hs h =>
      rcases step_own hu hX hs with ⟨rfl, h1⟩ | ⟨_, h1⟩
      · have hpl : p < u.length := (List.getElem?_eq_some_iff.1 h1).1
        obtain ⟨z, hz⟩ := wlk_begins hu hX hy (by omega) h
        refine ⟨z, ?_⟩
        rw [hz, ← List.getElem_cons_drop hpl, List.cons_append]
        congr 1
        exact (List.getElem?_eq_some_iff.1 h1).2.symm
      · rw [hy, Nat.testBit_two_pow] at h1
        have := of_decide_eq_true h1
        subst this
        exact ⟨t :: v, by simp⟩
/-- What a track tells of the start is so. -/
theorem track_sound {g : Gr} (hck : CheckG g) {l : List Int} {ls : List Lay} (hp : ls.map Lay.plain = g.prods) {a : Option Addr} {c t y : Nat} {u : List Int} (hu : ∀ s ∈ u, 1 ≤ s ∧ s < 9) (hul : u.length ≤ 12) (hy : y < 8192) {E : List Nat}
    (hS : SetT (wordT a c (pickL ls l) t (stT u u.length) u.length y) (u.length + 1) (List.replicate 104 0) E) (hb : (E.getD 0 0).testBit u.length = true) : ∃ v, Wd.Der g.prods [100] v ∧ Wlk (wordT a c (pickL ls l) t (stT u u.length) u.length y) v 0 u.length := by
  have hk : TrkOk (wordT a c (pickL ls l) t (stT u u.length) u.length y) := ⟨stT_lt u _ hul, hy, fun x hx => by rw [show (wordT a c (pickL ls l) t (stT u u.length) u.length y).en = List.replicate 104 0 from rfl, List.mem_replicate] at hx; omega⟩
  obtain ⟨v, h1, h2⟩ := set_sound hk (fun p hp' => lays_ok hck hp p hp') (u.length + 1) (by omega) (fun x hx => by rw [List.mem_replicate] at hx; omega) (zeros_sound _) hS 0 0 u.length (by omega) hb
  refine ⟨v, der_mono (fun p hp' => ?_) h1, h2⟩
  obtain ⟨q, hq, rfl⟩ := List.mem_map.1 hp'
  obtain ⟨k, _, hk⟩ := List.mem_filterMap.1 hq
  rw [← hp]; exact List.mem_map_of_mem (List.mem_of_getElem? hk)
end Go.Proofs.YtejjdfmobiegdaaDoor

set_option linter.unusedVariables false
namespace Go.Proofs.YtejjdfmobiegdaaDoor
open Doc

/-! ### What ends tell from a place on -/
/-- From this place on all ends that are told are led to by words. -/
def SoundG (X : Trk) (m : Nat) (E : List Nat) : Prop := ∀ A p q, m ≤ p → p < 13 → (E.getD (A * 13 + p) 0).testBit q = true → ∃ v, Wd.Der (X.ls.map Lay.plain) [100 + (A : Int)] v ∧ Wlk X v p q
theorem pthG {X : Trk} {E : List Nat} {m : Nat} (hk : TrkOk (X.wen E)) (ha : Asc E) (h : SoundG X m E) : ∀ {r : List Int} {p q : Nat}, m ≤ p → p < 13 → Pth (X.wen E) r p q → ∃ v, Wd.Der (X.ls.map Lay.plain) r v ∧ Wlk X v p q
  | [], p, q, _, _, k => by cases k; exact ⟨[], .nil, .nil _⟩
  | s :: r, p, q, hm, hp, ⟨x, h1, h2⟩ => by
    obtain ⟨w, hw1, hw2⟩ := pthG hk ha h (Nat.le_trans hm (Sy.asc (X := X.wen E) ha hp h1)) (h1.lt hk hp) h2
    rcases h1 with ⟨hs, hst⟩ | ⟨hs, hb⟩
    · exact ⟨s :: w, .term s r w hs hw1, .cons hst hw2⟩
    · obtain ⟨v, hv1, hv2⟩ := h _ _ _ hm hp hb
      rw [show (100 : Int) + ((s - 100).toNat : Int) = s by omega] at hv1
      exact ⟨v ++ w, der_two hv1 hw1, hv2.app hw2⟩
theorem soundG_set {X : Trk} {E : List Nat} {m at_ : Nat} (h : SoundG X m E) {B x : Nat} (hat : at_ < 13) (hv : ∀ q, x.testBit q = true → ∃ v, Wd.Der (X.ls.map Lay.plain) [100 + (B : Int)] v ∧ Wlk X v at_ q) : SoundG X m (E.set (B * 13 + at_) x) := fun A p q hm hp hb => by
  rw [getD_set] at hb
  split at hb
  · rename_i he
    obtain ⟨rfl, rfl⟩ : B = A ∧ at_ = p := by omega
    exact hv q hb
  · exact h A p q hm hp hb
theorem soundG_gs {X : Trk} {E : List Nat} {m at_ : Nat} (hk : TrkOk (X.wen E)) (ha : Asc E) (hl : LaysOk X) (h : SoundG X m E) (hm : m ≤ at_) (hat : at_ < 13) {p : Lay} (hp : p ∈ X.ls) : SoundG X m (gsT X at_ E p) := by
  refine soundG_set h hat fun q hq => ?_
  rw [Nat.testBit_or, Bool.or_eq_true] at hq
  have hb := (hl p hp).1
  rcases hq with hq | hq
  · exact h _ _ _ hm hat hq
  · obtain ⟨v, h1, h2⟩ := pthG hk ha h hm hat ((rowT_bit hk _ hat q).1 hq)
    refine ⟨v, ?_, h2⟩
    rw [show (100 : Int) + ((p.left - 100).toNat : Int) = p.plain.1 by show _ = p.left; omega]
    have := Wd.Der.non p.plain [] v [] (List.mem_map_of_mem hp) (by show 100 ≤ p.left; omega) h1 .nil
    rwa [List.append_nil] at this
theorem soundG_grow {X : Trk} (hk : TrkOk X) (hl : LaysOk X) {m at_ : Nat} (hm : m ≤ at_) (hat : at_ < 13) : ∀ (l : List Lay) {E : List Nat}, (∀ p ∈ l, p ∈ X.ls) → (∀ x ∈ E, x < 8192) → Asc E → SoundG X m E → SoundG X m (growE X at_ l E)
  | [], E, _, _, _, h => h
  | p :: l, E, hs, hE, ha, h => soundG_grow hk hl hm hat l (fun q hq => hs q (List.mem_cons_of_mem _ hq)) (gsT_lt hk hat hE p) (asc_gs (hk.wen hE) ha hat p) (soundG_gs (hk.wen hE) ha hl h hm hat (hs p List.mem_cons_self))
theorem zeroN_at {at_ : Nat} (F : List Nat) : ∀ n A, A < n → (zeroN at_ n F).getD (A * 13 + at_) 0 = 0
  | 0, A, h => by omega
  | n + 1, A, h => by
    unfold zeroN
    rw [getD_set]
    split
    · rfl
    · rename_i hne
      by_cases hA : A = n
      · subst hA
        rw [List.getD_eq_getElem?_getD, List.getElem?_eq_none (by omega)]; rfl
      · exact zeroN_at F n A (by omega)
theorem zeroN_far {at_ : Nat} {F : List Nat} (h104 : F.length = 104) (A : Nat) : (zeroN at_ 8 F).getD (A * 13 + at_) 0 = 0 := by
  by_cases hA : A < 8
  · exact zeroN_at F 8 A hA
  · rw [List.getD_eq_getElem?_getD, List.getElem?_eq_none (by rw [zeroN_len]; omega)]; rfl
/-- One place more is sound where it was cleared. -/
theorem soundG_zero {X : Trk} {m : Nat} (hm : m < 13) {F : List Nat} (h104 : F.length = 104) (h : SoundG X (m + 1) F) : SoundG X m (zeroN m 8 F) := fun A p q hp hp13 hb => by
  by_cases hpm : p = m
  · subst hpm
    rw [zeroN_far h104] at hb
    simp at hb
  · rw [same_zero (m := m + 1) (by omega) hm F 8 A p (by omega) hp13] at hb
    exact h A p q (by omega) hp13 hb
theorem soundG_iter {X : Trk} (hk : TrkOk X) (hl : LaysOk X) {m at_ : Nat} (hm : m ≤ at_) (hat : at_ < 13) {F : List Nat} (hF : ∀ x ∈ F, x < 8192) (ha : Asc F) (h : SoundG X m F) : ∀ n, SoundG X m (iterL (growE X at_ X.ls) F n)
  | 0 => h
  | n + 1 => soundG_grow hk hl hm hat _ (fun _ hp => hp) (iterE_lt hk hat hF n) (asc_iter hk hat hF ha n) (soundG_iter hk hl hm hat hF ha h n)
/-- What a settled track is: closed, sound, and no end ahead of its place. -/
structure TrkFull (X : Trk) (E : List Nat) : Prop where
  len : E.length = 104
  lt : ∀ x ∈ E, x < 8192
  asc : Asc E
  closed : ∀ c, c ≤ X.last → ClosedC X E c
  sound : SoundG X 0 E
theorem set_full {X : Trk} (hk : TrkOk X) (hl : LaysOk X) (h13 : X.last < 13) : ∀ (m : Nat) {F E : List Nat}, m ≤ X.last + 1 → F.length = 104 → (∀ x ∈ F, x < 8192) → Asc F → (∀ c, m ≤ c → c ≤ X.last → ClosedC X F c) → SoundG X m F → SetT X m F E → TrkFull X E
  | 0, F, E, _, h104, hF, ha, hc, hs, h => by cases h; exact ⟨h104, hF, ha, fun c => hc c (Nat.zero_le _), hs⟩
  | m + 1, F, E, hm, hF, hF2, haF, hc, hs, ⟨G, ⟨n, hG, hfix⟩, hS⟩ => by
    have hm13 : m < 13 := by omega
    have hZ := zeroN_lt m hF2 8
    have haZ := asc_zero X hm13 haF 8
    have hG2 : ∀ x ∈ G, x < 8192 := by rw [hG]; exact iterE_lt hk hm13 hZ n
    have haG : Asc G := by rw [hG]; exact asc_iter hk hm13 hZ haZ n
    have hG104 : G.length = 104 := by rw [hG, iterE_len, zeroN_len]; exact hF
    have hsG : SoundG X m G := by rw [hG]; exact soundG_iter hk hl (Nat.le_refl _) hm13 hZ haZ (soundG_zero hm13 hF hs) n
    refine set_full hk hl h13 m (by omega) hG104 hG2 haG (fun c h1 h2 => ?_) hsG hS
    by_cases hcm : c = m
    · subst hcm
      exact closed_fix hl hG104 hm13 hfix
    · have hs : SameC c G F := by
        rw [hG]
        exact (same_iter (by omega) hm13 _ n).trans (same_zero (by omega) hm13 F 8)
      exact closed_same (hk.wen hG2) (hk.wen hF2) haG (by omega) hs (hc c (by omega) h2)

/-! ### Steps changed ahead of a place -/
/-- Two tracks are alike from a place on. -/
structure AlikeT (X Y : Trk) (m : Nat) : Prop where
  ls : X.ls = Y.ls
  last : X.last = Y.last
  step : ∀ p t q, m ≤ p → (Stp X p t q ↔ Stp Y p t q)
theorem AlikeT.symm {X Y : Trk} {m : Nat} (h : AlikeT X Y m) : AlikeT Y X m := ⟨h.ls.symm, h.last.symm, fun p t q hp => (h.step p t q hp).symm⟩
theorem AlikeT.wlk {X Y : Trk} {m : Nat} (h : AlikeT X Y m) {v : List Int} {p q : Nat} (k : Wlk X v p q) : m ≤ p → Wlk Y v p q := by
  induction k with
  | nil p => intro _; exact .nil p
  | cons hst _ ih => intro hm; exact .cons ((h.step _ _ _ hm).1 hst) (ih (Nat.le_trans hm hst.asc))
theorem AlikeT.sy {X Y : Trk} {m : Nat} (h : AlikeT X Y m) {E : List Nat} {s : Int} {p q : Nat} (hm : m ≤ p) (k : Sy (X.wen E) s p q) : Sy (Y.wen E) s p q := by
  rcases k with ⟨h1, h2⟩ | k
  · exact .inl ⟨h1, (h.step p s q hm).1 h2⟩
  · exact .inr k
theorem AlikeT.pth {X Y : Trk} {m : Nat} (h : AlikeT X Y m) {E : List Nat} (hk : TrkOk (X.wen E)) (ha : Asc E) : ∀ {r : List Int} {p q : Nat}, m ≤ p → p < 13 → Pth (X.wen E) r p q → Pth (Y.wen E) r p q
  | [], _, _, _, _, k => k
  | s :: r, p, q, hm, hp, ⟨x, h1, h2⟩ => ⟨x, h.sy hm h1, h.pth hk ha (Nat.le_trans hm (Sy.asc (X := X.wen E) ha hp h1)) (h1.lt hk hp) h2⟩
theorem AlikeT.closed {X Y : Trk} {m : Nat} (h : AlikeT X Y m) {E : List Nat} (hX : TrkOk (X.wen E)) (hY : TrkOk (Y.wen E)) (ha : Asc E) {c : Nat} (hm : m ≤ c) (hc : c < 13) (k : ClosedC X E c) : ClosedC Y E c := fun p hp q hq => by
  rw [← h.ls] at hp
  exact k p hp q ((rowT_bit hX _ hc q).2 (h.symm.pth hY ha hm hc ((rowT_bit hY _ hc q).1 hq)))
theorem AlikeT.sound {X Y : Trk} {m : Nat} (h : AlikeT X Y m) {E : List Nat} (k : SoundG X 0 E) : SoundG Y m E := fun A p q hm hp hb => by
  obtain ⟨v, h1, h2⟩ := k A p q (Nat.zero_le _) hp hb
  exact ⟨v, by rw [← h.ls]; exact h1, h.wlk h2 hm⟩

/-! ### The steps of all words of a length that begin so -/
structure StFix (X : Trk) (t n : Nat) (b : List Int) : Prop where
  s9 : X.st.length = 9
  bit : ∀ x p : Nat, (X.st.getD x 0).testBit p = true ↔ (1 ≤ x ∧ x ≤ t ∧ p < n ∧ ∀ s, b[p]? = some s → s = (x : Int))
  stays : X.stays = 0
  last : X.last = n
  terms : X.terms = t
theorem StFix.stp {X : Trk} {t n : Nat} {b : List Int} (h : StFix X t n b) (p : Nat) (s : Int) (q : Nat) : Stp X p s q ↔ (q = p + 1 ∧ p < n ∧ 1 ≤ s ∧ s ≤ (t : Int) ∧ ∀ c, b[p]? = some c → c = s) := by
  unfold Stp
  rw [h.stays, h.bit]
  constructor
  · rintro (⟨rfl, h1, h2, h3, h4⟩ | ⟨_, h1⟩)
    · refine ⟨rfl, h3, by omega, by omega, fun c hc => ?_⟩
      have := h4 c hc
      omega
    · simp at h1
  · rintro ⟨rfl, h1, h2, h3, h4⟩
    refine .inl ⟨rfl, by omega, by omega, h1, fun c hc => ?_⟩
    have := h4 c hc
    omega
theorem StFix.wlk {X : Trk} {t n : Nat} {b : List Int} (h : StFix X t n b) : ∀ {v : List Int} {p : Nat}, p ≤ n → (Wlk X v p n ↔ (p + v.length = n ∧ (∀ s ∈ v, 1 ≤ s ∧ s ≤ (t : Int)) ∧ ∀ j c s, b[p + j]? = some c → v[j]? = some s → c = s))
  | [], p, hp => by
    constructor
    · intro k; cases k; exact ⟨rfl, (fun s hs => by cases hs), fun j c s _ hs => by simp at hs⟩
    · rintro ⟨h1, _⟩
      obtain rfl : p = n := by simpa using h1
      exact .nil p
  | s :: v, p, hp => by
    constructor
    · intro k
      cases k with
      | cons hst k =>
        obtain ⟨rfl, h1, h2, h3, h4⟩ := (h.stp p s _).1 hst
        obtain ⟨k1, k2, k3⟩ := (h.wlk (by omega)).1 k
        refine ⟨by simp only [List.length_cons]; omega, fun x hx => ?_, fun j c x hc hx => ?_⟩
        · rcases List.mem_cons.1 hx with rfl | hx
          · exact ⟨h2, h3⟩
          · exact k2 x hx
        · cases j with
          | zero =>
            rw [List.getElem?_cons_zero] at hx
            cases hx
            exact h4 c hc
          | succ j =>
            rw [List.getElem?_cons_succ] at hx
            exact k3 j c x (by rw [← hc]; congr 1; omega) hx
    · rintro ⟨k1, k2, k3⟩
      simp only [List.length_cons] at k1
      refine .cons (m := p + 1) ((h.stp p s _).2 ⟨rfl, by omega, (k2 s List.mem_cons_self).1, (k2 s List.mem_cons_self).2, fun c hc => k3 0 c s (by simpa using hc) rfl⟩) ((h.wlk (by omega)).2 ⟨by omega, fun x hx => k2 x (List.mem_cons_of_mem _ hx), fun j c x hc hx => k3 (j + 1) c x (by rw [← hc]; congr 1; omega) (by rw [List.getElem?_cons_succ]; exact hx)⟩)
theorem StFix.words {X : Trk} {t n : Nat} {b v : List Int} (h : StFix X t n b) (hb : b.length ≤ n) (hbs : ∀ s ∈ b, 1 ≤ s ∧ s ≤ (t : Int)) : Wlk X v 0 n ↔ v ∈ Al.tl t (n - b.length) b := by
  rw [h.wlk (Nat.zero_le _), Al.tl_mem]
  constructor
  · rintro ⟨h1, h2, h3⟩
    have hv : v.take b.length = b := by
      apply List.ext_getElem?
      intro j
      rw [List.getElem?_take]
      by_cases hj : j < b.length
      · rw [if_pos hj]
        have e1 : v[j]? = some (v[j]'(by omega)) := List.getElem?_eq_getElem _
        have e2 : b[j]? = some b[j] := List.getElem?_eq_getElem _
        rw [e1, e2]
        exact congrArg some (h3 j _ _ (by rw [Nat.zero_add]; exact e2) e1).symm
      · rw [if_neg hj, List.getElem?_eq_none (by omega)]
    refine ⟨v.drop b.length, ?_, by rw [List.length_drop]; omega, fun s hs => h2 s (List.mem_of_mem_drop hs)⟩
    conv => lhs; rw [← List.take_append_drop b.length v, hv]
  · rintro ⟨z, rfl, h1, h2⟩
    refine ⟨by rw [List.length_append]; omega, fun s hs => ?_, fun j c s hc hs => ?_⟩
    · rcases List.mem_append.1 hs with hs | hs
      · exact hbs s hs
      · exact h2 s hs
    · rw [Nat.zero_add] at hc
      rw [List.getElem?_append_left (List.getElem?_eq_some_iff.1 hc).1, hc] at hs
      exact Option.some.inj hs
theorem StFix.ok {X : Trk} {t n : Nat} {b : List Int} (h : StFix X t n b) (hn : n ≤ 12) : ∀ x ∈ X.st, x < 4096 := fun x hx => by
  obtain ⟨j, hj⟩ := List.mem_iff_getElem?.1 hx
  refine bits_lt (n := 12) fun q hq => ?_
  have e : X.st.getD j 0 = x := by rw [List.getD_eq_getElem?_getD, hj]; rfl
  have := (h.bit j q).1 (by rw [e]; exact hq)
  omega
theorem StFix.alike {X Y : Trk} {t n : Nat} {b : List Int} {s : Int} (h : StFix X t n b) (k : StFix Y t n (b ++ [s])) (hl : X.ls = Y.ls) : AlikeT X Y (b.length + 1) :=
  ⟨hl, by rw [h.last, k.last], fun p x q hp => by
    rw [h.stp, k.stp]
    have e1 : b[p]? = none := List.getElem?_eq_none (by omega)
    have e2 : (b ++ [s])[p]? = none := List.getElem?_eq_none (by simp; omega)
    rw [e1, e2]⟩
/-- What a track is whose first steps are fixed. -/
structure TrkB (X : Trk) (E : List Nat) (t n : Nat) (b : List Int) : Prop where
  st : StFix X t n b
  full : TrkFull X E
theorem TrkB.ok {X : Trk} {E : List Nat} {t n : Nat} {b : List Int} (h : TrkB X E t n b) (hn : n ≤ 12) : TrkOk (X.wen E) := ⟨h.st.ok hn, by show X.stays < 8192; rw [h.st.stays]; omega, h.full.lt⟩
theorem StFix.trkOk {X : Trk} {t n : Nat} {b : List Int} (h : StFix X t n b) (hn : n ≤ 12) (he : ∀ x ∈ X.en, x < 8192) : TrkOk X := ⟨h.ok hn, by rw [h.stays]; omega, he⟩
/-- It leads to the last place just if there is a word. -/
theorem TrkB.leads {X : Trk} {E : List Nat} {t n : Nat} {b : List Int} (h : TrkB X E t n b) (hn : n ≤ 12) (hb : b.length ≤ n) (hbs : ∀ s ∈ b, 1 ≤ s ∧ s ≤ (t : Int)) : (E.getD 0 0).testBit X.last = true ↔ ∃ v ∈ Al.tl t (n - b.length) b, Wd.Der (X.ls.map Lay.plain) [100] v := by
  have hin : StepsIn X := fun p s q hp hst => by
    have := (h.st.stp p s q).1 hst
    rw [h.st.last]; omega
  constructor
  · intro hbit
    obtain ⟨v, h1, h2⟩ := h.full.sound 0 0 X.last (Nat.le_refl _) (by omega) hbit
    rw [h.st.last] at h2
    exact ⟨v, (h.st.words hb hbs).1 h2, by simpa using h1⟩
  · rintro ⟨v, hv, hd⟩
    have hw := (h.st.words hb hbs).2 hv
    rw [← h.st.last] at hw
    exact leads_of (h.ok hn) (fun c hc => h.full.closed c hc) hin (by rw [h.st.last]; omega) hd hw
/-- A step more is fixed, and what is ahead of it is settled anew. -/
theorem TrkB.fix {X Y : Trk} {E E' : List Nat} {t n : Nat} {b : List Int} {s : Int} (h : TrkB X E t n b) (hn : n ≤ 12) (hb : b.length < n) (k : StFix Y t n (b ++ [s])) (hY : ∀ x ∈ Y.en, x < 8192) (hl : X.ls = Y.ls) (hlo : LaysOk Y) (hS : SetT Y (b.length + 1) E E') : TrkB Y E' t n (b ++ [s]) := by
  have hA := h.st.alike k hl
  have hkY := k.trkOk hn hY
  refine ⟨k, set_full hkY hlo (by rw [k.last]; omega) (b.length + 1) (by rw [k.last]; omega) h.full.len h.full.lt h.full.asc (fun c h1 h2 => ?_) (hA.sound h.full.sound) hS⟩
  have h2' : c ≤ X.last := by rw [hA.last]; exact h2
  exact hA.closed (h.ok hn) (hkY.wen h.full.lt) h.full.asc h1 (by rw [h.st.last] at h2'; omega) (h.full.closed c h2')
/-- A track that was settled whole. -/
theorem trkB_free {X : Trk} {E : List Nat} {t n : Nat} (k : StFix X t n []) (hn : n ≤ 12) (hX : ∀ x ∈ X.en, x < 8192) (hlo : LaysOk X) (hS : SetT X (n + 1) (List.replicate 104 0) E) : TrkB X E t n [] := by
  refine ⟨k, set_full (k.trkOk hn hX) hlo (by rw [k.last]; omega) (n + 1) (by rw [k.last]; omega) (by simp) (fun x hx => by rw [List.mem_replicate] at hx; omega) zeros_asc (fun c h1 h2 => by rw [k.last] at h2; omega) (fun A p q _ hp hb => ?_) hS⟩
  exact zeros_sound X A p q hp hb
end Go.Proofs.YtejjdfmobiegdaaDoor
