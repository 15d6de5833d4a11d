/- What a symbol can derive of a form, by parts of the form: plain words. No program here. -/
import Derived.Test.YtgfkkbpnphbdgaaWordD
set_option linter.unusedVariables false
namespace Go.Proofs.Ytgfkkbpnphbdgaa.Sp
open Doc

/-- A form comes of a row of symbols (any symbol may be a leaf). -/
inductive DerF (ps : List (Int × List Int)) : List Int → List Int → Prop where
  | nil : DerF ps [] []
  | leaf (s : Int) (r w : List Int) : DerF ps r w → DerF ps (s :: r) (s :: w)
  | non (p : Int × List Int) (r v w : List Int) : p ∈ ps → DerF ps p.2 v → DerF ps r w → DerF ps (p.1 :: r) (v ++ w)

variable {ps : List (Int × List Int)}
theorem DerF.one {x : Int} {u : List Int} : DerF ps [x] u ↔ u = [x] ∨ ∃ p ∈ ps, p.1 = x ∧ DerF ps p.2 u := by
  constructor
  · intro h
    generalize hr : [x] = q at h
    cases h with
    | nil => cases hr
    | leaf s r w h' => cases hr; cases h'; exact .inl rfl
    | non p r v w hp h1 h2 => cases hr; cases h2; exact .inr ⟨p, hp, rfl, by rw [List.append_nil]; exact h1⟩
  · rintro (rfl | ⟨p, hp, rfl, h⟩)
    · exact .leaf x [] [] .nil
    · have := DerF.non p [] u [] hp h .nil
      rwa [List.append_nil] at this
theorem DerF.join {x : Int} {r u v : List Int} (h1 : DerF ps [x] u) (h2 : DerF ps r v) : DerF ps (x :: r) (u ++ v) := by
  rcases DerF.one.1 h1 with rfl | ⟨p, hp, rfl, h⟩
  · exact .leaf x r v h2
  · exact .non p r u v hp h h2
theorem DerF.append {r r' u v : List Int} (h1 : DerF ps r u) (h2 : DerF ps r' v) : DerF ps (r ++ r') (u ++ v) := by
  induction h1 with
  | nil => exact h2
  | leaf s r w _ ih => exact .leaf s _ _ ih
  | non p r v' w hp h _ _ ih => rw [List.append_assoc]; exact .non p _ _ _ hp h ih
theorem DerF.refl : ∀ r : List Int, DerF ps r r
  | [] => .nil
  | s :: r => .leaf s r r (DerF.refl r)
/-! ### Parts of a form -/
def seg (w : List Int) (i j : Nat) : List Int := (w.drop i).take (j - i)
theorem seg_self (w : List Int) (i : Nat) : seg w i i = [] := by simp [seg]
theorem seg_join (w : List Int) {i j k : Nat} (h1 : i ≤ j) (h2 : j ≤ k) : seg w i j ++ seg w j k = seg w i k := by
  unfold seg
  have : w.drop j = (w.drop i).drop (j - i) := by rw [List.drop_drop]; congr 1; omega
  rw [this]
  have e : k - i = (j - i) + (k - j) := by omega
  rw [e, List.take_add]
theorem seg_one {w : List Int} {i : Nat} {x : Int} (h : w[i]? = some x) : seg w i (i + 1) = [x] := by
  unfold seg
  obtain ⟨h1, h2⟩ := List.getElem?_eq_some_iff.1 h
  rw [List.drop_eq_getElem_cons h1, h2, show i + 1 - i = 1 by omega]
  rfl
theorem seg_len (w : List Int) {i j : Nat} (h1 : i ≤ j) (h2 : j ≤ w.length) : (seg w i j).length = j - i := by simp [seg]; omega
theorem seg_cons {w : List Int} {i j : Nat} {s : Int} {u : List Int} (h1 : i ≤ j) (h2 : j ≤ w.length) (h : seg w i j = s :: u) : i + 1 ≤ j ∧ w[i]? = some s ∧ seg w (i + 1) j = u := by
  have hl := seg_len w h1 h2
  rw [h] at hl
  simp only [List.length_cons] at hl
  have hi : i < w.length := by omega
  have e := seg_join w (show i ≤ i + 1 by omega) (show i + 1 ≤ j by omega)
  rw [seg_one (List.getElem?_eq_getElem hi), h] at e
  simp only [List.cons_append, List.nil_append] at e
  injection e with e1 e2
  exact ⟨by omega, by rw [List.getElem?_eq_getElem hi, e1], e2⟩
theorem seg_split {w : List Int} {i j : Nat} {u v : List Int} (h1 : i ≤ j) (h2 : j ≤ w.length) (h : seg w i j = u ++ v) : i + u.length ≤ j ∧ seg w i (i + u.length) = u ∧ seg w (i + u.length) j = v := by
  have hl := seg_len w h1 h2
  rw [h, List.length_append] at hl
  have hk : i + u.length ≤ j := by omega
  have e := seg_join w (show i ≤ i + u.length by omega) hk
  rw [h] at e
  obtain ⟨e1, e2⟩ := List.append_inj e (by rw [seg_len w (by omega) (by omega)]; omega)
  exact ⟨hk, e1, e2⟩

/-! ### Where rows of symbols may end -/
abbrev Key := Int × Nat × Nat
def canP (w : List Int) (H : Key → Prop) (x : Int) (i j : Nat) : Prop := (j = i + 1 ∧ w[i]? = some x) ∨ H (x, i, j)
def stepE (C : Int → Nat → Nat → Prop) (n : Nat) (E : Nat → Prop) (x : Int) : Nat → Prop := fun k => k ≤ n ∧ ∃ j, j ≤ k ∧ E j ∧ C x j k
def runE (C : Int → Nat → Nat → Prop) (n : Nat) (r : List Int) (E : Nat → Prop) : Nat → Prop := r.foldl (stepE C n) E
theorem runE_snoc {C : Int → Nat → Nat → Prop} {n : Nat} {r : List Int} {m : Nat} {x : Int} (h : r[m]? = some x) (E : Nat → Prop) : runE C n (r.take (m + 1)) E = stepE C n (runE C n (r.take m) E) x := by
  unfold runE; rw [List.take_add_one, h]; simp
theorem runE_cons (C : Int → Nat → Nat → Prop) (n : Nat) (x : Int) (r : List Int) (E : Nat → Prop) : runE C n (x :: r) E = runE C n r (stepE C n E x) := rfl
theorem runE_mono (C : Int → Nat → Nat → Prop) (n : Nat) : ∀ (r : List Int) {E E' : Nat → Prop}, (∀ k, E k → E' k) → ∀ k, runE C n r E k → runE C n r E' k
  | [], _, _, h, k, hk => h k hk
  | x :: r, E, E', h, k, hk => runE_mono C n r (fun j ⟨hj, i, h1, h2, h3⟩ => ⟨hj, i, h1, h i h2, h3⟩) k hk
theorem runE_ge (C : Int → Nat → Nat → Prop) (n i : Nat) : ∀ (r : List Int) {E : Nat → Prop}, (∀ k, E k → i ≤ k ∧ k ≤ n) → ∀ k, runE C n r E k → i ≤ k ∧ k ≤ n
  | [], _, h, k, hk => h k hk
  | x :: r, E, h, k, hk => runE_ge C n i r (fun j ⟨hj, a, h1, h2, h3⟩ => ⟨Nat.le_trans (h a h2).1 h1, hj⟩) k hk

/-- All that is had is right. -/
def Sound (ps : List (Int × List Int)) (w : List Int) (H : Key → Prop) : Prop := ∀ x i j, H (x, i, j) → i ≤ j ∧ j ≤ w.length ∧ ∃ p ∈ ps, p.1 = x ∧ DerF ps p.2 (seg w i j)
def ClosedP (w : List Int) (H : Key → Prop) (p : Int × List Int) : Prop := ∀ i, i ≤ w.length → ∀ j, runE (canP w H) w.length p.2 (· = i) j → H (p.1, i, j)
theorem can_sound {w : List Int} {H : Key → Prop} (h : Sound ps w H) {x : Int} {i j : Nat} (hc : canP w H x i j) : DerF ps [x] (seg w i j) := by
  rcases hc with ⟨rfl, hx⟩ | hc
  · rw [seg_one hx]; exact DerF.refl _
  · obtain ⟨_, _, p, hp, e, hd⟩ := h x i j hc
    exact DerF.one.2 (.inr ⟨p, hp, e, hd⟩)
theorem run_sound {w : List Int} {H : Key → Prop} (h : Sound ps w H) : ∀ (r : List Int) (E : Nat → Prop) (k : Nat), runE (canP w H) w.length r E k → ∃ i, E i ∧ i ≤ k ∧ DerF ps r (seg w i k)
  | [], E, k, hk => ⟨k, hk, Nat.le_refl _, by rw [seg_self]; exact .nil⟩
  | x :: r, E, k, hk => by
    obtain ⟨j, ⟨hj, i, h1, h2, h3⟩, h4, h5⟩ := run_sound h r _ k hk
    exact ⟨i, h2, by omega, by rw [← seg_join w h1 h4]; exact (can_sound h h3).join h5⟩
theorem run_full {w : List Int} {H : Key → Prop} (hc : ∀ p ∈ ps, ClosedP w H p) {r u : List Int} (hd : DerF ps r u) : ∀ i j, i ≤ j → j ≤ w.length → seg w i j = u → runE (canP w H) w.length r (· = i) j := by
  induction hd with
  | nil =>
    intro i j h1 h2 h3
    have := seg_len w h1 h2
    rw [h3] at this
    simp only [List.length_nil] at this
    show j = i
    omega
  | leaf s r u _ ih =>
    intro i j h1 h2 h3
    obtain ⟨h4, h5, h6⟩ := seg_cons h1 h2 h3
    rw [runE_cons]
    refine runE_mono _ _ r (fun k hk => ?_) j (ih (i + 1) j h4 h2 h6)
    subst hk
    exact ⟨by omega, i, by omega, rfl, .inl ⟨rfl, h5⟩⟩
  | non p r v u hp _ _ ih1 ih2 =>
    intro i j h1 h2 h3
    obtain ⟨h4, h5, h6⟩ := seg_split h1 h2 h3
    rw [runE_cons]
    refine runE_mono _ _ r (fun k hk => ?_) j (ih2 (i + v.length) j h4 h2 h6)
    subst hk
    exact ⟨by omega, i, by omega, rfl, .inr (hc p hp i (by omega) _ (ih1 i _ (by omega) (by omega) h5))⟩

/-- What the spans of a form are. -/
def SpanIs (ps : List (Int × List Int)) (w : List Int) (H : Key → Prop) : Prop := ∀ x i j, H (x, i, j) ↔ i ≤ j ∧ j ≤ w.length ∧ ∃ p ∈ ps, p.1 = x ∧ DerF ps p.2 (seg w i j)
theorem span_is {w : List Int} {H : Key → Prop} (h : Sound ps w H) (hc : ∀ p ∈ ps, ClosedP w H p) : SpanIs ps w H := fun x i j =>
  ⟨h x i j, fun ⟨h1, h2, p, hp, e, hd⟩ => e ▸ hc p hp i (by omega) j (run_full hc hd i j h1 h2 rfl)⟩
theorem SpanIs.can {w : List Int} {H : Key → Prop} (h : SpanIs ps w H) {x : Int} {i j : Nat} (h1 : i ≤ j) (h2 : j ≤ w.length) : canP w H x i j ↔ DerF ps [x] (seg w i j) := by
  rw [DerF.one]
  unfold canP
  rw [h x i j]
  constructor
  · rintro (⟨rfl, hx⟩ | ⟨_, _, h3⟩)
    · exact .inl (seg_one hx)
    · exact .inr h3
  · rintro (hx | h3)
    · obtain ⟨h4, h5, h6⟩ := seg_cons h1 h2 hx
      have := seg_len w h4 h2
      rw [h6] at this
      simp only [List.length_nil] at this
      exact .inl ⟨by omega, h5⟩
    · exact .inr ⟨h1, h2, h3⟩
theorem sound_none (w : List Int) : Sound ps w (fun _ => False) := fun _ _ _ h => h.elim
theorem sound_add {w : List Int} {H : Key → Prop} (h : Sound ps w H) {p : Int × List Int} (hp : p ∈ ps) {i j : Nat} {H0 : Key → Prop} (h0 : Sound ps w H0) (hi : i ≤ w.length) (hr : runE (canP w H0) w.length p.2 (· = i) j) : Sound ps w (fun q => q = (p.1, i, j) ∨ H q) := by
  rintro x a b (e | hH)
  · cases e
    obtain ⟨i', rfl, h1, h2⟩ := run_sound h0 _ _ _ hr
    have := runE_ge (canP w H0) w.length i' p.2 (fun k hk => by subst hk; exact ⟨Nat.le_refl _, hi⟩) j hr
    exact ⟨h1, this.2, p, hp, rfl, h2⟩
  · exact h x a b hH

/-! ### How many are not had yet -/
def allKeys (ps : List (Int × List Int)) (n : Nat) : List Key := ps.flatMap fun p => (List.range (n + 1)).flatMap fun i => (List.range (n + 1)).map fun j => (p.1, i, j)
theorem mem_allKeys {n : Nat} {p : Int × List Int} (hp : p ∈ ps) {i j : Nat} (hi : i ≤ n) (hj : j ≤ n) : (p.1, i, j) ∈ allKeys ps n := by
  unfold allKeys
  refine List.mem_flatMap.2 ⟨p, hp, List.mem_flatMap.2 ⟨i, by simp; omega, List.mem_map.2 ⟨j, by simp; omega, rfl⟩⟩⟩
open Classical in
noncomputable def left (U : List Key) (H : Key → Prop) : Nat := U.countP fun q => decide (¬ H q)
open Classical in
theorem left_lt {U : List Key} {H H' : Key → Prop} (hs : ∀ q, H q → H' q) {q : Key} (hq : q ∈ U) (h1 : ¬ H q) (h2 : H' q) : left U H' < left U H := by
  unfold left
  induction U with
  | nil => cases hq
  | cons a U ih =>
    have hle : ∀ V : List Key, V.countP (fun q => decide (¬ H' q)) ≤ V.countP (fun q => decide (¬ H q)) := fun V =>
      List.countP_mono_left fun x _ hx => by
        simp only [decide_eq_true_eq] at hx ⊢
        exact fun h => hx (hs x h)
    rw [List.countP_cons, List.countP_cons]
    by_cases e : a = q
    · subst e
      have := hle U
      simp only [h1, h2, not_true_eq_false, not_false_eq_true, decide_true, decide_false]
      simp only [if_true, Bool.false_eq_true, if_false]
      omega
    · have hm : q ∈ U := by
        rcases List.mem_cons.1 hq with h | h
        · exact absurd h.symm e
        · exact h
      have := ih hm
      by_cases ha : H a
      · have ha' := hs a ha
        simp [ha, ha']; simpa using this
      · by_cases ha' : H' a
        · simp [ha, ha']
          have : List.countP (fun q => !decide (H' q)) U < List.countP (fun q => !decide (H q)) U := by simpa using this
          omega
        · simp [ha, ha']; simpa using this
end Go.Proofs.Ytgfkkbpnphbdgaa.Sp
