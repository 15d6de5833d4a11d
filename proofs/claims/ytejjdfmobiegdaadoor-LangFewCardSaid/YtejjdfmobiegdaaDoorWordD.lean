/- The least words are the least of all that come of a nonterminal; what they cost. In plain words. No program here. -/
import Derived.Test.YtejjdfmobiegdaaDoorWordS
import Derived.Test.YtejjdfmobiegdaaDoorFloat
set_option linter.unusedVariables false
namespace Go.Proofs.YtejjdfmobiegdaaDoor.Wd
open Doc

/-- A word of terminals comes of a row of symbols. -/
inductive Der (ps : List (Int × List Int)) : List Int → List Int → Prop where
  | nil : Der ps [] []
  | term (s : Int) (r w : List Int) : s < 100 → Der ps r w → Der ps (s :: r) (s :: w)
  | non (p : Int × List Int) (r v w : List Int) : p ∈ ps → 100 ≤ p.1 → Der ps p.2 v → Der ps r w → Der ps (p.1 :: r) (v ++ w)

variable {ps : List (Int × List Int)}
theorem der_cons_term {s : Int} {r w : List Int} (hs : s < 100) (h : Der ps (s :: r) w) : ∃ w', w = s :: w' ∧ Der ps r w' := by
  generalize hr : s :: r = q at h
  cases h with
  | nil => cases hr
  | term s' r' w' _ h' => cases hr; exact ⟨w', rfl, h'⟩
  | non p r' v w' _ h1 _ _ => cases hr; omega
theorem der_cons_non {s : Int} {r w : List Int} (hs : 100 ≤ s) (h : Der ps (s :: r) w) : ∃ p v w', p ∈ ps ∧ p.1 = s ∧ Der ps p.2 v ∧ Der ps r w' ∧ w = v ++ w' := by
  generalize hr : s :: r = q at h
  cases h with
  | nil => cases hr
  | term s' r' w' h1 _ => cases hr; omega
  | non p r' v w' hp h1 h2 h3 => cases hr; exact ⟨p, v, w', hp, rfl, h2, h3, rfl⟩
theorem der_one {s : Int} {w : List Int} (hs : 100 ≤ s) : Der ps [s] w ↔ ∃ p ∈ ps, p.1 = s ∧ Der ps p.2 w := by
  constructor
  · intro h
    obtain ⟨p, v, w', hp, e, h1, h2, rfl⟩ := der_cons_non hs h
    cases h2
    exact ⟨p, hp, e, by rw [List.append_nil]; exact h1⟩
  · rintro ⟨p, hp, rfl, h⟩
    have := Der.non p [] w [] hp hs h .nil
    rwa [List.append_nil] at this
theorem der_join {s : Int} {r v w : List Int} (hs : 100 ≤ s) (h1 : Der ps [s] v) (h2 : Der ps r w) : Der ps (s :: r) (v ++ w) := by
  obtain ⟨p, hp, rfl, h⟩ := (der_one hs).1 h1
  exact .non p r v w hp hs h h2

theorem row_cons_term (L : Kn) {s : Int} (hs : s < 100) (r : List Int) : ∀ a, r.foldl (rowStep L) (some (s :: a)) = (r.foldl (rowStep L) (some a)).map (s :: ·) := by
  induction r with
  | nil => intro a; rfl
  | cons t r ih =>
    intro a
    rw [List.foldl_cons, List.foldl_cons]
    show List.foldl (rowStep L) (if t < 100 then some ((s :: a) ++ [t]) else match known L (t - 100).toNat with | none => none | some p => some ((s :: a) ++ p)) r = Option.map _ (List.foldl (rowStep L) (if t < 100 then some (a ++ [t]) else match known L (t - 100).toNat with | none => none | some p => some (a ++ p)) r)
    by_cases ht : t < 100
    · rw [if_pos ht, if_pos ht]; exact ih _
    · rw [if_neg ht, if_neg ht]
      cases known L (t - 100).toNat with
      | none => show List.foldl (rowStep L) none r = Option.map _ (List.foldl (rowStep L) none r); rw [row_none]; rfl
      | some p => exact ih _
theorem row_shift (L : Kn) (r : List Int) : ∀ a b : List Int, r.foldl (rowStep L) (some (a ++ b)) = (r.foldl (rowStep L) (some b)).map (a ++ ·) := by
  induction r with
  | nil => intro a b; rfl
  | cons t r ih =>
    intro a b
    rw [List.foldl_cons, List.foldl_cons]
    show List.foldl (rowStep L) (if t < 100 then some ((a ++ b) ++ [t]) else match known L (t - 100).toNat with | none => none | some p => some ((a ++ b) ++ p)) r = Option.map _ (List.foldl (rowStep L) (if t < 100 then some (b ++ [t]) else match known L (t - 100).toNat with | none => none | some p => some (b ++ p)) r)
    by_cases ht : t < 100
    · rw [if_pos ht, if_pos ht, List.append_assoc]; exact ih _ _
    · rw [if_neg ht, if_neg ht]
      cases known L (t - 100).toNat with
      | none => show List.foldl (rowStep L) none r = Option.map _ (List.foldl (rowStep L) none r); rw [row_none]; rfl
      | some p => show List.foldl (rowStep L) (some ((a ++ b) ++ p)) r = _; rw [List.append_assoc]; exact ih _ _
theorem rowW_nil (L : Kn) : rowW L [] = some [] := rfl
theorem rowW_term (L : Kn) {s : Int} (hs : s < 100) (r : List Int) : rowW L (s :: r) = (rowW L r).map (s :: ·) := by
  unfold rowW
  rw [List.foldl_cons, show rowStep L (some []) s = some ([s] ++ []) by show (if s < 100 then _ else _) = _; rw [if_pos hs]; rfl]
  exact row_shift L r [s] []
theorem rowW_non (L : Kn) {s : Int} (hs : 100 ≤ s) (r : List Int) : rowW L (s :: r) = (known L (s - 100).toNat).bind fun x => (rowW L r).map (x ++ ·) := by
  unfold rowW
  rw [List.foldl_cons, show rowStep L (some []) s = match known L (s - 100).toNat with | none => none | some p => some ([] ++ p) by show (if s < 100 then _ else _) = _; rw [if_neg (by omega)]; cases known L (s - 100).toNat <;> rfl]
  cases known L (s - 100).toNat with
  | none => exact row_none L r
  | some p =>
    have := row_shift L r p []
    rw [List.append_nil] at this
    exact this

/-- What is known is right. -/
def Inv (ps : List (Int × List Int)) (L : Kn) : Prop := ∀ k w, known L k = some w → Der ps [100 + (k : Int)] w ∧ ∀ v, Der ps [100 + (k : Int)] v → leI w v

theorem le_cons (s : Int) (w : List Int) : leI w (s :: w) := le_of_len (by simp)
theorem le_behind (v w : List Int) : leI w (v ++ w) := by
  cases v with
  | nil => exact le_refl w
  | cons x v => exact le_of_len (by simp; omega)
theorem le_ahead (v w : List Int) : leI v (v ++ w) := by
  cases w with
  | nil => rw [List.append_nil]; exact le_refl v
  | cons x w => exact le_of_len (by simp)

/-- Known words make words that come. -/
theorem row_der {L : Kn} (h : Inv ps L) : ∀ (r w : List Int), rowW L r = some w → Der ps r w
  | [], w, e => by rw [rowW_nil] at e; cases e; exact .nil
  | s :: r, w, e => by
    by_cases hs : s < 100
    · rw [rowW_term L hs] at e
      cases hr : rowW L r with
      | none => rw [hr] at e; cases e
      | some u => rw [hr] at e; cases e; exact .term s r u hs (row_der h r u hr)
    · rw [rowW_non L (by omega)] at e
      cases hk : known L (s - 100).toNat with
      | none => rw [hk] at e; cases e
      | some x =>
        rw [hk] at e
        cases hr : rowW L r with
        | none => rw [hr] at e; cases e
        | some u =>
          rw [hr] at e; cases e
          have h1 := (h _ _ hk).1
          rw [show (100 : Int) + ((s - 100).toNat : Int) = s by omega] at h1
          exact der_join (by omega) h1 (row_der h r u hr)

/-- Whatever comes of a row is not less than what is made of those known; or it holds a part that a production of one that is not known makes, or less. -/
theorem der_row {L : Kn} (h : Inv ps L) {r v : List Int} (hd : Der ps r v) : (∃ u, rowW L r = some u ∧ leI u v) ∨ (∃ p ∈ ps, known L (p.1 - 100).toNat = none ∧ ∃ u, rowW L p.2 = some u ∧ leI u v) := by
  induction hd with
  | nil => exact .inl ⟨[], rfl, le_refl _⟩
  | term s r w hs _ ih =>
    rcases ih with ⟨u, h1, h2⟩ | ⟨p, hp, hk, u, h1, h2⟩
    · exact .inl ⟨s :: u, by rw [rowW_term L hs, h1]; rfl, by have := le_append (le_refl [s]) h2; exact this⟩
    · exact .inr ⟨p, hp, hk, u, h1, le_trans h2 (le_cons s w)⟩
  | non p r v w hp h100 hd1 hd2 ih1 ih2 =>
    cases hk : known L (p.1 - 100).toNat with
    | some x =>
      have hx : leI x v := by
        refine (h _ _ hk).2 v ?_
        rw [show (100 : Int) + ((p.1 - 100).toNat : Int) = p.1 by omega]
        exact (der_one h100).2 ⟨p, hp, rfl, hd1⟩
      rcases ih2 with ⟨u, h1, h2⟩ | ⟨q, hq, hqk, u, h1, h2⟩
      · exact .inl ⟨x ++ u, by rw [rowW_non L h100, hk, h1]; rfl, le_append hx h2⟩
      · exact .inr ⟨q, hq, hqk, u, h1, le_trans h2 (le_behind v w)⟩
    | none =>
      rcases ih1 with ⟨u, h1, h2⟩ | ⟨q, hq, hqk, u, h1, h2⟩
      · exact .inr ⟨p, hp, hk, u, h1, le_trans h2 (le_ahead v w)⟩
      · exact .inr ⟨q, hq, hqk, u, h1, le_trans h2 (le_ahead v w)⟩
theorem der_unknown {L : Kn} (h : Inv ps L) {k : Nat} {v : List Int} (hk : known L k = none) (hd : Der ps [100 + (k : Int)] v) : ∃ p ∈ ps, known L (p.1 - 100).toNat = none ∧ ∃ u, rowW L p.2 = some u ∧ leI u v := by
  rcases der_row h hd with ⟨u, h1, _⟩ | h
  · rw [rowW_non L (by omega), show (100 + (k : Int) - 100).toNat = k by omega, hk] at h1
    cases h1
  · exact h
theorem inv_settle {L : Kn} (hl : LeftsIn ps L.length) (h : Inv ps L) : Inv ps (settleF ps L) := by
  unfold settleF
  cases hn : nextF ps L with
  | none => exact h
  | some kw =>
    obtain ⟨k, w⟩ := kw
    obtain ⟨⟨p, hp, e, hk, hw⟩, hmin⟩ := nextF_some hn
    have hi := next_in hl hn
    intro j u hj
    have hj : known (L.set k (some w)) j = some u := hj
    rw [known_set hi.1] at hj
    by_cases hjk : j = k
    · subst hjk
      rw [if_pos rfl] at hj
      cases hj
      have hp1 := hl p hp
      have e2 : p.1 = 100 + (j : Int) := by omega
      refine ⟨(der_one (by omega)).2 ⟨p, hp, e2, row_der h _ _ hw⟩, fun v hv => ?_⟩
      obtain ⟨q, hq, hqk, x, hx, hle⟩ := der_unknown h hk hv
      exact le_trans (hmin q hq hqk x hx) hle
    · rw [if_neg hjk] at hj
      exact h j u hj
theorem inv_iter {n : Nat} (hl : LeftsIn ps n) : ∀ k, Inv ps (iterW ps (none_ n) k)
  | 0 => fun j w h => by
    have h : known (none_ n) j = some w := h
    unfold known none_ at h
    rw [List.getElem?_replicate] at h
    split at h <;> simp at h
  | k + 1 => inv_settle (by rw [iterW_len]; simpa [none_] using hl) (inv_iter hl k)

/-- The least words: of each the least that comes, of one of which none comes none. -/
structure LeastIs (ps : List (Int × List Int)) (n : Nat) (L : Kn) : Prop where
  len : L.length = n
  inv : Inv ps L
  no : ∀ k, known L k = none → ∀ v, ¬ Der ps [100 + (k : Int)] v
theorem iter_end (ps : List (Int × List Int)) {n : Nat} (hl : LeftsIn ps n) : nextF ps (iterW ps (none_ n) n) = none := by
  by_cases h : ∀ j, j < n → nextF ps (iterW ps (none_ n) j) ≠ none
  · have hm := many_iter hl n h
    cases hn : nextF ps (iterW ps (none_ n) n) with
    | none => rfl
    | some kw =>
      obtain ⟨k, w⟩ := kw
      have hlen : (iterW ps (none_ n) n).length = n := by rw [iterW_len]; simp [none_]
      have hi := next_in (by rw [hlen]; exact hl) hn
      have := many_lt hi.1 hi.2
      rw [hm, hlen] at this
      omega
  · have : ∃ j, j < n ∧ nextF ps (iterW ps (none_ n) j) = none := by
      apply Classical.byContradiction
      intro hc
      exact h fun j hj hn => hc ⟨j, hj, hn⟩
    obtain ⟨j, hj, hn⟩ := this
    rw [iterW_stop hn n (by omega)]; exact hn
theorem least_is {g : Gr} (hl : LeftsIn g.prods g.nons.length) : LeastIs g.prods g.nons.length (leastF g) where
  len := by unfold leastF; rw [iterW_len]; simp [none_]
  inv := inv_iter hl _
  no := fun k hk v hd => by
    obtain ⟨p, hp, hpk, u, hu, _⟩ := der_unknown (inv_iter hl _) hk hd
    have := nextF_none (iter_end g.prods hl) p hp hpk
    rw [this] at hu; cases hu
theorem LeastIs.uniq {n : Nat} {L M : Kn} (h : LeastIs ps n L) (h' : LeastIs ps n M) : L = M := by
  apply List.ext_getElem?
  intro k
  by_cases hk : k < n
  · have e : known L k = known M k := by
      cases h1 : known L k with
      | none =>
        cases h2 : known M k with
        | none => rfl
        | some w => exact absurd (h'.inv k w h2).1 (h.no k h1 w)
      | some w =>
        cases h2 : known M k with
        | none => exact absurd (h.inv k w h1).1 (h'.no k h2 w)
        | some v => rw [antisymm ((h.inv k w h1).2 v (h'.inv k v h2).1) ((h'.inv k v h2).2 w (h.inv k w h1).1)]
    unfold known at e
    rw [List.getElem?_eq_getElem (by rw [h.len]; exact hk), List.getElem?_eq_getElem (by rw [h'.len]; exact hk)] at e ⊢
    exact congrArg some e
  · rw [List.getElem?_eq_none (by rw [h.len]; omega), List.getElem?_eq_none (by rw [h'.len]; omega)]

/-! ### What they cost -/
abbrev Co := List (Option Nat)
def co (C : Co) (k : Nat) : Option Nat := (C[k]?).join
def priceStep (C : Co) (a : Option Nat) (s : Int) : Option Nat :=
  match a with
  | none => none
  | some v => if s < 100 then some (v + 1) else match co C (s - 100).toNat with
    | none => none
    | some x => some (v + x)
def priceF (C : Co) (r : List Int) : Option Nat := r.foldl (priceStep C) (some 0)
/-- Less, of costs (none is endless). -/
def ltC : Option Nat → Option Nat → Bool
  | some v, some u => decide (v < u)
  | some _, none => true
  | none, _ => false
def fallStep (a : Co × Bool) (p : Int × List Int) : Co × Bool :=
  if ltC (priceF a.1 p.2) (co a.1 (p.1 - 100).toNat) = true then (a.1.set (p.1 - 100).toNat (priceF a.1 p.2), true) else a
def fallF (ps : List (Int × List Int)) (C : Co) : Co × Bool := ps.foldl fallStep (C, false)
theorem price_none (C : Co) : ∀ r : List Int, r.foldl (priceStep C) none = none
  | [] => rfl
  | _ :: r => price_none C r
theorem price_snoc {C : Co} {r : List Int} {j : Nat} {s : Int} (hs : r[j]? = some s) : priceF C (r.take (j + 1)) = priceStep C (priceF C (r.take j)) s := by
  unfold priceF; rw [List.take_add_one, hs]; simp
theorem price_shift (C : Co) (r : List Int) : ∀ a b : Nat, r.foldl (priceStep C) (some (a + b)) = (r.foldl (priceStep C) (some b)).map (a + ·) := by
  induction r with
  | nil => intro a b; rfl
  | cons t r ih =>
    intro a b
    rw [List.foldl_cons, List.foldl_cons]
    show List.foldl (priceStep C) (if t < 100 then some (a + b + 1) else match co C (t - 100).toNat with | none => none | some p => some (a + b + p)) r = Option.map _ (List.foldl (priceStep C) (if t < 100 then some (b + 1) else match co C (t - 100).toNat with | none => none | some p => some (b + p)) r)
    by_cases ht : t < 100
    · rw [if_pos ht, if_pos ht, Nat.add_assoc]; exact ih _ _
    · rw [if_neg ht, if_neg ht]
      cases co C (t - 100).toNat with
      | none => show List.foldl (priceStep C) none r = Option.map _ (List.foldl (priceStep C) none r); rw [price_none]; rfl
      | some p => show List.foldl (priceStep C) (some (a + b + p)) r = _; rw [Nat.add_assoc]; exact ih _ _
theorem price_term (C : Co) {s : Int} (hs : s < 100) (r : List Int) : priceF C (s :: r) = (priceF C r).map (1 + ·) := by
  unfold priceF
  rw [List.foldl_cons, show priceStep C (some 0) s = some (1 + 0) by show (if s < 100 then _ else _) = _; rw [if_pos hs]]
  exact price_shift C r 1 0
theorem price_non (C : Co) {s : Int} (hs : 100 ≤ s) (r : List Int) : priceF C (s :: r) = (co C (s - 100).toNat).bind fun x => (priceF C r).map (x + ·) := by
  unfold priceF
  rw [List.foldl_cons, show priceStep C (some 0) s = match co C (s - 100).toNat with | none => none | some p => some (0 + p) by show (if s < 100 then _ else _) = _; rw [if_neg (by omega)]]
  cases co C (s - 100).toNat with
  | none => exact price_none C r
  | some p =>
    show List.foldl (priceStep C) (some (0 + p)) r = _
    rw [Nat.add_comm 0 p]
    exact price_shift C r p 0
theorem co_set {C : Co} {k : Nat} {x : Option Nat} (hk : k < C.length) (j : Nat) : co (C.set k x) j = if j = k then x else co C j := by
  unfold co
  rw [List.getElem?_set]
  by_cases h : k = j
  · subst h; rw [if_pos rfl, if_pos hk, if_pos rfl]; rfl
  · rw [if_neg h, if_neg (Ne.symm h)]

/-- Each cost is a word's. -/
def Real (ps : List (Int × List Int)) (C : Co) : Prop := ∀ k v, co C k = some v → ∃ w, Der ps [100 + (k : Int)] w ∧ w.length = v
theorem price_der {C : Co} (h : Real ps C) : ∀ (r : List Int) (v : Nat), priceF C r = some v → ∃ w, Der ps r w ∧ w.length = v
  | [], v, e => by cases e; exact ⟨[], .nil, rfl⟩
  | s :: r, v, e => by
    by_cases hs : s < 100
    · rw [price_term C hs] at e
      cases hr : priceF C r with
      | none => rw [hr] at e; cases e
      | some u =>
        rw [hr] at e; cases e
        obtain ⟨w, hw, hl⟩ := price_der h r u hr
        exact ⟨s :: w, .term s r w hs hw, by simp; omega⟩
    · rw [price_non C (by omega)] at e
      cases hk : co C (s - 100).toNat with
      | none => rw [hk] at e; cases e
      | some x =>
        rw [hk] at e
        cases hr : priceF C r with
        | none => rw [hr] at e; cases e
        | some u =>
          rw [hr] at e; cases e
          obtain ⟨w, hw, hl⟩ := price_der h r u hr
          obtain ⟨w0, hw0, hl0⟩ := h _ _ hk
          rw [show (100 : Int) + ((s - 100).toNat : Int) = s by omega] at hw0
          exact ⟨w0 ++ w, der_join (by omega) hw0 hw, by simp; omega⟩
/-- No production is cheaper. -/
def Rest (ps : List (Int × List Int)) (C : Co) : Prop := ∀ p ∈ ps, ltC (priceF C p.2) (co C (p.1 - 100).toNat) = false
theorem der_price {C : Co} (h : Rest ps C) {r w : List Int} (hd : Der ps r w) : ∃ u, priceF C r = some u ∧ u ≤ w.length := by
  induction hd with
  | nil => exact ⟨0, rfl, Nat.le_refl _⟩
  | term s r w hs _ ih =>
    obtain ⟨u, h1, h2⟩ := ih
    exact ⟨1 + u, by rw [price_term C hs, h1]; rfl, by simp; omega⟩
  | non p r v w hp h100 _ _ ih1 ih2 =>
    obtain ⟨u1, h1, h2⟩ := ih1
    obtain ⟨u2, h3, h4⟩ := ih2
    have hr := h p hp
    rw [h1] at hr
    cases hk : co C (p.1 - 100).toNat with
    | none => rw [hk] at hr; cases hr
    | some x =>
      rw [hk] at hr
      have : ¬ u1 < x := by simpa [ltC] using hr
      exact ⟨x + u2, by rw [price_non C h100, hk, h3]; rfl, by simp; omega⟩
/-- They are the least words' lengths. -/
theorem cost_is {n : Nat} {L : Kn} {C : Co} (hL : LeastIs ps n L) (hr : Real ps C) (hs : Rest ps C) (hn : C.length = n) : C = L.map (Option.map List.length) := by
  apply List.ext_getElem?
  intro k
  by_cases hk : k < n
  · have e : co C k = (known L k).map List.length := by
      cases h1 : known L k with
      | none =>
        cases h2 : co C k with
        | none => rfl
        | some v => obtain ⟨w, hw, _⟩ := hr k v h2; exact absurd hw (hL.no k h1 w)
      | some w =>
        obtain ⟨hd, hm⟩ := hL.inv k w h1
        obtain ⟨u, h3, h4⟩ := der_price hs hd
        rw [price_non C (by omega), show (100 + (k : Int) - 100).toNat = k by omega] at h3
        cases h2 : co C k with
        | none => rw [h2] at h3; cases h3
        | some v =>
          rw [h2] at h3
          have h5 : v + 0 = u := Option.some.inj h3
          obtain ⟨w', hw', hl'⟩ := hr k v h2
          have := le_len (hm w' hw')
          show some v = some w.length
          congr 1; omega
    have hkC : k < C.length := by omega
    have hkL : k < L.length := by rw [hL.len]; exact hk
    unfold co known at e
    rw [List.getElem?_eq_getElem hkC, List.getElem?_eq_getElem hkL] at e
    rw [List.getElem?_map, List.getElem?_eq_getElem hkC, List.getElem?_eq_getElem hkL]
    exact congrArg some e
  · rw [List.getElem?_eq_none (by omega), List.getElem?_eq_none (by rw [List.length_map, hL.len]; omega)]

theorem real_step {a : Co × Bool} {p : Int × List Int} (hp : p ∈ ps) (hl : 100 ≤ p.1 ∧ p.1 < 100 + (a.1.length : Int)) (h : Real ps a.1) : Real ps (fallStep a p).1 := by
  unfold fallStep
  split
  · intro k v hv
    have hv : co (a.1.set (p.1 - 100).toNat (priceF a.1 p.2)) k = some v := hv
    rw [co_set (by omega)] at hv
    split at hv
    · rename_i hk
      obtain ⟨w, hw, e⟩ := price_der h _ _ hv
      exact ⟨w, (der_one (by omega)).2 ⟨p, hp, by omega, hw⟩, e⟩
    · exact h k v hv
  · exact h
theorem fall_len : ∀ (qs : List (Int × List Int)) (a : Co × Bool), (qs.foldl fallStep a).1.length = a.1.length
  | [], _ => rfl
  | q :: qs, a => by
    rw [List.foldl_cons, fall_len qs]
    unfold fallStep; split <;> simp
theorem real_fall {n : Nat} : ∀ (qs : List (Int × List Int)) (a : Co × Bool), (∀ q ∈ qs, q ∈ ps ∧ 100 ≤ q.1 ∧ q.1 < 100 + (n : Int)) → a.1.length = n → Real ps a.1 → Real ps (qs.foldl fallStep a).1
  | [], _, _, _, h => h
  | q :: qs, a, hq, hn, h => by
    rw [List.foldl_cons]
    have h1 := hq q List.mem_cons_self
    refine real_fall qs _ (fun q' hq' => hq q' (List.mem_cons_of_mem _ hq')) ?_ (real_step h1.1 (by rw [hn]; exact h1.2) h)
    have := fall_len [q] a
    rw [← hn]; exact this
/-- Where nothing falls all is at rest. -/
theorem fall_rest : ∀ (qs : List (Int × List Int)) (a : Co × Bool), (qs.foldl fallStep a).2 = false → (qs.foldl fallStep a).1 = a.1 ∧ a.2 = false ∧ ∀ q ∈ qs, ltC (priceF a.1 q.2) (co a.1 (q.1 - 100).toNat) = false
  | [], a, h => ⟨rfl, h, fun q hq => by cases hq⟩
  | q :: qs, a, h => by
    rw [List.foldl_cons] at h ⊢
    obtain ⟨h1, h2, h3⟩ := fall_rest qs _ h
    by_cases hl : ltC (priceF a.1 q.2) (co a.1 (q.1 - 100).toNat) = true
    · have e : fallStep a q = (a.1.set (q.1 - 100).toNat (priceF a.1 q.2), true) := if_pos hl
      rw [e] at h2; cases h2
    · have e : fallStep a q = a := if_neg hl
      rw [e] at h1 h2 h3 ⊢
      refine ⟨h1, h2, fun q' hq' => ?_⟩
      rcases List.mem_cons.1 hq' with rfl | hq'
      · simpa using hl
      · exact h3 q' hq'

/-! ### Costs as floats -/
def fc : Option Nat → Nat
  | none => Fl.inf
  | some v => Fl.ofNat v
/-- How many are finite, and how great they are. -/
def fin (C : Co) : Nat := C.countP (·.isSome)
def Bound (C : Co) : Prop := ∀ k v, co C k = some v → v ≤ 6 ^ fin C
theorem fin_le (C : Co) : fin C ≤ C.length := List.countP_le_length
theorem price_le {C : Co} {B : Nat} (hB : 1 ≤ B) (h : ∀ k v, co C k = some v → v ≤ B) : ∀ (r : List Int) (a v : Nat), r.foldl (priceStep C) (some a) = some v → v ≤ a + r.length * B
  | [], a, v, e => by cases e; simp
  | s :: r, a, v, e => by
    rw [List.foldl_cons, show priceStep C (some a) s = (if s < 100 then some (a + 1) else match co C (s - 100).toNat with | none => none | some x => some (a + x)) from rfl] at e
    by_cases hs : s < 100
    · rw [if_pos hs] at e
      have := price_le hB h r _ _ e
      simp only [List.length_cons]; rw [Nat.add_mul]; omega
    · rw [if_neg hs] at e
      cases hk : co C (s - 100).toNat with
      | none => rw [hk] at e; have e : r.foldl (priceStep C) none = some v := e; rw [price_none] at e; cases e
      | some x =>
        rw [hk] at e
        have e : r.foldl (priceStep C) (some (a + x)) = some v := e
        have := price_le hB h r _ _ e
        have := h _ _ hk
        simp only [List.length_cons]; rw [Nat.add_mul]; omega
theorem fin_set_new : ∀ {C : Co} {k v : Nat}, k < C.length → co C k = none → fin (C.set k (some v)) = fin C + 1
  | [], _, _, h, _ => by simp at h
  | x :: C, 0, v, _, hn => by
    have : x = none := by simpa [co] using hn
    subst this; simp [fin]
  | x :: C, k + 1, v, h, hn => by
    have ih := fin_set_new (C := C) (k := k) (v := v) (by simpa using h) (by simpa [co] using hn)
    simp only [List.set_cons_succ]
    unfold fin at *
    rw [List.countP_cons, List.countP_cons, ih]; omega
theorem fin_set_old : ∀ {C : Co} {k v u : Nat}, co C k = some u → fin (C.set k (some v)) = fin C
  | [], _, _, _, h => by simp [co] at h
  | x :: C, 0, v, u, hn => by
    have : x = some u := by simpa [co] using hn
    subst this; simp [fin]
  | x :: C, k + 1, v, u, hn => by
    have ih := fin_set_old (C := C) (k := k) (v := v) (u := u) (by simpa [co] using hn)
    simp only [List.set_cons_succ]
    unfold fin at *
    rw [List.countP_cons, List.countP_cons, ih]
theorem bound_step {a : Co × Bool} {p : Int × List Int} (hl : 100 ≤ p.1 ∧ p.1 < 100 + (a.1.length : Int)) (hr : p.2.length ≤ 6) (h : Bound a.1) : Bound (fallStep a p).1 := by
  unfold fallStep
  split
  · rename_i hlt
    cases hp : priceF a.1 p.2 with
    | none => rw [hp] at hlt; cases hlt
    | some v =>
      have hv : v ≤ 6 * 6 ^ fin a.1 := by
        have h1 := price_le (C := a.1) (B := 6 ^ fin a.1) (Nat.pow_pos (by decide)) h p.2 0 v hp
        have h2 : p.2.length * 6 ^ fin a.1 ≤ 6 * 6 ^ fin a.1 := Nat.mul_le_mul_right _ hr
        omega
      intro k u hu
      have hu : co (a.1.set (p.1 - 100).toNat (some v)) k = some u := hu
      show u ≤ 6 ^ fin (a.1.set (p.1 - 100).toNat (some v))
      rw [co_set (by omega)] at hu
      cases ho : co a.1 (p.1 - 100).toNat with
      | none =>
        rw [fin_set_new (by omega) ho, Nat.pow_succ]
        split at hu
        · cases hu; omega
        · have := h k u hu; omega
      | some o =>
        rw [fin_set_old ho]
        rw [hp, ho] at hlt
        have hlt : v < o := by simpa [ltC] using hlt
        have := h _ _ ho
        split at hu
        · cases hu; omega
        · exact h k u hu
  · exact h
theorem fc_le (x : Option Nat) : fc x ≤ Fl.inf := by
  cases x with
  | none => exact Nat.le_refl _
  | some v => show Fl.ofNat v ≤ Fl.inf; rw [Fl.ofNat_R]; exact Fl.R_le _
theorem fc_lt {x y : Option Nat} (hx : ∀ v, x = some v → v < 2 ^ 53) (hy : ∀ v, y = some v → v < 2 ^ 53) : fc x < fc y ↔ ltC x y = true := by
  cases x with
  | none => simp only [ltC]; constructor
            · intro h; have := fc_le y; have : Fl.inf < fc y := h; omega
            · intro h; cases h
  | some v =>
    cases y with
    | none => exact ⟨fun _ => rfl, fun _ => Fl.ofNat_lt v (hx v rfl)⟩
    | some u => simp only [ltC, decide_eq_true_eq]; exact Fl.ofNat_le_iff v u (hx v rfl) (hy u rfl)
/-- What a symbol costs, as a float. -/
def codeOf (C : Co) (s : Int) : Nat := if s < 100 then Fl.ofNat 1 else fc (co C (s - 100).toNat)
theorem plus_inf_left (x : Nat) : Fl.plus Fl.inf x = Fl.inf := by unfold Fl.plus; rw [if_neg (by omega)]
theorem plus_inf_right (x : Nat) : Fl.plus x Fl.inf = Fl.inf := by unfold Fl.plus; rw [if_neg (by omega)]
theorem total_price {C : Co} {B : Nat} (hB : 1 ≤ B) (h : ∀ k v, co C k = some v → v ≤ B) : ∀ (r : List Int) (a : Option Nat), (∀ v, a = some v → v + r.length * B < 2 ^ 53) → (r.map (codeOf C)).foldl Fl.plus (fc a) = fc (r.foldl (priceStep C) a)
  | [], _, _ => rfl
  | s :: r, a, ha => by
    rw [List.map_cons, List.foldl_cons, List.foldl_cons]
    have key : Fl.plus (fc a) (codeOf C s) = fc (priceStep C a s) ∧ ∀ v, priceStep C a s = some v → v + r.length * B < 2 ^ 53 := by
      cases a with
      | none => exact ⟨plus_inf_left _, fun v hv => by cases hv⟩
      | some v =>
        have hv := ha v rfl
        simp only [List.length_cons] at hv
        rw [Nat.add_mul] at hv
        show Fl.plus (Fl.ofNat v) (codeOf C s) = fc (if s < 100 then some (v + 1) else match co C (s - 100).toNat with | none => none | some x => some (v + x)) ∧ ∀ u, (if s < 100 then some (v + 1) else match co C (s - 100).toNat with | none => none | some x => some (v + x)) = some u → _
        unfold codeOf
        by_cases hs : s < 100
        · rw [if_pos hs, if_pos hs]
          exact ⟨Fl.plus_ofNat v 1 (by omega), fun u hu => by cases hu; omega⟩
        · rw [if_neg hs, if_neg hs]
          cases hk : co C (s - 100).toNat with
          | none => exact ⟨plus_inf_right _, fun u hu => by cases hu⟩
          | some x =>
            have := h _ _ hk
            exact ⟨Fl.plus_ofNat v x (by omega), fun u hu => by cases hu; omega⟩
    rw [key.1]
    exact total_price hB h r _ key.2
/-- The codes' sum: it falls. -/
def mass (C : Co) : Nat := (C.map fc).sum
theorem mass_set : ∀ {C : Co} {k : Nat} {x : Option Nat}, k < C.length → fc x < fc (co C k) → mass (C.set k x) < mass C
  | [], _, _, h, _ => by simp at h
  | y :: C, 0, x, _, hn => by
    have : fc x < fc y := hn
    simp only [List.set_cons_zero, mass, List.map_cons, List.sum_cons]; omega
  | y :: C, k + 1, x, h, hn => by
    have ih := mass_set (C := C) (k := k) (x := x) (by simpa using h) (by simpa [co] using hn)
    simp only [List.set_cons_succ, mass, List.map_cons, List.sum_cons] at ih ⊢; omega

end Go.Proofs.YtejjdfmobiegdaaDoor.Wd
