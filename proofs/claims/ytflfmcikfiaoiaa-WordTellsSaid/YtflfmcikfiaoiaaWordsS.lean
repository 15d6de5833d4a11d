/- Words that are replaced by lesser ones till none is: plain words. No program here. -/
import Derived.Test.YtflfmcikfiaoiaaWordD
set_option linter.unusedVariables false
namespace Go.Proofs.Ytflfmcikfiaoiaa.Wd
open Doc

/-! ### Words as numbers -/
def val : List Int → Nat
  | [] => 0
  | s :: r => s.toNat * 100 ^ r.length + val r
def DigW (w : List Int) : Prop := ∀ s ∈ w, 0 ≤ s ∧ s < 100
theorem val_lt : ∀ {w : List Int}, DigW w → val w < 100 ^ w.length
  | [], _ => by simp [val]
  | s :: r, h => by
    have h1 := val_lt (w := r) fun x hx => h x (by simp [hx])
    have h2 := h s (by simp)
    have h3 : s.toNat + 1 ≤ 100 := by omega
    have h4 : (s.toNat + 1) * 100 ^ r.length ≤ 100 * 100 ^ r.length := Nat.mul_le_mul_right _ h3
    show s.toNat * 100 ^ r.length + val r < 100 ^ (r.length + 1)
    rw [Nat.pow_succ, Nat.mul_comm (100 ^ r.length) 100]
    rw [Nat.add_mul, Nat.one_mul] at h4
    omega
theorem val_lex : ∀ {x w : List Int}, DigW x → DigW w → x.length = w.length → lexI x w = true → val x < val w
  | [], [], _, _, _, h => by simp [lexI] at h
  | [], _ :: _, _, _, hl, _ => by simp at hl
  | _ :: _, [], _, _, hl, _ => by simp at hl
  | s :: x, t :: w, hx, hw, hl, h => by
    have hl' : x.length = w.length := by simpa using hl
    have h1 := hx s (by simp)
    have h2 := hw t (by simp)
    show s.toNat * 100 ^ x.length + val x < t.toNat * 100 ^ w.length + val w
    rw [← hl']
    have h : (if s = t then lexI x w else decide (s < t)) = true := h
    by_cases e : s = t
    · subst e
      rw [if_pos rfl] at h
      have := val_lex (x := x) (w := w) (fun y hy => hx y (by simp [hy])) (fun y hy => hw y (by simp [hy])) hl' h
      omega
    · rw [if_neg e, decide_eq_true_eq] at h
      have h3 := val_lt (w := x) fun y hy => hx y (by simp [hy])
      have h4 : s.toNat + 1 ≤ t.toNat := by omega
      have h5 : (s.toNat + 1) * 100 ^ x.length ≤ t.toNat * 100 ^ x.length := Nat.mul_le_mul_right _ h4
      rw [Nat.add_mul, Nat.one_mul] at h5
      omega
def code (w : List Int) : Nat := 100 ^ w.length + val w
theorem code_lt {x w : List Int} (hx : DigW x) (hw : DigW w) (h : lessI x w = true) : code x < code w := by
  unfold code
  rcases (less_iff x w).1 h with hl | ⟨hl, hlex⟩
  · have h1 := val_lt hx
    have h2 : 100 ^ (x.length + 1) ≤ 100 ^ w.length := Nat.pow_le_pow_right (by decide) hl
    rw [Nat.pow_succ] at h2
    have h3 : 100 ^ x.length * 2 ≤ 100 ^ x.length * 100 := Nat.mul_le_mul_left _ (by decide)
    omega
  · have := val_lex hx hw hl hlex
    rw [hl]; omega
theorem code_top (N : Nat) : ∃ M, ∀ w : List Int, DigW w → w.length ≤ N → code w < M := by
  refine ⟨100 ^ N * 2, fun w hw hl => ?_⟩
  have h1 := val_lt hw
  have h2 : 100 ^ w.length ≤ 100 ^ N := Nat.pow_le_pow_right (by decide) hl
  unfold code
  omega

/-! ### What there is falls -/
def rankW (M : Nat) : Option (List Int) → Nat
  | none => M
  | some w => code w
def massW (M : Nat) (L : Kn) : Nat := (L.map (rankW M)).sum
theorem massW_set {M : Nat} : ∀ {L : Kn} {k : Nat} {x : List Int}, k < L.length → code x < rankW M (known L k) → massW M (L.set k (some x)) < massW M L
  | [], _, _, h, _ => by simp at h
  | y :: L, 0, x, _, hn => by
    have hn : code x < rankW M y := hn
    simp only [List.set_cons_zero, massW, List.map_cons, List.sum_cons]
    show code x + _ < _
    omega
  | y :: L, k + 1, x, h, hn => by
    have ih := massW_set (M := M) (L := L) (k := k) (x := x) (by simpa using h) (by simpa [known] using hn)
    simp only [List.set_cons_succ, massW, List.map_cons, List.sum_cons] at ih ⊢; omega
theorem many_new : ∀ {L : Kn} {k : Nat} {w : List Int}, k < L.length → known L k = none → howMany (L.set k (some w)) = howMany L + 1
  | [], _, _, h, _ => by simp at h
  | x :: L, 0, w, _, hn => by
    have : x = none := by simpa [known] using hn
    subst this; simp [howMany]
  | x :: L, k + 1, w, h, hn => by
    have ih := many_new (L := L) (k := k) (w := w) (by simpa using h) (by simpa [known] using hn)
    simp only [List.set_cons_succ]
    unfold howMany at *
    rw [List.countP_cons, List.countP_cons, ih]; omega
theorem many_old : ∀ {L : Kn} {k : Nat} {w u : List Int}, known L k = some u → howMany (L.set k (some w)) = howMany L
  | [], _, _, _, h => by simp [known] at h
  | x :: L, 0, w, u, hn => by
    have : x = some u := by simpa [known] using hn
    subst this; simp [howMany]
  | x :: L, k + 1, w, u, hn => by
    have ih := many_old (L := L) (k := k) (w := w) (u := u) (by simpa [known] using hn)
    simp only [List.set_cons_succ]
    unfold howMany at *
    rw [List.countP_cons, List.countP_cons, ih]

/-- What is known comes, of few signs, and is not too long. -/
structure GoodW (ps : List (Int × List Int)) (L : Kn) : Prop where
  der : ∀ k w, known L k = some w → Der ps [100 + (k : Int)] w
  dig : ∀ k w, known L k = some w → DigW w
  len : ∀ k w, known L k = some w → w.length ≤ 6 ^ howMany L
def ClosedW (L : Kn) (p : Int × List Int) : Prop := ∀ u, rowW L p.2 = some u → ∃ w, known L (p.1 - 100).toNat = some w ∧ lessI u w = false
theorem goodW_none (ps : List (Int × List Int)) (n : Nat) : GoodW ps (none_ n) := by
  have h : ∀ k w, known (none_ n) k = some w → False := fun k w e => by
    unfold known none_ at e
    rw [List.getElem?_replicate] at e
    split at e <;> simp at e
  exact ⟨fun k w e => (h k w e).elim, fun k w e => (h k w e).elim, fun k w e => (h k w e).elim⟩
variable {ps : List (Int × List Int)}
theorem rowW_der {L : Kn} (h : GoodW ps L) : ∀ (r w : List Int), rowW L r = some w → Der ps r w
  | [], w, e => by rw [rowW_nil] at e; cases e; exact .nil
  | s :: r, w, e => by
    by_cases hs : s < 100
    · rw [rowW_term L hs] at e
      cases hr : rowW L r with
      | none => rw [hr] at e; cases e
      | some u => rw [hr] at e; cases e; exact .term s r u hs (rowW_der h r u hr)
    · rw [rowW_non L (by omega)] at e
      cases hk : known L (s - 100).toNat with
      | none => rw [hk] at e; cases e
      | some x =>
        rw [hk] at e
        cases hr : rowW L r with
        | none => rw [hr] at e; cases e
        | some u =>
          rw [hr] at e; cases e
          have h1 := h.der _ _ hk
          rw [show (100 : Int) + ((s - 100).toNat : Int) = s by omega] at h1
          exact der_join (by omega) h1 (rowW_der h r u hr)
theorem rowW_dig {L : Kn} (h : GoodW ps L) : ∀ (r w : List Int), (∀ s ∈ r, 0 ≤ s) → rowW L r = some w → DigW w
  | [], w, _, e => by rw [rowW_nil] at e; cases e; intro s hs; cases hs
  | s :: r, w, hr0, e => by
    by_cases hs : s < 100
    · rw [rowW_term L hs] at e
      cases hr : rowW L r with
      | none => rw [hr] at e; cases e
      | some u =>
        rw [hr] at e; cases e
        intro y hy
        rcases List.mem_cons.1 hy with rfl | hy
        · exact ⟨hr0 _ (by simp), hs⟩
        · exact rowW_dig h r u (fun x hx => hr0 x (by simp [hx])) hr y hy
    · rw [rowW_non L (by omega)] at e
      cases hk : known L (s - 100).toNat with
      | none => rw [hk] at e; cases e
      | some x =>
        rw [hk] at e
        cases hr : rowW L r with
        | none => rw [hr] at e; cases e
        | some u =>
          rw [hr] at e; cases e
          intro y hy
          rcases List.mem_append.1 hy with hy | hy
          · exact h.dig _ _ hk y hy
          · exact rowW_dig h r u (fun x hx => hr0 x (by simp [hx])) hr y hy
theorem rowW_len {L : Kn} (h : GoodW ps L) {r w : List Int} (hr : r.length ≤ 6) (e : rowW L r = some w) : w.length ≤ 6 ^ (howMany L + 1) := by
  have h1 := row_short (L := L) (B := 6 ^ howMany L) (Nat.pow_pos (by decide)) h.len r [] w e
  have h2 : r.length * 6 ^ howMany L ≤ 6 * 6 ^ howMany L := Nat.mul_le_mul_right _ hr
  rw [Nat.pow_succ, Nat.mul_comm]
  simp only [List.length_nil] at h1
  omega
/-- One word is put in. -/
theorem goodW_put {L : Kn} (h : GoodW ps L) {p : Int × List Int} (hp : p ∈ ps) (h100 : 100 ≤ p.1) (hk : (p.1 - 100).toNat < L.length) (hr : p.2.length ≤ 6) (hs : ∀ s ∈ p.2, 0 ≤ s) {x : List Int} (hx : rowW L p.2 = some x)
    (hl : known L (p.1 - 100).toNat = none ∨ ∃ w, known L (p.1 - 100).toNat = some w ∧ lessI x w = true) : GoodW ps (L.set (p.1 - 100).toNat (some x)) := by
  have hd : Der ps [100 + ((p.1 - 100).toNat : Int)] x := by
    rw [show (100 : Int) + ((p.1 - 100).toNat : Int) = p.1 by omega]
    exact (der_one h100).2 ⟨p, hp, rfl, rowW_der h _ _ hx⟩
  have hmono : howMany L ≤ howMany (L.set (p.1 - 100).toNat (some x)) := by
    rcases hl with hn | ⟨w, hw, _⟩
    · rw [many_new hk hn]; omega
    · rw [many_old hw]; exact Nat.le_refl _
  have hlen : x.length ≤ 6 ^ howMany (L.set (p.1 - 100).toNat (some x)) := by
    rcases hl with hn | ⟨w, hw, hlt⟩
    · rw [many_new hk hn]; exact rowW_len h hr hx
    · rw [many_old hw]
      have h1 := h.len _ _ hw
      have h2 : x.length ≤ w.length := by
        rcases (less_iff x w).1 hlt with h3 | ⟨h3, _⟩ <;> omega
      omega
  refine ⟨fun k w e => ?_, fun k w e => ?_, fun k w e => ?_⟩
  · rw [known_set hk] at e
    split at e
    · rename_i hkk; subst hkk; cases e; exact hd
    · exact h.der k w e
  · rw [known_set hk] at e
    split at e
    · cases e; exact rowW_dig h _ _ hs hx
    · exact h.dig k w e
  · rw [known_set hk] at e
    split at e
    · cases e; exact hlen
    · exact Nat.le_trans (h.len k w e) (Nat.pow_le_pow_right (by decide) hmono)
theorem massW_put {M : Nat} {L : Kn} (h : GoodW ps L) {p : Int × List Int} (hk : (p.1 - 100).toNat < L.length) (hs : ∀ s ∈ p.2, 0 ≤ s) {x : List Int} (hx : rowW L p.2 = some x) (hM : code x < M)
    (hl : known L (p.1 - 100).toNat = none ∨ ∃ w, known L (p.1 - 100).toNat = some w ∧ lessI x w = true) : massW M (L.set (p.1 - 100).toNat (some x)) < massW M L := by
  refine massW_set hk ?_
  rcases hl with hn | ⟨w, hw, hlt⟩
  · rw [hn]; exact hM
  · rw [hw]; exact code_lt (rowW_dig h _ _ hs hx) (h.dig _ _ hw) hlt
/-- Where none is lesser, all are the least. -/
theorem closedW_row {L : Kn} (hc : ∀ p ∈ ps, ClosedW L p) {r v : List Int} (hd : Der ps r v) : ∃ u, rowW L r = some u ∧ leI u v := by
  induction hd with
  | nil => exact ⟨[], rfl, le_refl _⟩
  | term s r w hs _ ih =>
    obtain ⟨u, h1, h2⟩ := ih
    exact ⟨s :: u, by rw [rowW_term L hs, h1]; rfl, by have := le_append (le_refl [s]) h2; exact this⟩
  | non p r v w hp h100 _ _ ih1 ih2 =>
    obtain ⟨u1, h1, h2⟩ := ih1
    obtain ⟨u2, h3, h4⟩ := ih2
    obtain ⟨w1, h5, h6⟩ := hc p hp u1 h1
    exact ⟨w1 ++ u2, by rw [rowW_non L h100, h5, h3]; rfl, le_append (le_trans h6 h2) h4⟩
theorem closedW_least {n : Nat} {L : Kn} (hlen : L.length = n) (h : GoodW ps L) (hc : ∀ p ∈ ps, ClosedW L p) : LeastIs ps n L where
  len := hlen
  inv := fun k w e => ⟨h.der k w e, fun v hv => by
    obtain ⟨u, h1, h2⟩ := closedW_row hc hv
    rw [rowW_non L (by omega), show (100 + (k : Int) - 100).toNat = k by omega, e, rowW_nil] at h1
    cases h1
    simpa using h2⟩
  no := fun k e v hv => by
    obtain ⟨u, h1, h2⟩ := closedW_row hc hv
    rw [rowW_non L (by omega), show (100 + (k : Int) - 100).toNat = k by omega, e] at h1
    cases h1
end Go.Proofs.Ytflfmcikfiaoiaa.Wd
