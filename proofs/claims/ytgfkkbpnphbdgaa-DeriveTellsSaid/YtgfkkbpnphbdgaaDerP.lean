/- derive's plain lists: each of them is a derivation with those leaves, none is there twice. No program here. A derivation is plain just where it is one of all: plain. No program here. What derive's Trees gives, in plain words. Arrays of three integers, compared. The law's own plain: whether no symbol stands under itself with the same leaves. -/
import Derived.Test.YtgfkkbpnphbdgaaDerA
import Derived.Test.YtgfkkbpnphbdgaaDerTs
import Derived.Test.YtgfkkbpnphbdgaaLeafs
import GoSem.ClaimStop
import Derived.Laws.StructEq
import Derived.Test.YtgfkkbpnphbdgaaTreeD
import Derived.Deep.RegionLawGrows
import Derived.Deep.Cut
import Derived.Deep.RegionLaw
set_option linter.unusedVariables false
set_option linter.unusedSimpArgs false
namespace Go.Proofs.Ytgfkkbpnphbdgaa.Dr
open Doc

variable (g : Gr) (w : List Int)
/-- What each of a job is. -/
def TreeIs (j : Job) (l : List Tr) : Prop := match j with
  | .goal sym s => ∃ t, l = [t] ∧ checkT g t sym = true ∧ leavesT t = seg w s.a s.b
  | .row p d s => checkK g l ((g.prods.getD p (0, [])).2.drop d) = true ∧ l.length = (g.prods.getD p (0, [])).2.length - d ∧ leavesK l = seg w s.a s.b
def RowIn (j : Job) : Prop := match j with | .goal _ _ => True | .row p _ _ => p < g.prods.length
theorem lst_tree (hw : ∀ x ∈ w, symB g x = true) : ∀ (f : Nat) (j : Job), Fit j → RowIn g j → ∀ l ∈ lst g.prods w f j, TreeIs g w j l
  | 0, j, _, _, l, h => by simp [lst] at h
  | f + 1, .goal sym s, hj, _, l, h => by
    simp only [lst] at h
    by_cases h1 : hasA s.ab sym = true
    · rw [if_pos h1] at h; cases h
    · rw [if_neg h1] at h
      by_cases h2 : s.b = s.a + 1 ∧ w[s.a]? = some sym
      · rw [if_pos h2] at h
        rw [List.mem_singleton.1 h]
        refine ⟨_, rfl, ?_, ?_⟩
        · have := hw sym (List.mem_of_getElem? h2.2)
          simp [checkT, this]
        · rw [h2.1, seg_one w h2.2]; simp [leavesT]
      · rw [if_neg h2] at h
        obtain ⟨k, hk, h⟩ := List.mem_flatMap.1 h
        obtain ⟨ks, hks, rfl⟩ := List.mem_map.1 h
        obtain ⟨hk1, hk2⟩ := mem_prodsOf.1 hk
        obtain ⟨c1, c2, c3⟩ := lst_tree hw f (.row k 0 ⟨s.a, s.b, withA s.ab sym⟩) (fit_with hj) hk1 ks hks
        have hgk : g.prods[k]? = some (g.prods.getD k (0, [])) := by rw [List.getD_eq_getElem?_getD, List.getElem?_eq_getElem hk1]; rfl
        have e1 : ¬ (k : Int) = -1 := by omega
        have e2 : ¬ (k : Int) < 0 := by omega
        rw [List.drop_zero] at c1
        refine ⟨_, rfl, ?_, ?_⟩
        · simp only [checkT, if_true, if_neg e1, if_neg e2, Int.toNat_natCast, hgk]
          rw [if_pos ⟨hk2, by omega⟩]
          exact c1
        · simp only [leavesT, if_neg e1]; exact c3
  | f + 1, .row p d s, hj, hp, l, h => by
    have hab : s.ab.length = 8 := hj.ab
    have hle : s.a ≤ s.b := hj.le
    simp only [lst] at h
    by_cases h1 : (g.prods.getD p (0, [])).2.length ≤ d
    · rw [if_pos h1] at h
      by_cases h2 : s.a = s.b
      · rw [if_pos h2] at h
        rw [List.mem_singleton.1 h]
        exact ⟨by simp [checkK], by rw [List.length_nil]; omega, by rw [h2, seg_self]; rfl⟩
      · rw [if_neg h2] at h; cases h
    · rw [if_neg h1] at h
      obtain ⟨n, hn, h⟩ := List.mem_flatMap.1 h
      obtain ⟨t, ht, h⟩ := List.mem_flatMap.1 h
      obtain ⟨ks, hks, rfl⟩ := List.mem_map.1 h
      rw [List.mem_range] at hn
      obtain ⟨t, rfl, b1, b2⟩ := lst_tree hw f (.goal ((g.prods.getD p (0, [])).2.getD d 0) (fst_ s n)) ⟨fit_fst hab, by show s.a ≤ s.a + n; omega⟩ trivial t ht
      obtain ⟨c1, c2, c3⟩ := lst_tree hw f (.row p (d + 1) (snd_ s n)) ⟨fit_snd hab, by show s.a + n ≤ s.b; omega⟩ hp ks hks
      have hdl : d < (g.prods.getD p (0, [])).2.length := by omega
      have hy : (g.prods.getD p (0, [])).2.getD d 0 = (g.prods.getD p (0, [])).2[d] := by rw [List.getD_eq_getElem?_getD, List.getElem?_eq_getElem hdl]; rfl
      refine ⟨?_, ?_, ?_⟩
      · rw [List.drop_eq_getElem_cons hdl]
        rw [hy] at b1
        simp only [List.singleton_append, checkK, b1, Bool.true_and]
        exact c1
      · simp only [List.singleton_append, List.length_cons]; omega
      · simp only [List.singleton_append, leavesK]
        rw [seg_join w (show s.a ≤ s.a + n by omega) (show s.a + n ≤ s.b by omega)]
        have b2' : leavesT t = seg w s.a (s.a + n) := b2
        have c3' : leavesK ks = seg w (s.a + n) s.b := c3
        rw [b2', c3']
/-- Of the whole form. -/
theorem all_tree (hw : ∀ x ∈ w, symB g x = true) (root : Int) : ∀ l ∈ all g.prods w (wholeJ w root), ∃ t, l = [t] ∧ checkT g t root = true ∧ leavesT t = w := fun l hl => by
  obtain ⟨t, h1, h2, h3⟩ := lst_tree g w hw _ (wholeJ w root) (fit_whole w root) trivial l hl
  refine ⟨t, h1, h2, ?_⟩
  have h3' : leavesT t = seg w 0 w.length := h3
  rw [h3']; unfold seg; simp
/-! ### How great they are -/
def emp : Nat → Nat
  | 0 => 0
  | k + 1 => 1 + 6 * emp k
theorem emp_mono : ∀ {k k' : Nat}, k ≤ k' → emp k ≤ emp k' := by
  intro k k' h
  induction h with
  | refl => exact Nat.le_refl _
  | step h ih => rw [emp]; omega
/-- A bound of a job's trees. -/
def bndJ : Job → Nat
  | .goal _ s => if s.a = s.b then emp (free s.ab) else 2015539 * (17 * (s.b - s.a) + free s.ab - 16)
  | .row p d s => ((g.prods.getD p (0, [])).2.length - d) * (if s.a = s.b then emp (free s.ab) else 335923) + if s.a = s.b then 0 else 2015539 * (17 * (s.b - s.a) + free s.ab - 16)
theorem lst_size (h6 : Six g.prods) : ∀ (f : Nat) (j : Job), Fit j → ∀ l ∈ lst g.prods w f j, sizeK l ≤ bndJ g j
  | 0, j, _, l, h => by simp [lst] at h
  | f + 1, .goal sym s, hj, l, h => by
    have hab : s.ab.length = 8 := hj.ab
    have hle : s.a ≤ s.b := hj.le
    have hf8 := free_le s.ab
    simp only [lst] at h
    by_cases h1 : hasA s.ab sym = true
    · rw [if_pos h1] at h; cases h
    · rw [if_neg h1] at h
      by_cases h2 : s.b = s.a + 1 ∧ w[s.a]? = some sym
      · rw [if_pos h2] at h
        rw [List.mem_singleton.1 h]
        show sizeK _ ≤ if s.a = s.b then emp (free s.ab) else 2015539 * (17 * (s.b - s.a) + free s.ab - 16)
        rw [if_neg (by omega)]
        simp only [sizeK, sizeT]
        omega
      · rw [if_neg h2] at h
        obtain ⟨k, hk, h⟩ := List.mem_flatMap.1 h
        obtain ⟨ks, hks, rfl⟩ := List.mem_map.1 h
        have ih := lst_size h6 f (.row k 0 ⟨s.a, s.b, withA s.ab sym⟩) (fit_with hj) ks hks
        have hs := sym_in h6 hk
        have hl6 := h6.len k
        have hfr : free (withA s.ab sym) + 1 = free s.ab := by
          unfold hasA at h1
          rw [decide_eq_true hs.1, Bool.true_and] at h1
          exact free_set s.ab (sym - 100).toNat (by omega) (by simpa using h1)
        unfold bndJ at ih ⊢
        simp only [sizeK, sizeT] at ih ⊢
        generalize (g.prods.getD k (0, [])).2.length = L at *
        by_cases e : s.a = s.b
        · rw [if_pos e, if_pos e] at ih
          rw [if_pos e, ← hfr, emp]
          have := Nat.mul_le_mul_right (emp (free (withA s.ab sym))) (show L - 0 ≤ 6 by omega)
          omega
        · rw [if_neg e, if_neg e] at ih
          rw [if_neg e]
          have := Nat.mul_le_mul_right 335923 (show L - 0 ≤ 6 by omega)
          have e2 : 17 * (s.b - s.a) + free s.ab - 16 = (17 * (s.b - s.a) + free (withA s.ab sym) - 16) + 1 := by omega
          rw [e2, Nat.mul_add]
          omega
  | f + 1, .row p d s, hj, l, h => by
    have hab : s.ab.length = 8 := hj.ab
    have hle : s.a ≤ s.b := hj.le
    have hf8 := free_le s.ab
    simp only [lst] at h
    by_cases h1 : (g.prods.getD p (0, [])).2.length ≤ d
    · rw [if_pos h1] at h
      by_cases h2 : s.a = s.b
      · rw [if_pos h2] at h
        rw [List.mem_singleton.1 h]; simp [sizeK]
      · rw [if_neg h2] at h; cases h
    · rw [if_neg h1] at h
      obtain ⟨n, hn, h⟩ := List.mem_flatMap.1 h
      obtain ⟨t, ht, h⟩ := List.mem_flatMap.1 h
      obtain ⟨ks, hks, rfl⟩ := List.mem_map.1 h
      rw [List.mem_range] at hn
      have i1 := lst_size h6 f (.goal ((g.prods.getD p (0, [])).2.getD d 0) (fst_ s n)) ⟨fit_fst hab, by show s.a ≤ s.a + n; omega⟩ t ht
      have i2 := lst_size h6 f (.row p (d + 1) (snd_ s n)) ⟨fit_snd hab, by show s.a + n ≤ s.b; omega⟩ ks hks
      rw [sizeK_app]
      unfold bndJ at *
      unfold fst_ at i1
      unfold snd_ at i2
      simp only at i1 i2 ⊢
      obtain ⟨r, hr⟩ : ∃ r, (g.prods.getD p (0, [])).2.length - d = r + 1 := ⟨(g.prods.getD p (0, [])).2.length - d - 1, by omega⟩
      have hr2 : (g.prods.getD p (0, [])).2.length - (d + 1) = r := by omega
      rw [hr, Nat.succ_mul]
      rw [hr2] at i2
      have h8e : emp 8 = 335923 := by decide
      have he8 : emp (free s.ab) ≤ 335923 := by rw [← h8e]; exact emp_mono (by omega)
      have hf0 := free_none
      by_cases e : s.a = s.b
      · obtain rfl : n = 0 := by omega
        simp only [Nat.add_zero, if_pos e, if_true] at i1 i2 ⊢
        omega
      · rw [if_neg e, if_neg e]
        by_cases e0 : n = 0
        · subst e0
          simp only [Nat.add_zero, if_neg e, if_true] at i1 i2
          rw [hf0, h8e] at i1
          omega
        · rw [if_neg (show ¬ s.a = s.a + n by omega)] at i1
          rw [if_neg e0] at i2
          by_cases en : s.a + n = s.b
          · rw [if_pos en, show s.a + n - s.a = s.b - s.a by omega] at i1
            rw [if_pos en, if_pos en, hf0, h8e] at i2
            omega
          · rw [if_neg en, hf0, show s.a + n - s.a = n by omega] at i1
            rw [if_neg en, if_neg en, hf0] at i2
            have e3 : (17 * n + 8 - 16) + (17 * (s.b - (s.a + n)) + 8 - 16) ≤ 17 * (s.b - s.a) + free s.ab - 16 := by omega
            have := Nat.mul_le_mul_left 2015539 e3
            rw [Nat.mul_add] at this
            omega
theorem all_size (h6 : Six g.prods) (root : Int) (hl : w.length ≤ 12) : ∀ l ∈ all g.prods w (wholeJ w root), ∀ t ∈ l, sizeT t ≤ 1000000000 := fun l hlm t ht => by
  have h1 := lst_size g w h6 _ (wholeJ w root) (fit_whole w root) l hlm
  have h2 := sizeK_mem ht
  have h8e : emp 8 = 335923 := by decide
  have h3 : bndJ g (wholeJ w root) ≤ 1000000000 := by
    unfold bndJ wholeJ
    simp only
    rw [free_none, h8e]
    split
    · omega
    · have := Nat.mul_le_mul_left 2015539 (show 17 * (w.length - 0) + 8 - 16 ≤ 196 by omega)
      omega
  omega
end Go.Proofs.Ytgfkkbpnphbdgaa.Dr

set_option linter.unusedVariables false
set_option linter.unusedSimpArgs false
namespace Go.Proofs.Ytgfkkbpnphbdgaa.Dr
open Doc

abbrev Key := Int × Nat × Nat
mutual
def plainB : Tr → List Key → Nat → Bool
  | .mk s p ks, up, fr => if (s, fr, fr + (leavesT (.mk s p ks)).length) ∈ up then false else plainK ks (up ++ [(s, fr, fr + (leavesT (.mk s p ks)).length)]) fr
def plainK : List Tr → List Key → Nat → Bool
  | [], _, _ => true
  | t :: l, up, fr => plainB t up fr && plainK l up (fr + (leavesT t).length)
end
theorem plain_bad (x : Int) (t : Tr) : ∀ (up : List Key) (i : Nat), (x, i, i + 1) ∈ up → leavesT t = [x] → plainB t up i = false := by
  induction t using Tr.ind with
  | h s p ks ih =>
    intro up i hu hl
    rw [plainB, hl, show [x].length = 1 from rfl]
    by_cases hp : p = -1
    · rw [leavesT, if_pos hp] at hl
      injection hl with hl
      rw [hl, if_pos hu]
    · rw [leavesT, if_neg hp] at hl
      have hu2 : (x, i, i + 1) ∈ up ++ [(s, i, i + 1)] := List.mem_append_left _ hu
      have aux : ∀ (l : List Tr), (∀ k ∈ l, ∀ (up : List Key) (i : Nat), (x, i, i + 1) ∈ up → leavesT k = [x] → plainB k up i = false) → leavesK l = [x] → plainK l (up ++ [(s, i, i + 1)]) i = false := by
        intro l
        induction l with
        | nil => intro _ h; simp [leavesK] at h
        | cons k l ihl =>
          intro hk h
          rw [leavesK] at h
          rw [plainK]
          cases hkl : leavesT k with
          | nil =>
            rw [hkl] at h
            show (_ && plainK l (up ++ [(s, i, i + 1)]) i) = false
            rw [ihl (fun k hkm => hk k (List.mem_cons_of_mem _ hkm)) h, Bool.and_false]
          | cons y r =>
            rw [hkl, List.cons_append] at h
            injection h with h1 h2
            have hr : r = [] := (List.append_eq_nil_iff.1 h2).1
            subst h1; subst hr
            rw [hk k List.mem_cons_self _ i hu2 hkl, Bool.false_and]
      split
      · rfl
      · exact aux ks ih hl
variable (g : Gr) (w : List Int)
/-- What stands above, in both ways. -/
structure Ups (up : List Key) (s : Spn) : Prop where
  has : ∀ y, hasA s.ab y = true ↔ (y, s.a, s.b) ∈ up
  far : ∀ k ∈ up, k.2.1 ≤ s.a ∧ s.b ≤ k.2.2
theorem Ups.fst {up : List Key} {s : Spn} (h : Ups up s) {n : Nat} (hn : n ≤ s.b - s.a) (hl : s.a ≤ s.b) : Ups up (fst_ s n) := by
  unfold fst_
  by_cases e : s.a + n = s.b
  · rw [if_pos e, e]; exact ⟨h.has, h.far⟩
  · rw [if_neg e]
    refine ⟨fun y => ?_, fun k hk => ?_⟩
    · rw [hasA_none]
      constructor
      · intro h; cases h
      · intro hm
        have := (h.far _ hm).2
        simp only at this
        omega
    · have := h.far k hk
      simp only; omega
theorem Ups.snd {up : List Key} {s : Spn} (h : Ups up s) {n : Nat} (hn : n ≤ s.b - s.a) (hl : s.a ≤ s.b) : Ups up (snd_ s n) := by
  unfold snd_
  by_cases e : n = 0
  · subst e; rw [if_pos rfl, Nat.add_zero]; exact ⟨h.has, h.far⟩
  · rw [if_neg e]
    refine ⟨fun y => ?_, fun k hk => ?_⟩
    · rw [hasA_none]
      constructor
      · intro h; cases h
      · intro hm
        have := (h.far _ hm).1
        simp only at this
        omega
    · have := h.far k hk
      simp only; omega
theorem hasA_with_mk {ab : List Bool} {x y : Int} (h8 : ab.length = 8) (hx : 100 ≤ x ∧ x < 108) (h : y = x ∨ hasA ab y = true) : hasA (withA ab x) y = true := by
  unfold hasA withA at *
  rcases h with rfl | h
  · rw [decide_eq_true hx.1, Bool.true_and, List.getD_eq_getElem?_getD, List.getElem?_set, if_pos rfl, if_pos (by omega)]; rfl
  · rw [Bool.and_eq_true, decide_eq_true_eq] at h
    rw [decide_eq_true h.1, Bool.true_and, List.getD_eq_getElem?_getD, List.getElem?_set]
    split
    · rw [if_pos (by omega)]; rfl
    · have := h.2; rwa [List.getD_eq_getElem?_getD] at this
theorem Ups.with {up : List Key} {s : Spn} (h : Ups up s) {x : Int} (h8 : s.ab.length = 8) (hx : 100 ≤ x ∧ x < 108) : Ups (up ++ [(x, s.a, s.b)]) ⟨s.a, s.b, withA s.ab x⟩ := by
  refine ⟨fun y => ?_, fun k hk => ?_⟩
  · simp only
    rw [List.mem_append, List.mem_singleton, ← h.has]
    constructor
    · intro hy
      rcases hasA_with h8 hx hy with rfl | hy
      · exact .inr rfl
      · exact .inl hy
    · intro hy
      refine hasA_with_mk h8 hx ?_
      rcases hy with hy | hy
      · exact .inr hy
      · injection hy with h1 _; exact .inl h1
  · rcases List.mem_append.1 hk with hk | hk
    · exact h.far k hk
    · rw [List.mem_singleton.1 hk]; exact ⟨Nat.le_refl _, Nat.le_refl _⟩
theorem seg_parts {a b : Nat} {u v : List Int} (h1 : a ≤ b) (h2 : b ≤ w.length) (h : u ++ v = seg w a b) : u = seg w a (a + u.length) ∧ v = seg w (a + u.length) b ∧ u.length ≤ b - a := by
  have hl := seg_len w h1 h2
  rw [← h, List.length_append] at hl
  have hj := seg_join w (show a ≤ a + u.length by omega) (show a + u.length ≤ b by omega)
  rw [← h] at hj
  have hl2 := seg_len w (show a ≤ a + u.length by omega) (show a + u.length ≤ w.length by omega)
  exact ⟨List.append_inj_left hj (by omega), List.append_inj_right hj (by omega), by omega⟩
/-- Both at once. -/
def PlainIff (t : Tr) : Prop := ∀ (sym : Int) (s : Spn) (up : List Key), Fit (.goal sym s) → s.b ≤ w.length → Ups up s → checkT g t sym = true → leavesT t = seg w s.a s.b → (plainB t up s.a = true ↔ [t] ∈ all g.prods w (.goal sym s))
theorem plain_row (h6 : Six g.prods) (hw : ∀ x ∈ w, symB g x = true) (p : Nat) (hp : p < g.prods.length) : ∀ (ks : List Tr) (hk : ∀ k ∈ ks, PlainIff g w k) (d : Nat) (s : Spn) (up : List Key), Fit (.row p d s) → s.b ≤ w.length → Ups up s → checkK g ks ((g.prods.getD p (0, [])).2.drop d) = true → ks.length = (g.prods.getD p (0, [])).2.length - d → leavesK ks = seg w s.a s.b → (plainK ks up s.a = true ↔ ks ∈ all g.prods w (.row p d s)) := by
  intro ks
  induction ks with
  | nil =>
    intro _ d s up hf hb hu hc hl hs
    have hle : s.a ≤ s.b := hf.le
    rw [List.length_nil] at hl
    have := seg_len w hle hb
    rw [← hs, leavesK, List.length_nil] at this
    rw [plainK, all_row g.prods w h6 hf, if_pos (by omega), if_pos (by omega)]
    simp
  | cons k ks ih =>
    intro hk d s up hf hb hu hc hl hs
    have hab : s.ab.length = 8 := hf.ab
    have hle : s.a ≤ s.b := hf.le
    rw [List.length_cons] at hl
    have hdl : d < (g.prods.getD p (0, [])).2.length := by omega
    have hy : (g.prods.getD p (0, [])).2.getD d 0 = (g.prods.getD p (0, [])).2[d] := by rw [List.getD_eq_getElem?_getD, List.getElem?_eq_getElem hdl]; rfl
    rw [List.drop_eq_getElem_cons hdl, ← hy, checkK, Bool.and_eq_true] at hc
    rw [leavesK] at hs
    obtain ⟨s1, s2, s3⟩ := seg_parts w hle hb hs
    have q1 := hk k List.mem_cons_self _ (fst_ s (leavesT k).length) up ⟨fit_fst hab, by show s.a ≤ s.a + (leavesT k).length; omega⟩ (by show s.a + (leavesT k).length ≤ w.length; omega) (hu.fst s3 hle) hc.1 s1
    have q2 := ih (fun k' h => hk k' (List.mem_cons_of_mem _ h)) (d + 1) (snd_ s (leavesT k).length) up ⟨fit_snd hab, by show s.a + (leavesT k).length ≤ s.b; omega⟩ hb (hu.snd s3 hle) hc.2 (by omega) s2
    have q1' : plainB k up s.a = true ↔ _ := q1
    have q2' : plainK ks up (s.a + (leavesT k).length) = true ↔ _ := q2
    rw [plainK, Bool.and_eq_true, q1', q2', all_row g.prods w h6 hf, if_neg (by omega)]
    constructor
    · rintro ⟨h1, h2⟩
      exact List.mem_flatMap.2 ⟨(leavesT k).length, List.mem_range.2 (by omega), List.mem_flatMap.2 ⟨[k], h1, List.mem_map.2 ⟨ks, h2, rfl⟩⟩⟩
    · intro h
      obtain ⟨n, hn, h⟩ := List.mem_flatMap.1 h
      obtain ⟨t, ht, h⟩ := List.mem_flatMap.1 h
      obtain ⟨ks', hks, e⟩ := List.mem_map.1 h
      rw [List.mem_range] at hn
      obtain ⟨t, rfl, _, b2⟩ := lst_tree g w hw _ (.goal ((g.prods.getD p (0, [])).2.getD d 0) (fst_ s n)) ⟨fit_fst hab, by show s.a ≤ s.a + n; omega⟩ trivial t ht
      rw [List.singleton_append] at e
      injection e with e1 e2
      subst e1; subst e2
      have b2' : leavesT t = seg w s.a (s.a + n) := b2
      have : (leavesT t).length = n := by rw [b2', seg_len w (by omega) (by omega)]; omega
      rw [this]
      exact ⟨ht, hks⟩
theorem plain_iff (h6 : Six g.prods) (hw : ∀ x ∈ w, symB g x = true) (t : Tr) : PlainIff g w t := by
  induction t using Tr.ind with
  | h y p ks ih =>
    intro sym s up hf hb hu hc hs
    have hab : s.ab.length = 8 := hf.ab
    have hle : s.a ≤ s.b := hf.le
    have hlen : s.a + (leavesT (.mk y p ks)).length = s.b := by rw [hs, seg_len w hle hb]; omega
    have hbad := fun (hlf : s.b = s.a + 1 ∧ w[s.a]? = some sym) => plain_bad sym
    rw [checkT] at hc
    by_cases hy : y = sym
    · rw [if_pos hy] at hc
      subst hy
      rw [plainB, hlen, all_goal g.prods w h6 hf]
      by_cases hh : hasA s.ab y = true
      · rw [if_pos hh, if_pos ((hu.has y).1 hh)]; simp
      · rw [if_neg hh, if_neg (fun h => hh ((hu.has y).2 h))]
        by_cases hp : p = -1
        · rw [if_pos hp, Bool.and_eq_true] at hc
          rw [leavesT, if_pos hp] at hs
          have h1 := seg_len w hle hb
          rw [← hs] at h1
          have h2 : w[s.a]? = some y := by
            have : (seg w s.a s.b)[0]? = some y := by rw [← hs]; rfl
            unfold seg at this
            rw [List.getElem?_take, if_pos (by simp at h1; omega), List.getElem?_drop] at this
            simpa using this
          rw [if_pos ⟨by simp at h1; omega, h2⟩]
          have hk0 : ks = [] := List.isEmpty_iff.1 hc.1
          subst hk0; subst hp
          simp [plainK]
        · rw [if_neg hp] at hc
          by_cases hn : p < 0
          · rw [if_pos hn] at hc; cases hc
          · rw [if_neg hn] at hc
            obtain ⟨k, rfl⟩ : ∃ k : Nat, p = k := Int.eq_ofNat_of_zero_le (by omega)
            rw [Int.toNat_natCast] at hc
            cases hq : g.prods[k]? with
            | none => rw [hq] at hc; cases hc
            | some q =>
              rw [hq] at hc
              simp only at hc
              by_cases hc2 : q.1 = y ∧ q.2.length = ks.length
              · rw [if_pos hc2] at hc
                have hkl := (List.getElem?_eq_some_iff.1 hq).1
                have hgk : g.prods.getD k (0, []) = q := by rw [List.getD_eq_getElem?_getD, hq]; rfl
                have hkm : k ∈ prodsOf g.prods y := mem_prodsOf.2 ⟨hkl, by rw [hgk]; exact hc2.1⟩
                have hs' : leavesK ks = seg w s.a s.b := by rw [leavesT, if_neg hp] at hs; exact hs
                by_cases hlf : s.b = s.a + 1 ∧ w[s.a]? = some y
                · rw [if_pos hlf]
                  have hk1 : leavesK ks = [y] := by rw [hs', hlf.1, seg_one w hlf.2]
                  have hbad := plain_bad y (.mk y k ks) [(y, s.a, s.a + 1)] s.a (List.mem_singleton.2 rfl) (by rw [leavesT, if_neg hp]; exact hk1)
                  constructor
                  · intro h
                    exfalso
                    have aux : ∀ (l : List Tr) (up : List Key), (y, s.a, s.a + 1) ∈ up → leavesK l = [y] → plainK l up s.a = false := by
                      intro l
                      induction l with
                      | nil => intro _ _ h; simp [leavesK] at h
                      | cons k l ihl =>
                        intro up hu h
                        rw [leavesK] at h
                        rw [plainK]
                        cases hkl : leavesT k with
                        | nil =>
                          rw [hkl] at h
                          show (_ && plainK l up s.a) = false
                          rw [ihl up hu h, Bool.and_false]
                        | cons z r =>
                          rw [hkl, List.cons_append] at h
                          injection h with h1 h2
                          have hr : r = [] := (List.append_eq_nil_iff.1 h2).1
                          subst h1; subst hr
                          rw [plain_bad _ k up s.a hu hkl, Bool.false_and]
                    rw [aux ks _ (List.mem_append_right _ (by rw [hlf.1]; exact List.mem_singleton.2 rfl)) hk1] at h
                    cases h
                  · intro h
                    rw [List.mem_singleton] at h
                    injection h with h
                    injection h with _ h2 _
                    exact absurd h2 hp
                · rw [if_neg hlf]
                  have hy8 := sym_in h6 hkm
                  have hr := plain_row g w h6 hw k hkl ks ih 0 ⟨s.a, s.b, withA s.ab y⟩ _ (fit_with hf) hb (hu.with hab hy8) (by rw [hgk, List.drop_zero]; exact hc) (by rw [hgk]; omega) hs'
                  have hr' : plainK ks (up ++ [(y, s.a, s.b)]) s.a = true ↔ _ := hr
                  rw [hr']
                  constructor
                  · intro h
                    exact List.mem_flatMap.2 ⟨k, hkm, List.mem_map.2 ⟨ks, h, rfl⟩⟩
                  · intro h
                    obtain ⟨k', hk', h⟩ := List.mem_flatMap.1 h
                    obtain ⟨ks', hks, e⟩ := List.mem_map.1 h
                    injection e with e
                    injection e with e1 e2 e3
                    obtain rfl : k' = k := by omega
                    rw [← e3]; exact hks
              · rw [if_neg hc2] at hc; cases hc
    · rw [if_neg hy] at hc; cases hc
end Go.Proofs.Ytgfkkbpnphbdgaa.Dr

set_option linter.unusedVariables false
set_option linter.unusedSimpArgs false
namespace Go.Proofs.Ytgfkkbpnphbdgaa
open Go.RowKit
open Doc Dr

theorem sym_wide2 {g : Gr} (hc : CheckG g) {s : Int} (h : symB g s = true) : wideI s := by
  have := (symB_iff g s).1 h
  have := hc.t8; have := hc.n8
  unfold symOk at *; unfold wideI; omega
theorem trees_plain {g : Gr} {root : Int} {u : List Int} {m : Int} (hA : AskP g root u m) {k : Nat} {ts : List Tl} (hp : ts.map (fun t => [t.plain]) = (all g.prods u (wholeJ u root)).take k) : ∀ t ∈ ts, checkT g t.plain root = true ∧ leavesT t.plain = u ∧ sizeT t.plain ≤ 1000000000 ∧ mildT t.plain := fun t ht => by
  have h1 : [t.plain] ∈ ts.map (fun t => [t.plain]) := List.mem_map_of_mem (f := fun t => [t.plain]) ht
  rw [hp] at h1
  have h2 := List.mem_of_mem_take h1
  obtain ⟨t', e, h3, h4⟩ := all_tree g u hA.2.2.2.2.2 root _ h2
  injection e with e
  rw [← e] at h3 h4
  exact ⟨h3, h4, all_size g u (okD_of hA).six root hA.2.2.1 _ h2 _ (List.mem_singleton.2 rfl), tiny_mild _ (check_tinyT hA.1 _ _ h3)⟩
theorem trees_more {AL : List (List Tr)} {k k' : Nat} {ts us : List Tl} (hk : k ≤ k') (hp : ts.map (fun t => [t.plain]) = AL.take k) (hq : us.map (fun t => [t.plain]) = AL.take k') {j : Nat} {t u : Tl} (hj : ts[j]? = some t) (hu : us[j]? = some u) : t.plain = u.plain := by
  have h1 : (ts.map (fun t => [t.plain]))[j]? = some [t.plain] := by rw [List.getElem?_map, hj]; rfl
  have h2 : (us.map (fun t => [t.plain]))[j]? = some [u.plain] := by rw [List.getElem?_map, hu]; rfl
  rw [hp, List.getElem?_take] at h1
  rw [hq, List.getElem?_take] at h2
  split at h1
  · split at h2
    · rw [h1] at h2; injection h2 with h2; injection h2
    · cases h2
  · cases h1
theorem trees_len {AL : List (List Tr)} {k : Nat} {ts : List Tl} (hp : ts.map (fun t => [t.plain]) = AL.take k) : ts.length = min k AL.length := by
  have := congrArg List.length hp
  rwa [List.length_map, List.length_take] at this
theorem can_trees {g : Gr} {root : Int} {u : List Int} {m : Int} (hA : AskP g root u m) {k : Nat} (hk : 0 < k) {ts : List Tl} (hp : ts.map (fun t => [t.plain]) = (all g.prods u (wholeJ u root)).take k) : canB g root u = decide (0 < ts.length) := by
  have hl := trees_len hp
  have hA1 : AskP g root u 1 := ⟨hA.1, hA.2.1, hA.2.2.1, by omega, by omega, hA.2.2.2.2.2⟩
  rw [Bool.eq_iff_iff, canB_iff, decide_eq_true_eq, ← all_iff g.prods u (okD_of hA).six]
  constructor
  · rintro ⟨_, h⟩
    have := List.length_pos_iff.2 h
    omega
  · intro h
    exact ⟨hA1, fun e => by rw [e, List.length_nil, Nat.min_zero] at hl; omega⟩
/-- Trees, of what may be asked. -/
theorem trees_ask {g : Gr} {v : Value} {root : Int} {wa : Option Addr} {wc : Nat} {u : List Int} {m : Nat} {w : World} (hA : AskP g root u m) (hg : GramAt w v g) (hu : Cells w wa (nums u)) :
    Calls Try.prog 14 #[v, .int .i64 root, .slice wa u.length wc, .int .i64 m] w fun e w' => Below w.heap.size w w' ∧ ∃ (a : Option Addr) (c : Nat) (ts : List Tl), e = .returned (.tuple #[.slice a ts.length c, .int .i64 0]) ∧ Cells w' a (tls ts) ∧ ts.length ≤ c ∧ (∀ t ∈ ts, Lies (fun b => w.heap.size ≤ b) w' t) ∧ ts.map (fun t => [t.plain]) = (all g.prods u (wholeJ u root)).take m :=
  (trees_calls v g root wa wc u m w hg (check_tiny hA.1).mid (sym_wide2 hA.1 hA.2.1) hu (by have := hA.2.2.1; omega) (fun s hs => sym_wide2 hA.1 (hA.2.2.2.2.2 s hs))).mono fun e w' ⟨h, hb⟩ => by
    unfold TreesEnd at h
    rw [askB_true hA, if_pos rfl] at h
    obtain ⟨a, c, ts, h1, h2, h3, h4⟩ := h
    exact ⟨hb, a, c, ts, h1, (own_cells h2).1, (own_cells h2).2, h3, h4⟩
/-- A tree of a row. -/
theorem tls_get {W : World} {a : Option Addr} {ts : List Tl} (h : Cells W a (tls ts)) {j : Nat} {t : Tl} (hj : ts[j]? = some t) : ∃ b off, a = some ⟨b, off, none⟩ ∧ b < W.heap.size ∧ W.cell? ⟨b, off + j * 3, none⟩ = some (.int .i64 t.sym) ∧ W.cell? ⟨b, off + j * 3 + 1, none⟩ = some (.int .i64 t.prod) ∧ W.cell? ⟨b, off + j * 3 + 2, none⟩ = some (.slice t.a t.kids.length t.c) := by
  obtain ⟨h1, h2, h3⟩ := tls_at ts j t hj
  obtain ⟨b, off, e, hl, hc⟩ := h.get (by intro e; rw [e] at h1; simp at h1)
  exact ⟨b, off, e, hl, hc _ _ h1, by rw [Nat.add_assoc]; exact hc _ _ h2, by rw [Nat.add_assoc]; exact hc _ _ h3⟩
end Go.Proofs.Ytgfkkbpnphbdgaa

set_option linter.unusedVariables false
namespace Go.Proofs.Ytgfkkbpnphbdgaa
open Go.RowKit

theorem size_int (w : World) : (sizeOf 3).run Try.prog w = .ok 1 w := by kernel_rfl
theorem und_int : Try.prog.underlying 3 = some (.int .i64) := by kernel_rfl
theorem und_arr3 : Try.prog.underlying 97 = some (.array 3 3) := by kernel_rfl
theorem part3 (a b c : Int) (w : World) : (part 3 #[.int .i64 a, .int .i64 b, .int .i64 c] (0 * 1)).run Try.prog w = .ok (.int .i64 a) w ∧ (part 3 #[.int .i64 a, .int .i64 b, .int .i64 c] (1 * 1)).run Try.prog w = .ok (.int .i64 b) w ∧ (part 3 #[.int .i64 a, .int .i64 b, .int .i64 c] (2 * 1)).run Try.prog w = .ok (.int .i64 c) w := by
  refine ⟨?_, ?_, ?_⟩ <;> simp [part, isAgg, run_underlying und_int]
theorem equal3 (d : Nat) (a b c x y z : Int) (w : World) : (Op.equalIn (d + 2) 97 (.agg #[.int .i64 a, .int .i64 b, .int .i64 c]) (.agg #[.int .i64 x, .int .i64 y, .int .i64 z])).run Try.prog w = .ok ((a == x) && ((b == y) && (c == z))) w := by
  have pe : ∀ u v : Int, (Op.equalIn (d + 1) 3 (.int .i64 u) (.int .i64 v)).run Try.prog w = .ok (u == v) w := fun u v => run_equalIn_int w d _ .i64 .i64 u v und_int
  have e1 := pe a x
  have e2 := pe b y
  have e3 := pe c z
  generalize (a == x) = r at *
  generalize (b == y) = s at *
  generalize (c == z) = t at *
  clear pe
  obtain ⟨p0, p1, p2⟩ := part3 a b c w
  obtain ⟨q0, q1, q2⟩ := part3 x y z w
  rw [Op.equalIn]
  simp only [Sem.run_bind, run_underlying und_arr3, Result.andThen_ok, size_int, Std.Legacy.Range.forIn_eq_forIn_range', Std.Legacy.Range.size, Nat.sub_zero, Nat.add_sub_cancel, Nat.div_one]
  rw [show List.range' 0 3 1 = [0, 1, 2] from rfl]
  simp only [List.forIn_cons, List.forIn_nil, Sem.run_bind, p0, q0, e1, Result.andThen_ok]
  cases r <;> cases s <;> cases t <;> simp [p1, p2, q1, q2, e2, e3]
theorem eql3 (a b c x y z : Int) (w : World) : (binOp .eql 97 (.agg #[.int .i64 a, .int .i64 b, .int .i64 c]) (.agg #[.int .i64 x, .int .i64 y, .int .i64 z])).run Try.prog w = .ok (.bool ((a == x) && ((b == y) && (c == z)))) w := by
  rw [run_eql_struct, equal3 9998]
  rfl

end Go.Proofs.Ytgfkkbpnphbdgaa

set_option linter.unusedVariables false
set_option linter.unusedSimpArgs false
namespace Go.Proofs.Ytgfkkbpnphbdgaa
open Go.RowKit
open Doc Dr

theorem infoK3 : (Try.prog.info? 97).map (fun i => (i.zero, i.size, i.bytes)) = some (some (.agg #[.int .i64 0, .int .i64 0, .int .i64 0]), 3, 24) := by kernel_rfl
/-- Keys, three cells each. -/
def key3 (k : Key) : List Value := [.int .i64 k.1, .int .i64 k.2.1, .int .i64 k.2.2]
def keys (l : List Key) : List Value := l.flatMap key3
theorem keys_len (l : List Key) : (keys l).length = l.length * 3 := by
  induction l with
  | nil => rfl
  | cons t l ih => simp only [keys, List.flatMap_cons, List.length_append, List.length_cons] at *; rw [ih]; simp [key3]; omega
theorem keys_app (a b : List Key) : keys (a ++ b) = keys a ++ keys b := by simp [keys]
theorem keys_at : ∀ (l : List Key) (j : Nat) (t : Key), l[j]? = some t → (keys l)[j * 3]? = some (.int .i64 t.1) ∧ (keys l)[j * 3 + 1]? = some (.int .i64 t.2.1) ∧ (keys l)[j * 3 + 2]? = some (.int .i64 t.2.2)
  | [], j, t, h => by simp at h
  | u :: l, 0, t, h => by
    simp at h; subst h
    simp [keys, key3]
  | u :: l, j + 1, t, h => by
    have ih := keys_at l j t (by simpa using h)
    have e : keys (u :: l) = .int .i64 u.1 :: .int .i64 u.2.1 :: .int .i64 u.2.2 :: keys l := rfl
    rw [e, show (j + 1) * 3 = j * 3 + 1 + 1 + 1 by omega]
    exact ⟨ih.1, ih.2.1, ih.2.2⟩
/-- What stands above, in memory. -/
structure UpAt (W : World) (a : Option Addr) (c : Nat) (up : List Key) : Prop where
  cells : Cells W a (keys up)
  cap : up.length ≤ c
  none_ : a = none → c = 0
theorem UpAt.below {W W' : World} {a : Option Addr} {c : Nat} {up : List Key} (h : UpAt W a c up) (hb : Below W.heap.size W W') : UpAt W' a c up := ⟨h.cells.below hb, h.cap, h.none_⟩
theorem UpAt.get {W : World} {a : Option Addr} {c : Nat} {up : List Key} (h : UpAt W a c up) {j : Nat} {k : Key} (hj : up[j]? = some k) : ∃ b off, a = some ⟨b, off, none⟩ ∧ b < W.heap.size ∧ W.cell? ⟨b, off + j * 3, none⟩ = some (.int .i64 k.1) ∧ W.cell? ⟨b, off + j * 3 + 1, none⟩ = some (.int .i64 k.2.1) ∧ W.cell? ⟨b, off + j * 3 + 2, none⟩ = some (.int .i64 k.2.2) := by
  obtain ⟨h1, h2, h3⟩ := keys_at up j k hj
  obtain ⟨b, off, e, hl, hc⟩ := h.cells.get (by intro e; rw [e] at h1; simp at h1)
  exact ⟨b, off, e, hl, hc _ _ h1, by rw [Nat.add_assoc]; exact hc _ _ h2, by rw [Nat.add_assoc]; exact hc _ _ h3⟩
/-- What the append of a key to what stands above wants. -/
theorem UpAt.olds {W : World} {a : Option Addr} {c : Nat} {up : List Key} (h : UpAt W a c up) : ∀ b, a = some b → ∀ j u, (keys up)[j]? = some u → W.cell? (b.add j) = some u := by
  intro b hb j u hj
  obtain ⟨g, off, e, hl, hc⟩ := h.cells.get (by intro e; rw [e] at hj; simp at hj)
  rw [hb] at e
  injection e with e
  subst e
  have := hc j u hj
  unfold Addr.add
  split
  · rename_i h0; rw [h0] at this; exact this
  · exact this
theorem upAt_of {W : World} {B : Nat} {v : Value} {n : Nat} {up : List Key} (h : W.ownsRow B 97 3 v n (keys up)) (hn : up.length = n) : ∃ a c, v = .slice a up.length c ∧ UpAt W a c up := by
  subst hn
  rcases h.2 with ⟨e, h0⟩ | ⟨g, cap, cur, e, _⟩
  · have : up = [] := List.eq_nil_of_length_eq_zero h0
    subst this
    exact ⟨none, 0, e, .inl rfl, Nat.le_refl _, fun _ => rfl⟩
  · subst e
    exact ⟨_, cap, rfl, (own_cells h).1, (own_cells h).2, fun h => by cases h⟩

end Go.Proofs.Ytgfkkbpnphbdgaa
