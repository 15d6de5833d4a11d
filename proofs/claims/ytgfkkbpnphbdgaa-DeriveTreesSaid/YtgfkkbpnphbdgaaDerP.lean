/- derive's plain lists: each of them is a derivation with those leaves, none is there twice. No program here. A derivation is plain just where it is one of all: plain. No program here. What derive's Trees gives, in plain words. Arrays of three integers, compared. The law's own plain: whether no symbol stands under itself with the same leaves. -/
import Derived.Test.YtgfkkbpnphbdgaaDerA
import Derived.Test.YtgfkkbpnphbdgaaDerTs
import Derived.Test.YtgfkkbpnphbdgaaTreeQ
import Derived.Test.YtgfkkbpnphbdgaaLeafs
import GoSem.ClaimStop
import Derived.Laws.StructEq
import Derived.Test.YtgfkkbpnphbdgaaTreeD
import Derived.Deep.RegionLawGrows
import Derived.Deep.Cut
import Derived.Deep.RegionLaw
set_option linter.unusedVariables false
set_option linter.unusedSimpArgs false
namespace Go.Proofs.Ytgfkkbpnphbdgaa.Dr
open Doc

theorem nodup_flat {α β : Type} {f : α → List β} : ∀ {l : List α}, l.Nodup → (∀ x ∈ l, (f x).Nodup) → (∀ x ∈ l, ∀ y ∈ l, ∀ z, z ∈ f x → z ∈ f y → x = y) → (l.flatMap f).Nodup
  | [], _, _, _ => by simp
  | x :: l, h1, h2, h3 => by
    rw [List.nodup_cons] at h1
    rw [List.flatMap_cons, List.nodup_append]
    refine ⟨h2 x List.mem_cons_self, nodup_flat h1.2 (fun y hy => h2 y (List.mem_cons_of_mem _ hy)) (fun y hy z hz => h3 y (List.mem_cons_of_mem _ hy) z (List.mem_cons_of_mem _ hz)), ?_⟩
    rintro a ha b hb rfl
    obtain ⟨y, hy, hay⟩ := List.mem_flatMap.1 hb
    have := h3 x List.mem_cons_self y (List.mem_cons_of_mem _ hy) a ha hay
    subst this
    exact h1.1 hy
theorem nodup_mapi {α β : Type} {f : α → β} : ∀ {l : List α}, l.Nodup → (∀ x ∈ l, ∀ y ∈ l, f x = f y → x = y) → (l.map f).Nodup
  | [], _, _ => by simp
  | x :: l, h1, h2 => by
    rw [List.nodup_cons] at h1
    rw [List.map_cons, List.nodup_cons]
    refine ⟨fun h => ?_, nodup_mapi h1.2 fun y hy z hz => h2 y (List.mem_cons_of_mem _ hy) z (List.mem_cons_of_mem _ hz)⟩
    obtain ⟨y, hy, e⟩ := List.mem_map.1 h
    have := h2 x List.mem_cons_self y (List.mem_cons_of_mem _ hy) e.symm
    subst this
    exact h1.1 hy
theorem nodup_filterD {α : Type} (p : α → Bool) {l : List α} (h : l.Nodup) : (l.filter p).Nodup := List.Pairwise.sublist List.filter_sublist h
theorem nodup_rangeD (n : Nat) : (List.range n).Nodup := List.nodup_range
variable (g : Gr) (w : List Int)
/-- What each of a job is. -/
def TreeIs (j : Job) (l : List Tr) : Prop := match j with
  | .goal sym s => ∃ t, l = [t] ∧ checkT g t sym = true ∧ leavesT t = seg w s.a s.b
  | .row p d s => checkK g l ((g.prods.getD p (0, [])).2.drop d) = true ∧ l.length = (g.prods.getD p (0, [])).2.length - d ∧ leavesK l = seg w s.a s.b
def RowIn (j : Job) : Prop := match j with | .goal _ _ => True | .row p _ _ => p < g.prods.length
theorem lst_tree (hw : ∀ x ∈ w, symB g x = true) : ∀ (f : Nat) (j : Job), Fit j → RowIn g j → ∀ l ∈ lst g.prods w f j, TreeIs g w j l
  | 0, j, _, _, l, h => by simp [lst] at h
  | f + 1, .goal sym s, hj, _, l, h => by
    simp only [lst] at h
    by_cases h1 : hasA s.ab sym = true
    · rw [if_pos h1] at h; cases h
    · rw [if_neg h1] at h
      by_cases h2 : s.b = s.a + 1 ∧ w[s.a]? = some sym
      · rw [if_pos h2] at h
        rw [List.mem_singleton.1 h]
        refine ⟨_, rfl, ?_, ?_⟩
        · have := hw sym (List.mem_of_getElem? h2.2)
          simp [checkT, this]
        · rw [h2.1, seg_one w h2.2]; simp [leavesT]
      · rw [if_neg h2] at h
        obtain ⟨k, hk, h⟩ := List.mem_flatMap.1 h
        obtain ⟨ks, hks, rfl⟩ := List.mem_map.1 h
        obtain ⟨hk1, hk2⟩ := mem_prodsOf.1 hk
        obtain ⟨c1, c2, c3⟩ := lst_tree hw f (.row k 0 ⟨s.a, s.b, withA s.ab sym⟩) (fit_with hj) hk1 ks hks
        have hgk : g.prods[k]? = some (g.prods.getD k (0, [])) := by rw [List.getD_eq_getElem?_getD, List.getElem?_eq_getElem hk1]; rfl
        have e1 : ¬ (k : Int) = -1 := by omega
        have e2 : ¬ (k : Int) < 0 := by omega
        rw [List.drop_zero] at c1
        refine ⟨_, rfl, ?_, ?_⟩
        · simp only [checkT, if_true, if_neg e1, if_neg e2, Int.toNat_natCast, hgk]
          rw [if_pos ⟨hk2, by omega⟩]
          exact c1
        · simp only [leavesT, if_neg e1]; exact c3
  | f + 1, .row p d s, hj, hp, l, h => by
    have hab : s.ab.length = 8 := hj.ab
    have hle : s.a ≤ s.b := hj.le
    simp only [lst] at h
    by_cases h1 : (g.prods.getD p (0, [])).2.length ≤ d
    · rw [if_pos h1] at h
      by_cases h2 : s.a = s.b
      · rw [if_pos h2] at h
        rw [List.mem_singleton.1 h]
        exact ⟨by simp [checkK], by rw [List.length_nil]; omega, by rw [h2, seg_self]; rfl⟩
      · rw [if_neg h2] at h; cases h
    · rw [if_neg h1] at h
      obtain ⟨n, hn, h⟩ := List.mem_flatMap.1 h
      obtain ⟨t, ht, h⟩ := List.mem_flatMap.1 h
      obtain ⟨ks, hks, rfl⟩ := List.mem_map.1 h
      rw [List.mem_range] at hn
      obtain ⟨t, rfl, b1, b2⟩ := lst_tree hw f (.goal ((g.prods.getD p (0, [])).2.getD d 0) (fst_ s n)) ⟨fit_fst hab, by show s.a ≤ s.a + n; omega⟩ trivial t ht
      obtain ⟨c1, c2, c3⟩ := lst_tree hw f (.row p (d + 1) (snd_ s n)) ⟨fit_snd hab, by show s.a + n ≤ s.b; omega⟩ hp ks hks
      have hdl : d < (g.prods.getD p (0, [])).2.length := by omega
      have hy : (g.prods.getD p (0, [])).2.getD d 0 = (g.prods.getD p (0, [])).2[d] := by rw [List.getD_eq_getElem?_getD, List.getElem?_eq_getElem hdl]; rfl
      refine ⟨?_, ?_, ?_⟩
      · rw [List.drop_eq_getElem_cons hdl]
        rw [hy] at b1
        simp only [List.singleton_append, checkK, b1, Bool.true_and]
        exact c1
      · simp only [List.singleton_append, List.length_cons]; omega
      · simp only [List.singleton_append, leavesK]
        rw [seg_join w (show s.a ≤ s.a + n by omega) (show s.a + n ≤ s.b by omega)]
        have b2' : leavesT t = seg w s.a (s.a + n) := b2
        have c3' : leavesK ks = seg w (s.a + n) s.b := c3
        rw [b2', c3']
theorem lst_nodup (hw : ∀ x ∈ w, symB g x = true) : ∀ (f : Nat) (j : Job), Fit j → RowIn g j → j.span.b ≤ w.length → (lst g.prods w f j).Nodup
  | 0, j, _, _, _ => by simp [lst]
  | f + 1, .goal sym s, hj, _, hb => by
    simp only [lst]
    by_cases h1 : hasA s.ab sym = true
    · rw [if_pos h1]; simp
    · rw [if_neg h1]
      by_cases h2 : s.b = s.a + 1 ∧ w[s.a]? = some sym
      · rw [if_pos h2]; simp
      · rw [if_neg h2]
        refine nodup_flat (nodup_filterD _ (nodup_rangeD _)) (fun k hk => ?_) (fun k hk k' hk' z hz hz' => ?_)
        · exact nodup_mapi (lst_nodup hw f (.row k 0 ⟨s.a, s.b, withA s.ab sym⟩) (fit_with hj) (mem_prodsOf.1 hk).1 hb) (fun x _ y _ e => by injection e with e; injection e)
        · obtain ⟨x, _, rfl⟩ := List.mem_map.1 hz
          obtain ⟨y, _, e⟩ := List.mem_map.1 hz'
          injection e with e
          injection e with e1 e2 e3
          omega
  | f + 1, .row p d s, hj, hp, hb => by
    have hab : s.ab.length = 8 := hj.ab
    have hle : s.a ≤ s.b := hj.le
    have hb' : s.b ≤ w.length := hb
    simp only [lst]
    by_cases h1 : (g.prods.getD p (0, [])).2.length ≤ d
    · rw [if_pos h1]
      split <;> simp
    · rw [if_neg h1]
      have key : ∀ n, n < s.b - s.a + 1 → ∀ t ∈ lst g.prods w f (.goal ((g.prods.getD p (0, [])).2.getD d 0) (fst_ s n)), ∃ t', t = [t'] ∧ (leavesT t').length = n := fun n hn t ht => by
        obtain ⟨t, rfl, _, b2⟩ := lst_tree g w hw f (.goal ((g.prods.getD p (0, [])).2.getD d 0) (fst_ s n)) ⟨fit_fst hab, by show s.a ≤ s.a + n; omega⟩ trivial t ht
        refine ⟨t, rfl, ?_⟩
        have b2' : leavesT t = seg w s.a (s.a + n) := b2
        rw [b2', seg_len w (by omega) (by omega)]; omega
      refine nodup_flat (nodup_rangeD _) (fun n hn => ?_) (fun n hn n' hn' z hz hz' => ?_)
      · rw [List.mem_range] at hn
        refine nodup_flat (lst_nodup hw f (.goal ((g.prods.getD p (0, [])).2.getD d 0) (fst_ s n)) ⟨fit_fst hab, by show s.a ≤ s.a + n; omega⟩ trivial (by show s.a + n ≤ w.length; omega)) (fun t ht => ?_) (fun t ht t' ht' z hz hz' => ?_)
        · exact nodup_mapi (lst_nodup hw f (.row p (d + 1) (snd_ s n)) ⟨fit_snd hab, by show s.a + n ≤ s.b; omega⟩ hp hb) (fun x _ y _ e => List.append_cancel_left e)
        · obtain ⟨u, rfl, _⟩ := key n hn t ht
          obtain ⟨u', rfl, _⟩ := key n hn t' ht'
          obtain ⟨x, _, rfl⟩ := List.mem_map.1 hz
          obtain ⟨y, _, e⟩ := List.mem_map.1 hz'
          injection e with e1 e2
          rw [e1]
      · rw [List.mem_range] at hn hn'
        obtain ⟨t, ht, hz⟩ := List.mem_flatMap.1 hz
        obtain ⟨t', ht', hz'⟩ := List.mem_flatMap.1 hz'
        obtain ⟨u, rfl, l1⟩ := key n hn t ht
        obtain ⟨u', rfl, l2⟩ := key n' hn' t' ht'
        obtain ⟨x, _, rfl⟩ := List.mem_map.1 hz
        obtain ⟨y, _, e⟩ := List.mem_map.1 hz'
        injection e with e1 e2
        rw [← l1, ← l2, e1]
/-- Of the whole form. -/
theorem all_tree (hw : ∀ x ∈ w, symB g x = true) (root : Int) : ∀ l ∈ all g.prods w (wholeJ w root), ∃ t, l = [t] ∧ checkT g t root = true ∧ leavesT t = w := fun l hl => by
  obtain ⟨t, h1, h2, h3⟩ := lst_tree g w hw _ (wholeJ w root) (fit_whole w root) trivial l hl
  refine ⟨t, h1, h2, ?_⟩
  have h3' : leavesT t = seg w 0 w.length := h3
  rw [h3']; unfold seg; simp
theorem all_nodup (hw : ∀ x ∈ w, symB g x = true) (root : Int) : (all g.prods w (wholeJ w root)).Nodup := lst_nodup g w hw _ (wholeJ w root) (fit_whole w root) trivial (Nat.le_refl _)
/-! ### How great they are -/
def emp : Nat → Nat
  | 0 => 0
  | k + 1 => 1 + 6 * emp k
theorem emp_mono : ∀ {k k' : Nat}, k ≤ k' → emp k ≤ emp k' := by
  intro k k' h
  induction h with
  | refl => exact Nat.le_refl _
  | step h ih => rw [emp]; omega
/-- A bound of a job's trees. -/
def bndJ : Job → Nat
  | .goal _ s => if s.a = s.b then emp (free s.ab) else 2015539 * (17 * (s.b - s.a) + free s.ab - 16)
  | .row p d s => ((g.prods.getD p (0, [])).2.length - d) * (if s.a = s.b then emp (free s.ab) else 335923) + if s.a = s.b then 0 else 2015539 * (17 * (s.b - s.a) + free s.ab - 16)
theorem lst_size (h6 : Six g.prods) : ∀ (f : Nat) (j : Job), Fit j → ∀ l ∈ lst g.prods w f j, sizeK l ≤ bndJ g j
  | 0, j, _, l, h => by simp [lst] at h
  | f + 1, .goal sym s, hj, l, h => by
    have hab : s.ab.length = 8 := hj.ab
    have hle : s.a ≤ s.b := hj.le
    have hf8 := free_le s.ab
    simp only [lst] at h
    by_cases h1 : hasA s.ab sym = true
    · rw [if_pos h1] at h; cases h
    · rw [if_neg h1] at h
      by_cases h2 : s.b = s.a + 1 ∧ w[s.a]? = some sym
      · rw [if_pos h2] at h
        rw [List.mem_singleton.1 h]
        show sizeK _ ≤ if s.a = s.b then emp (free s.ab) else 2015539 * (17 * (s.b - s.a) + free s.ab - 16)
        rw [if_neg (by omega)]
        simp only [sizeK, sizeT]
        omega
      · rw [if_neg h2] at h
        obtain ⟨k, hk, h⟩ := List.mem_flatMap.1 h
        obtain ⟨ks, hks, rfl⟩ := List.mem_map.1 h
        have ih := lst_size h6 f (.row k 0 ⟨s.a, s.b, withA s.ab sym⟩) (fit_with hj) ks hks
        have hs := sym_in h6 hk
        have hl6 := h6.len k
        have hfr : free (withA s.ab sym) + 1 = free s.ab := by
          unfold hasA at h1
          rw [decide_eq_true hs.1, Bool.true_and] at h1
          exact free_set s.ab (sym - 100).toNat (by omega) (by simpa using h1)
        unfold bndJ at ih ⊢
        simp only [sizeK, sizeT] at ih ⊢
        generalize (g.prods.getD k (0, [])).2.length = L at *
        by_cases e : s.a = s.b
        · rw [if_pos e, if_pos e] at ih
          rw [if_pos e, ← hfr, emp]
          have := Nat.mul_le_mul_right (emp (free (withA s.ab sym))) (show L - 0 ≤ 6 by omega)
          omega
        · rw [if_neg e, if_neg e] at ih
          rw [if_neg e]
          have := Nat.mul_le_mul_right 335923 (show L - 0 ≤ 6 by omega)
          have e2 : 17 * (s.b - s.a) + free s.ab - 16 = (17 * (s.b - s.a) + free (withA s.ab sym) - 16) + 1 := by omega
          rw [e2, Nat.mul_add]
          omega
  | f + 1, .row p d s, hj, l, h => by
    have hab : s.ab.length = 8 := hj.ab
    have hle : s.a ≤ s.b := hj.le
    have hf8 := free_le s.ab
    simp only [lst] at h
    by_cases h1 : (g.prods.getD p (0, [])).2.length ≤ d
    · rw [if_pos h1] at h
      by_cases h2 : s.a = s.b
      · rw [if_pos h2] at h
        rw [List.mem_singleton.1 h]; simp [sizeK]
      · rw [if_neg h2] at h; cases h
    · rw [if_neg h1] at h
      obtain ⟨n, hn, h⟩ := List.mem_flatMap.1 h
      obtain ⟨t, ht, h⟩ := List.mem_flatMap.1 h
      obtain ⟨ks, hks, rfl⟩ := List.mem_map.1 h
      rw [List.mem_range] at hn
      have i1 := lst_size h6 f (.goal ((g.prods.getD p (0, [])).2.getD d 0) (fst_ s n)) ⟨fit_fst hab, by show s.a ≤ s.a + n; omega⟩ t ht
      have i2 := lst_size h6 f (.row p (d + 1) (snd_ s n)) ⟨fit_snd hab, by show s.a + n ≤ s.b; omega⟩ ks hks
      rw [sizeK_app]
      unfold bndJ at *
      unfold fst_ at i1
      unfold snd_ at i2
      simp only at i1 i2 ⊢
      obtain ⟨r, hr⟩ : ∃ r, (g.prods.getD p (0, [])).2.length - d = r + 1 := ⟨(g.prods.getD p (0, [])).2.length - d - 1, by omega⟩
      have hr2 : (g.prods.getD p (0, [])).2.length - (d + 1) = r := by omega
      rw [hr, Nat.succ_mul]
      rw [hr2] at i2
      have h8e : emp 8 = 335923 := by decide
      have he8 : emp (free s.ab) ≤ 335923 := by rw [← h8e]; exact emp_mono (by omega)
      have hf0 := free_none
      by_cases e : s.a = s.b
      · obtain rfl : n = 0 := by omega
        simp only [Nat.add_zero, if_pos e, if_true] at i1 i2 ⊢
        omega
      · rw [if_neg e, if_neg e]
        by_cases e0 : n = 0
        · subst e0
          simp only [Nat.add_zero, if_neg e, if_true] at i1 i2
          rw [hf0, h8e] at i1
          omega
        · rw [if_neg (show ¬ s.a = s.a + n by omega)] at i1
          rw [if_neg e0] at i2
          by_cases en : s.a + n = s.b
          · rw [if_pos en, show s.a + n - s.a = s.b - s.a by omega] at i1
            rw [if_pos en, if_pos en, hf0, h8e] at i2
            omega
          · rw [if_neg en, hf0, show s.a + n - s.a = n by omega] at i1
            rw [if_neg en, if_neg en, hf0] at i2
            have e3 : (17 * n + 8 - 16) + (17 * (s.b - (s.a + n)) + 8 - 16) ≤ 17 * (s.b - s.a) + free s.ab - 16 := by omega
            have := Nat.mul_le_mul_left 2015539 e3
            rw [Nat.mul_add] at this
            omega
theorem all_size (h6 : Six g.prods) (root : Int) (hl : w.length ≤ 12) : ∀ l ∈ all g.prods w (wholeJ w root), ∀ t ∈ l, sizeT t ≤ 1000000000 := fun l hlm t ht => by
  have h1 := lst_size g w h6 _ (wholeJ w root) (fit_whole w root) l hlm
  have h2 := sizeK_mem ht
  have h8e : emp 8 = 335923 := by decide
  have h3 : bndJ g (wholeJ w root) ≤ 1000000000 := by
    unfold bndJ wholeJ
    simp only
    rw [free_none, h8e]
    split
    · omega
    · have := Nat.mul_le_mul_left 2015539 (show 17 * (w.length - 0) + 8 - 16 ≤ 196 by omega)
      omega
  omega
end Go.Proofs.Ytgfkkbpnphbdgaa.Dr

set_option linter.unusedVariables false
set_option linter.unusedSimpArgs false
namespace Go.Proofs.Ytgfkkbpnphbdgaa.Dr
open Doc

abbrev Key := Int × Nat × Nat
mutual
def plainB : Tr → List Key → Nat → Bool
  | .mk s p ks, up, fr => if (s, fr, fr + (leavesT (.mk s p ks)).length) ∈ up then false else plainK ks (up ++ [(s, fr, fr + (leavesT (.mk s p ks)).length)]) fr
def plainK : List Tr → List Key → Nat → Bool
  | [], _, _ => true
  | t :: l, up, fr => plainB t up fr && plainK l up (fr + (leavesT t).length)
end
theorem plain_bad (x : Int) (t : Tr) : ∀ (up : List Key) (i : Nat), (x, i, i + 1) ∈ up → leavesT t = [x] → plainB t up i = false := by
  induction t using Tr.ind with
  | h s p ks ih =>
    intro up i hu hl
    rw [plainB, hl, show [x].length = 1 from rfl]
    by_cases hp : p = -1
    · rw [leavesT, if_pos hp] at hl
      injection hl with hl
      rw [hl, if_pos hu]
    · rw [leavesT, if_neg hp] at hl
      have hu2 : (x, i, i + 1) ∈ up ++ [(s, i, i + 1)] := List.mem_append_left _ hu
      have aux : ∀ (l : List Tr), (∀ k ∈ l, ∀ (up : List Key) (i : Nat), (x, i, i + 1) ∈ up → leavesT k = [x] → plainB k up i = false) → leavesK l = [x] → plainK l (up ++ [(s, i, i + 1)]) i = false := by
        intro l
        induction l with
        | nil => intro _ h; simp [leavesK] at h
        | cons k l ihl =>
          intro hk h
          rw [leavesK] at h
          rw [plainK]
          cases hkl : leavesT k with
          | nil =>
            rw [hkl] at h
            show (_ && plainK l (up ++ [(s, i, i + 1)]) i) = false
            rw [ihl (fun k hkm => hk k (List.mem_cons_of_mem _ hkm)) h, Bool.and_false]
          | cons y r =>
            rw [hkl, List.cons_append] at h
            injection h with h1 h2
            have hr : r = [] := (List.append_eq_nil_iff.1 h2).1
            subst h1; subst hr
            rw [hk k List.mem_cons_self _ i hu2 hkl, Bool.false_and]
      split
      · rfl
      · exact aux ks ih hl
variable (g : Gr) (w : List Int)
/-- What stands above, in both ways. -/
structure Ups (up : List Key) (s : Spn) : Prop where
  has : ∀ y, hasA s.ab y = true ↔ (y, s.a, s.b) ∈ up
  far : ∀ k ∈ up, k.2.1 ≤ s.a ∧ s.b ≤ k.2.2
theorem Ups.fst {up : List Key} {s : Spn} (h : Ups up s) {n : Nat} (hn : n ≤ s.b - s.a) (hl : s.a ≤ s.b) : Ups up (fst_ s n) := by
  unfold fst_
  by_cases e : s.a + n = s.b
  · rw [if_pos e, e]; exact ⟨h.has, h.far⟩
  · rw [if_neg e]
    refine ⟨fun y => ?_, fun k hk => ?_⟩
    · rw [hasA_none]
      constructor
      · intro h; cases h
      · intro hm
        have := (h.far _ hm).2
        simp only at this
        omega
    · have := h.far k hk
      simp only; omega
theorem Ups.snd {up : List Key} {s : Spn} (h : Ups up s) {n : Nat} (hn : n ≤ s.b - s.a) (hl : s.a ≤ s.b) : Ups up (snd_ s n) := by
  unfold snd_
  by_cases e : n = 0
  · subst e; rw [if_pos rfl, Nat.add_zero]; exact ⟨h.has, h.far⟩
  · rw [if_neg e]
    refine ⟨fun y => ?_, fun k hk => ?_⟩
    · rw [hasA_none]
      constructor
      · intro h; cases h
      · intro hm
        have := (h.far _ hm).1
        simp only at this
        omega
    · have := h.far k hk
      simp only; omega
theorem hasA_with_mk {ab : List Bool} {x y : Int} (h8 : ab.length = 8) (hx : 100 ≤ x ∧ x < 108) (h : y = x ∨ hasA ab y = true) : hasA (withA ab x) y = true := by
  unfold hasA withA at *
  rcases h with rfl | h
  · rw [decide_eq_true hx.1, Bool.true_and, List.getD_eq_getElem?_getD, List.getElem?_set, if_pos rfl, if_pos (by omega)]; rfl
  · rw [Bool.and_eq_true, decide_eq_true_eq] at h
    rw [decide_eq_true h.1, Bool.true_and, List.getD_eq_getElem?_getD, List.getElem?_set]
    split
    · rw [if_pos (by omega)]; rfl
    · have := h.2; rwa [List.getD_eq_getElem?_getD] at this
theorem Ups.with {up : List Key} {s : Spn} (h : Ups up s) {x : Int} (h8 : s.ab.length = 8) (hx : 100 ≤ x ∧ x < 108) : Ups (up ++ [(x, s.a, s.b)]) ⟨s.a, s.b, withA s.ab x⟩ := by
  refine ⟨fun y => ?_, fun k hk => ?_⟩
  · simp only
    rw [List.mem_append, List.mem_singleton, ← h.has]
    constructor
    · intro hy
      rcases hasA_with h8 hx hy with rfl | hy
      · exact .inr rfl
      · exact .inl hy
    · intro hy
      refine hasA_with_mk h8 hx ?_
      rcases hy with hy | hy
      · exact .inr hy
      · injection hy with h1 _; exact .inl h1
  · rcases List.mem_append.1 hk with hk | hk
    · exact h.far k hk
    · rw [List.mem_singleton.1 hk]; exact ⟨Nat.le_refl _, Nat.le_refl _⟩
theorem seg_parts {a b : Nat} {u v : List Int} (h1 : a ≤ b) (h2 : b ≤ w.length) (h : u ++ v = seg w a b) : u = seg w a (a + u.length) ∧ v = seg w (a + u.length) b ∧ u.length ≤ b - a := by
  have hl := seg_len w h1 h2
  rw [← h, List.length_append] at hl
  have hj := seg_join w (show a ≤ a + u.length by omega) (show a + u.length ≤ b by omega)
  rw [← h] at hj
  have hl2 := seg_len w (show a ≤ a + u.length by omega) (show a + u.length ≤ w.length by omega)
  exact ⟨List.append_inj_left hj (by omega), List.append_inj_right hj (by omega), by omega⟩
/-- Both at once. -/
def PlainIff (t : Tr) : Prop := ∀ (sym : Int) (s : Spn) (up : List Key), Fit (.goal sym s) → s.b ≤ w.length → Ups up s → checkT g t sym = true → leavesT t = seg w s.a s.b → (plainB t up s.a = true ↔ [t] ∈ all g.prods w (.goal sym s))
theorem plain_row (h6 : Six g.prods) (hw : ∀ x ∈ w, symB g x = true) (p : Nat) (hp : p < g.prods.length) : ∀ (ks : List Tr) (hk : ∀ k ∈ ks, PlainIff g w k) (d : Nat) (s : Spn) (up : List Key), Fit (.row p d s) → s.b ≤ w.length → Ups up s → checkK g ks ((g.prods.getD p (0, [])).2.drop d) = true → ks.length = (g.prods.getD p (0, [])).2.length - d → leavesK ks = seg w s.a s.b → (plainK ks up s.a = true ↔ ks ∈ all g.prods w (.row p d s)) := by
  intro ks
  induction ks with
  | nil =>
    intro _ d s up hf hb hu hc hl hs
    have hle : s.a ≤ s.b := hf.le
    rw [List.length_nil] at hl
    have := seg_len w hle hb
    rw [← hs, leavesK, List.length_nil] at this
    rw [plainK, all_row g.prods w h6 hf, if_pos (by omega), if_pos (by omega)]
    simp
  | cons k ks ih =>
    intro hk d s up hf hb hu hc hl hs
    have hab : s.ab.length = 8 := hf.ab
    have hle : s.a ≤ s.b := hf.le
    rw [List.length_cons] at hl
    have hdl : d < (g.prods.getD p (0, [])).2.length := by omega
    have hy : (g.prods.getD p (0, [])).2.getD d 0 = (g.prods.getD p (0, [])).2[d] := by rw [List.getD_eq_getElem?_getD, List.getElem?_eq_getElem hdl]; rfl
    rw [List.drop_eq_getElem_cons hdl, ← hy, checkK, Bool.and_eq_true] at hc
    rw [leavesK] at hs
    obtain ⟨s1, s2, s3⟩ := seg_parts w hle hb hs
    have q1 := hk k List.mem_cons_self _ (fst_ s (leavesT k).length) up ⟨fit_fst hab, by show s.a ≤ s.a + (leavesT k).length; omega⟩ (by show s.a + (leavesT k).length ≤ w.length; omega) (hu.fst s3 hle) hc.1 s1
    have q2 := ih (fun k' h => hk k' (List.mem_cons_of_mem _ h)) (d + 1) (snd_ s (leavesT k).length) up ⟨fit_snd hab, by show s.a + (leavesT k).length ≤ s.b; omega⟩ hb (hu.snd s3 hle) hc.2 (by omega) s2
    have q1' : plainB k up s.a = true ↔ _ := q1
    have q2' : plainK ks up (s.a + (leavesT k).length) = true ↔ _ := q2
    rw [plainK, Bool.and_eq_true, q1', q2', all_row g.prods w h6 hf, if_neg (by omega)]
    constructor
    · rintro ⟨h1, h2⟩
      exact List.mem_flatMap.2 ⟨(leavesT k).length, List.mem_range.2 (by omega), List.mem_flatMap.2 ⟨[k], h1, List.mem_map.2 ⟨ks, h2, rfl⟩⟩⟩
    · intro h
      obtain ⟨n, hn, h⟩ := List.mem_flatMap.1 h
      obtain ⟨t, ht, h⟩ := List.mem_flatMap.1 h
      obtain ⟨ks', hks, e⟩ := List.mem_map.1 h
      rw [List.mem_range] at hn
      obtain ⟨t, rfl, _, b2⟩ := lst_tree g w hw _ (.goal ((g.prods.getD p (0, [])).2.getD d 0) (fst_ s n)) ⟨fit_fst hab, by show s.a ≤ s.a + n; omega⟩ trivial t ht
      rw [List.singleton_append] at e
      injection e with e1 e2
      subst e1; subst e2
      have b2' : leavesT t = seg w s.a (s.a + n) := b2
      have : (leavesT t).length = n := by rw [b2', seg_len w (by omega) (by omega)]; omega
      rw [this]
      exact ⟨ht, hks⟩
theorem plain_iff (h6 : Six g.prods) (hw : ∀ x ∈ w, symB g x = true) (t : Tr) : PlainIff g w t := by
  induction t using Tr.ind with
  | h y p ks ih =>
    intro sym s up hf hb hu hc hs
    have hab : s.ab.length = 8 := hf.ab
    have hle : s.a ≤ s.b := hf.le
    have hlen : s.a + (leavesT (.mk y p ks)).length = s.b := by rw [hs, seg_len w hle hb]; omega
    have hbad := fun (hlf : s.b = s.a + 1 ∧ w[s.a]? = some sym) => plain_bad sym
    rw [checkT] at hc
    by_cases hy : y = sym
    · rw [if_pos hy] at hc
      subst hy
      rw [plainB, hlen, all_goal g.prods w h6 hf]
      by_cases hh : hasA s.ab y = true
      · rw [if_pos hh, if_pos ((hu.has y).1 hh)]; simp
      · rw [if_neg hh, if_neg (fun h => hh ((hu.has y).2 h))]
        by_cases hp : p = -1
        · rw [if_pos hp, Bool.and_eq_true] at hc
          rw [leavesT, if_pos hp] at hs
          have h1 := seg_len w hle hb
          rw [← hs] at h1
          have h2 : w[s.a]? = some y := by
            have : (seg w s.a s.b)[0]? = some y := by rw [← hs]; rfl
            unfold seg at this
            rw [List.getElem?_take, if_pos (by simp at h1; omega), List.getElem?_drop] at this
            simpa using this
          rw [if_pos ⟨by simp at h1; omega, h2⟩]
          have hk0 : ks = [] := List.isEmpty_iff.1 hc.1
          subst hk0; subst hp
          simp [plainK]
        · rw [if_neg hp] at hc
          by_cases hn : p < 0
          · rw [if_pos hn] at hc; cases hc
          · rw [if_neg hn] at hc
            obtain ⟨k, rfl⟩ : ∃ k : Nat, p = k := Int.eq_ofNat_of_zero_le (by omega)
            rw [Int.toNat_natCast] at hc
            cases hq : g.prods[k]? with
            | none => rw [hq] at hc; cases hc
            | some q =>
              rw [hq] at hc
              simp only at hc
              by_cases hc2 : q.1 = y ∧ q.2.length = ks.length
              · rw [if_pos hc2] at hc
                have hkl := (List.getElem?_eq_some_iff.1 hq).1
                have hgk : g.prods.getD k (0, []) = q := by rw [List.getD_eq_getElem?_getD, hq]; rfl
                have hkm : k ∈ prodsOf g.prods y := mem_prodsOf.2 ⟨hkl, by rw [hgk]; exact hc2.1⟩
                have hs' : leavesK ks = seg w s.a s.b := by rw [leavesT, if_neg hp] at hs; exact hs
                by_cases hlf : s.b = s.a + 1 ∧ w[s.a]? = some y
                · rw [if_pos hlf]
                  have hk1 : leavesK ks = [y] := by rw [hs', hlf.1, seg_one w hlf.2]
                  have hbad := plain_bad y (.mk y k ks) [(y, s.a, s.a + 1)] s.a (List.mem_singleton.2 rfl) (by rw [leavesT, if_neg hp]; exact hk1)
                  constructor
                  · intro h
                    exfalso
                    have aux : ∀ (l : List Tr) (up : List Key), (y, s.a, s.a + 1) ∈ up → leavesK l = [y] → plainK l up s.a = false := by
                      intro l
                      induction l with
                      | nil => intro _ _ h; simp [leavesK] at h
                      | cons k l ihl =>
                        intro up hu h
                        rw [leavesK] at h
                        rw [plainK]
                        cases hkl : leavesT k with
                        | nil =>
                          rw [hkl] at h
                          show (_ && plainK l up s.a) = false
                          rw [ihl up hu h, Bool.and_false]
                        | cons z r =>
                          rw [hkl, List.cons_append] at h
                          injection h with h1 h2
                          have hr : r = [] := (List.append_eq_nil_iff.1 h2).1
                          subst h1; subst hr
                          rw [plain_bad _ k up s.a hu hkl, Bool.false_and]
                    rw [aux ks _ (List.mem_append_right _ (by rw [hlf.1]; exact List.mem_singleton.2 rfl)) hk1] at h
                    cases h
                  · intro h
                    rw [List.mem_singleton] at h
                    injection h with h
                    injection h with _ h2 _
                    exact absurd h2 hp
                · rw [if_neg hlf]
                  have hy8 := sym_in h6 hkm
                  have hr := plain_row g w h6 hw k hkl ks ih 0 ⟨s.a, s.b, withA s.ab y⟩ _ (fit_with hf) hb (hu.with hab hy8) (by rw [hgk, List.drop_zero]; exact hc) (by rw [hgk]; omega) hs'
                  have hr' : plainK ks (up ++ [(y, s.a, s.b)]) s.a = true ↔ _ := hr
                  rw [hr']
                  constructor
                  · intro h
                    exact List.mem_flatMap.2 ⟨k, hkm, List.mem_map.2 ⟨ks, h, rfl⟩⟩
                  · intro h
                    obtain ⟨k', hk', h⟩ := List.mem_flatMap.1 h
                    obtain ⟨ks', hks, e⟩ := List.mem_map.1 h
                    injection e with e
                    injection e with e1 e2 e3
                    obtain rfl : k' = k := by omega
                    rw [← e3]; exact hks
              · rw [if_neg hc2] at hc; cases hc
    · rw [if_neg hy] at hc; cases hc
/-- Of the whole form. -/
theorem plain_all (h6 : Six g.prods) (hw : ∀ x ∈ w, symB g x = true) (t : Tr) (root : Int) (hc : checkT g t root = true) (hl : leavesT t = w) : plainB t [] 0 = true ↔ [t] ∈ all g.prods w (wholeJ w root) :=
  plain_iff g w h6 hw t root ⟨0, w.length, none8⟩ [] (fit_whole w root) (Nat.le_refl _) ⟨fun y => by rw [hasA_none]; simp, fun k hk => by cases hk⟩ hc (by rw [hl]; unfold seg; simp)
/-- A derivation's form comes of its root. -/
theorem der_check (t : Tr) : ∀ root, checkT g t root = true → Sp.DerF g.prods [root] (leavesT t) := by
  induction t using Tr.ind with
  | h y p ks ih =>
    intro root hc
    rw [checkT] at hc
    by_cases hy : y = root
    · rw [if_pos hy] at hc
      subst hy
      by_cases hp : p = -1
      · rw [leavesT, if_pos hp]; exact Sp.DerF.refl _
      · rw [if_neg hp] at hc
        by_cases hn : p < 0
        · rw [if_pos hn] at hc; cases hc
        · rw [if_neg hn] at hc
          cases hq : g.prods[p.toNat]? with
          | none => rw [hq] at hc; cases hc
          | some q =>
            rw [hq] at hc
            simp only at hc
            by_cases hc2 : q.1 = y ∧ q.2.length = ks.length
            · rw [if_pos hc2] at hc
              rw [leavesT, if_neg hp]
              have aux : ∀ (l : List Tr) (r : List Int), (∀ k ∈ l, ∀ root, checkT g k root = true → Sp.DerF g.prods [root] (leavesT k)) → r.length = l.length → checkK g l r = true → Sp.DerF g.prods r (leavesK l) := by
                intro l
                induction l with
                | nil => intro r _ hr _; rw [List.eq_nil_of_length_eq_zero hr, leavesK]; exact .nil
                | cons k l ihl =>
                  intro r hk hr hc
                  cases r with
                  | nil => simp at hr
                  | cons x r =>
                    rw [checkK, Bool.and_eq_true] at hc
                    rw [leavesK]
                    exact Sp.DerF.join (hk k List.mem_cons_self x hc.1) (ihl r (fun k h => hk k (List.mem_cons_of_mem _ h)) (by simpa using hr) hc.2)
              exact Sp.DerF.one.2 (.inr ⟨q, List.mem_of_getElem? hq, hc2.1, aux ks q.2 ih hc2.2 hc⟩)
            · rw [if_neg hc2] at hc; cases hc
    · rw [if_neg hy] at hc; cases hc
theorem leaves_sym (t : Tr) : ∀ root, checkT g t root = true → ∀ x ∈ leavesT t, symB g x = true := by
  induction t using Tr.ind with
  | h y p ks ih =>
    intro root hc
    rw [checkT] at hc
    by_cases hy : y = root
    · rw [if_pos hy] at hc
      by_cases hp : p = -1
      · rw [if_pos hp, Bool.and_eq_true] at hc
        rw [leavesT, if_pos hp]
        intro x hx
        rw [List.mem_singleton.1 hx]; exact hc.2
      · rw [if_neg hp] at hc
        by_cases hn : p < 0
        · rw [if_pos hn] at hc; cases hc
        · rw [if_neg hn] at hc
          cases hq : g.prods[p.toNat]? with
          | none => rw [hq] at hc; cases hc
          | some q =>
            rw [hq] at hc
            simp only at hc
            by_cases hc2 : q.1 = y ∧ q.2.length = ks.length
            · rw [if_pos hc2] at hc
              rw [leavesT, if_neg hp]
              have aux : ∀ (l : List Tr) (r : List Int), (∀ k ∈ l, ∀ root, checkT g k root = true → ∀ x ∈ leavesT k, symB g x = true) → r.length = l.length → checkK g l r = true → ∀ x ∈ leavesK l, symB g x = true := by
                intro l
                induction l with
                | nil => intro r _ hr _ x hx; simp [leavesK] at hx
                | cons k l ihl =>
                  intro r hk hr hc
                  cases r with
                  | nil => simp at hr
                  | cons x r =>
                    rw [checkK, Bool.and_eq_true] at hc
                    rw [leavesK]
                    intro z hz
                    rcases List.mem_append.1 hz with hz | hz
                    · exact hk k List.mem_cons_self x hc.1 z hz
                    · exact ihl r (fun k h => hk k (List.mem_cons_of_mem _ h)) (by simpa using hr) hc.2 z hz
              exact aux ks q.2 ih hc2.2 hc
            · rw [if_neg hc2] at hc; cases hc
    · rw [if_neg hy] at hc; cases hc
end Go.Proofs.Ytgfkkbpnphbdgaa.Dr

set_option linter.unusedVariables false
set_option linter.unusedSimpArgs false
namespace Go.Proofs.Ytgfkkbpnphbdgaa
open Go.RowKit
open Doc Dr

theorem sym_wide2 {g : Gr} (hc : CheckG g) {s : Int} (h : symB g s = true) : wideI s := by
  have := (symB_iff g s).1 h
  have := hc.t8; have := hc.n8
  unfold symOk at *; unfold wideI; omega
theorem trees_plain {g : Gr} {root : Int} {u : List Int} {m : Int} (hA : AskP g root u m) {k : Nat} {ts : List Tl} (hp : ts.map (fun t => [t.plain]) = (all g.prods u (wholeJ u root)).take k) : ∀ t ∈ ts, checkT g t.plain root = true ∧ leavesT t.plain = u ∧ sizeT t.plain ≤ 1000000000 ∧ mildT t.plain := fun t ht => by
  have h1 : [t.plain] ∈ ts.map (fun t => [t.plain]) := List.mem_map_of_mem (f := fun t => [t.plain]) ht
  rw [hp] at h1
  have h2 := List.mem_of_mem_take h1
  obtain ⟨t', e, h3, h4⟩ := all_tree g u hA.2.2.2.2.2 root _ h2
  injection e with e
  rw [← e] at h3 h4
  exact ⟨h3, h4, all_size g u (okD_of hA).six root hA.2.2.1 _ h2 _ (List.mem_singleton.2 rfl), tiny_mild _ (check_tinyT hA.1 _ _ h3)⟩
theorem trees_two {g : Gr} {root : Int} {u : List Int} {m : Int} (hA : AskP g root u m) {k : Nat} {ts : List Tl} (hp : ts.map (fun t => [t.plain]) = (all g.prods u (wholeJ u root)).take k) {i j : Nat} (hij : i < j) {t t' : Tl} (hi : ts[i]? = some t) (hj : ts[j]? = some t') : t'.plain ≠ t.plain := by
  have hn : (ts.map (fun t => [t.plain])).Nodup := by rw [hp]; exact List.Pairwise.sublist (List.take_sublist _ _) (all_nodup g u hA.2.2.2.2.2 root)
  have h1 := (List.getElem?_eq_some_iff.1 hi)
  have h2 := (List.getElem?_eq_some_iff.1 hj)
  have h3 := (List.pairwise_iff_getElem.1 hn) i j (by rw [List.length_map]; exact h1.1) (by rw [List.length_map]; exact h2.1) hij
  rw [List.getElem_map, List.getElem_map, h1.2, h2.2] at h3
  intro e
  exact h3 (by rw [e])
theorem trees_more {AL : List (List Tr)} {k k' : Nat} {ts us : List Tl} (hk : k ≤ k') (hp : ts.map (fun t => [t.plain]) = AL.take k) (hq : us.map (fun t => [t.plain]) = AL.take k') {j : Nat} {t u : Tl} (hj : ts[j]? = some t) (hu : us[j]? = some u) : t.plain = u.plain := by
  have h1 : (ts.map (fun t => [t.plain]))[j]? = some [t.plain] := by rw [List.getElem?_map, hj]; rfl
  have h2 : (us.map (fun t => [t.plain]))[j]? = some [u.plain] := by rw [List.getElem?_map, hu]; rfl
  rw [hp, List.getElem?_take] at h1
  rw [hq, List.getElem?_take] at h2
  split at h1
  · split at h2
    · rw [h1] at h2; injection h2 with h2; injection h2
    · cases h2
  · cases h1
theorem trees_len {AL : List (List Tr)} {k : Nat} {ts : List Tl} (hp : ts.map (fun t => [t.plain]) = AL.take k) : ts.length = min k AL.length := by
  have := congrArg List.length hp
  rwa [List.length_map, List.length_take] at this
theorem can_trees {g : Gr} {root : Int} {u : List Int} {m : Int} (hA : AskP g root u m) {k : Nat} (hk : 0 < k) {ts : List Tl} (hp : ts.map (fun t => [t.plain]) = (all g.prods u (wholeJ u root)).take k) : canB g root u = decide (0 < ts.length) := by
  have hl := trees_len hp
  have hA1 : AskP g root u 1 := ⟨hA.1, hA.2.1, hA.2.2.1, by omega, by omega, hA.2.2.2.2.2⟩
  rw [Bool.eq_iff_iff, canB_iff, decide_eq_true_eq, ← all_iff g.prods u (okD_of hA).six]
  constructor
  · rintro ⟨_, h⟩
    have := List.length_pos_iff.2 h
    omega
  · intro h
    exact ⟨hA1, fun e => by rw [e, List.length_nil, Nat.min_zero] at hl; omega⟩
theorem name_sym {g : Gr} {s : Int} (h0 : s ≠ 0) (hn : nameG g s ≠ []) : symB g s = true := by
  unfold nameG at hn
  rw [if_neg h0] at hn
  rw [symB_iff]
  split at hn
  · rename_i h; exact .inl h
  · split at hn
    · rename_i h; exact .inr h
    · exact absurd rfl hn
/-- Trees, of what may be asked. -/
theorem trees_ask {g : Gr} {v : Value} {root : Int} {wa : Option Addr} {wc : Nat} {u : List Int} {m : Nat} {w : World} (hA : AskP g root u m) (hg : GramAt w v g) (hu : Cells w wa (nums u)) :
    Calls Try.prog 14 #[v, .int .i64 root, .slice wa u.length wc, .int .i64 m] w fun e w' => Below w.heap.size w w' ∧ ∃ (a : Option Addr) (c : Nat) (ts : List Tl), e = .returned (.tuple #[.slice a ts.length c, .int .i64 0]) ∧ Cells w' a (tls ts) ∧ ts.length ≤ c ∧ (∀ t ∈ ts, Lies (fun b => w.heap.size ≤ b) w' t) ∧ ts.map (fun t => [t.plain]) = (all g.prods u (wholeJ u root)).take m :=
  (trees_calls v g root wa wc u m w hg (check_tiny hA.1).mid (sym_wide2 hA.1 hA.2.1) hu (by have := hA.2.2.1; omega) (fun s hs => sym_wide2 hA.1 (hA.2.2.2.2.2 s hs))).mono fun e w' ⟨h, hb⟩ => by
    unfold TreesEnd at h
    rw [askB_true hA, if_pos rfl] at h
    obtain ⟨a, c, ts, h1, h2, h3, h4⟩ := h
    exact ⟨hb, a, c, ts, h1, (own_cells h2).1, (own_cells h2).2, h3, h4⟩
theorem can_ask {g : Gr} {v : Value} {root : Int} {wa : Option Addr} {wc : Nat} {u : List Int} {m : Int} {w : World} (hA : AskP g root u m) (hg : GramAt w v g) (hu : Cells w wa (nums u)) :
    Calls Try.prog 13 #[v, .int .i64 root, .slice wa u.length wc] w fun e w' => e = .returned (.bool (canB g root u)) ∧ Below w.heap.size w w' :=
  can_calls v g root wa wc u w hg (check_tiny hA.1).mid (sym_wide2 hA.1 hA.2.1) hu (by have := hA.2.2.1; omega) (fun s hs => sym_wide2 hA.1 (hA.2.2.2.2.2 s hs))
/-- A tree of a row. -/
theorem tls_get {W : World} {a : Option Addr} {ts : List Tl} (h : Cells W a (tls ts)) {j : Nat} {t : Tl} (hj : ts[j]? = some t) : ∃ b off, a = some ⟨b, off, none⟩ ∧ b < W.heap.size ∧ W.cell? ⟨b, off + j * 3, none⟩ = some (.int .i64 t.sym) ∧ W.cell? ⟨b, off + j * 3 + 1, none⟩ = some (.int .i64 t.prod) ∧ W.cell? ⟨b, off + j * 3 + 2, none⟩ = some (.slice t.a t.kids.length t.c) := by
  obtain ⟨h1, h2, h3⟩ := tls_at ts j t hj
  obtain ⟨b, off, e, hl, hc⟩ := h.get (by intro e; rw [e] at h1; simp at h1)
  exact ⟨b, off, e, hl, hc _ _ h1, by rw [Nat.add_assoc]; exact hc _ _ h2, by rw [Nat.add_assoc]; exact hc _ _ h3⟩
end Go.Proofs.Ytgfkkbpnphbdgaa

set_option linter.unusedVariables false
namespace Go.Proofs.Ytgfkkbpnphbdgaa
open Go.RowKit

theorem size_int (w : World) : (sizeOf 3).run Try.prog w = .ok 1 w := by kernel_rfl
theorem und_int : Try.prog.underlying 3 = some (.int .i64) := by kernel_rfl
theorem und_arr3 : Try.prog.underlying 97 = some (.array 3 3) := by kernel_rfl
theorem part3 (a b c : Int) (w : World) : (part 3 #[.int .i64 a, .int .i64 b, .int .i64 c] (0 * 1)).run Try.prog w = .ok (.int .i64 a) w ∧ (part 3 #[.int .i64 a, .int .i64 b, .int .i64 c] (1 * 1)).run Try.prog w = .ok (.int .i64 b) w ∧ (part 3 #[.int .i64 a, .int .i64 b, .int .i64 c] (2 * 1)).run Try.prog w = .ok (.int .i64 c) w := by
  refine ⟨?_, ?_, ?_⟩ <;> simp [part, isAgg, run_underlying und_int]
theorem equal3 (d : Nat) (a b c x y z : Int) (w : World) : (Op.equalIn (d + 2) 97 (.agg #[.int .i64 a, .int .i64 b, .int .i64 c]) (.agg #[.int .i64 x, .int .i64 y, .int .i64 z])).run Try.prog w = .ok ((a == x) && ((b == y) && (c == z))) w := by
  have pe : ∀ u v : Int, (Op.equalIn (d + 1) 3 (.int .i64 u) (.int .i64 v)).run Try.prog w = .ok (u == v) w := fun u v => run_equalIn_int w d _ .i64 .i64 u v und_int
  have e1 := pe a x
  have e2 := pe b y
  have e3 := pe c z
  generalize (a == x) = r at *
  generalize (b == y) = s at *
  generalize (c == z) = t at *
  clear pe
  obtain ⟨p0, p1, p2⟩ := part3 a b c w
  obtain ⟨q0, q1, q2⟩ := part3 x y z w
  rw [Op.equalIn]
  simp only [Sem.run_bind, run_underlying und_arr3, Result.andThen_ok, size_int, Std.Legacy.Range.forIn_eq_forIn_range', Std.Legacy.Range.size, Nat.sub_zero, Nat.add_sub_cancel, Nat.div_one]
  rw [show List.range' 0 3 1 = [0, 1, 2] from rfl]
  simp only [List.forIn_cons, List.forIn_nil, Sem.run_bind, p0, q0, e1, Result.andThen_ok]
  cases r <;> cases s <;> cases t <;> simp [p1, p2, q1, q2, e2, e3]
theorem eql3 (a b c x y z : Int) (w : World) : (binOp .eql 97 (.agg #[.int .i64 a, .int .i64 b, .int .i64 c]) (.agg #[.int .i64 x, .int .i64 y, .int .i64 z])).run Try.prog w = .ok (.bool ((a == x) && ((b == y) && (c == z)))) w := by
  rw [run_eql_struct, equal3 9998]
  rfl

end Go.Proofs.Ytgfkkbpnphbdgaa

set_option linter.unusedVariables false
set_option linter.unusedSimpArgs false
namespace Go.Proofs.Ytgfkkbpnphbdgaa
open Go.RowKit
open Doc Dr

theorem infoK3 : (Try.prog.info? 97).map (fun i => (i.zero, i.size, i.bytes)) = some (some (.agg #[.int .i64 0, .int .i64 0, .int .i64 0]), 3, 24) := by kernel_rfl
/-- Keys, three cells each. -/
def key3 (k : Key) : List Value := [.int .i64 k.1, .int .i64 k.2.1, .int .i64 k.2.2]
def keys (l : List Key) : List Value := l.flatMap key3
theorem keys_len (l : List Key) : (keys l).length = l.length * 3 := by
  induction l with
  | nil => rfl
  | cons t l ih => simp only [keys, List.flatMap_cons, List.length_append, List.length_cons] at *; rw [ih]; simp [key3]; omega
theorem keys_app (a b : List Key) : keys (a ++ b) = keys a ++ keys b := by simp [keys]
theorem keys_at : ∀ (l : List Key) (j : Nat) (t : Key), l[j]? = some t → (keys l)[j * 3]? = some (.int .i64 t.1) ∧ (keys l)[j * 3 + 1]? = some (.int .i64 t.2.1) ∧ (keys l)[j * 3 + 2]? = some (.int .i64 t.2.2)
  | [], j, t, h => by simp at h
  | u :: l, 0, t, h => by
    simp at h; subst h
    simp [keys, key3]
  | u :: l, j + 1, t, h => by
    have ih := keys_at l j t (by simpa using h)
    have e : keys (u :: l) = .int .i64 u.1 :: .int .i64 u.2.1 :: .int .i64 u.2.2 :: keys l := rfl
    rw [e, show (j + 1) * 3 = j * 3 + 1 + 1 + 1 by omega]
    exact ⟨ih.1, ih.2.1, ih.2.2⟩
/-- What stands above, in memory. -/
structure UpAt (W : World) (a : Option Addr) (c : Nat) (up : List Key) : Prop where
  cells : Cells W a (keys up)
  cap : up.length ≤ c
  none_ : a = none → c = 0
theorem UpAt.below {W W' : World} {a : Option Addr} {c : Nat} {up : List Key} (h : UpAt W a c up) (hb : Below W.heap.size W W') : UpAt W' a c up := ⟨h.cells.below hb, h.cap, h.none_⟩
theorem UpAt.get {W : World} {a : Option Addr} {c : Nat} {up : List Key} (h : UpAt W a c up) {j : Nat} {k : Key} (hj : up[j]? = some k) : ∃ b off, a = some ⟨b, off, none⟩ ∧ b < W.heap.size ∧ W.cell? ⟨b, off + j * 3, none⟩ = some (.int .i64 k.1) ∧ W.cell? ⟨b, off + j * 3 + 1, none⟩ = some (.int .i64 k.2.1) ∧ W.cell? ⟨b, off + j * 3 + 2, none⟩ = some (.int .i64 k.2.2) := by
  obtain ⟨h1, h2, h3⟩ := keys_at up j k hj
  obtain ⟨b, off, e, hl, hc⟩ := h.cells.get (by intro e; rw [e] at h1; simp at h1)
  exact ⟨b, off, e, hl, hc _ _ h1, by rw [Nat.add_assoc]; exact hc _ _ h2, by rw [Nat.add_assoc]; exact hc _ _ h3⟩
/-- What the append of a key to what stands above wants. -/
theorem UpAt.olds {W : World} {a : Option Addr} {c : Nat} {up : List Key} (h : UpAt W a c up) : ∀ b, a = some b → ∀ j u, (keys up)[j]? = some u → W.cell? (b.add j) = some u := by
  intro b hb j u hj
  obtain ⟨g, off, e, hl, hc⟩ := h.cells.get (by intro e; rw [e] at hj; simp at hj)
  rw [hb] at e
  injection e with e
  subst e
  have := hc j u hj
  unfold Addr.add
  split
  · rename_i h0; rw [h0] at this; exact this
  · exact this
theorem upAt_of {W : World} {B : Nat} {v : Value} {n : Nat} {up : List Key} (h : W.ownsRow B 97 3 v n (keys up)) (hn : up.length = n) : ∃ a c, v = .slice a up.length c ∧ UpAt W a c up := by
  subst hn
  rcases h.2 with ⟨e, h0⟩ | ⟨g, cap, cur, e, _⟩
  · have : up = [] := List.eq_nil_of_length_eq_zero h0
    subst this
    exact ⟨none, 0, e, .inl rfl, Nat.le_refl _, fun _ => rfl⟩
  · subst e
    exact ⟨_, cap, rfl, (own_cells h).1, (own_cells h).2, fun h => by cases h⟩

set_option maxRecDepth 100000 in
set_option maxHeartbeats 8000000 in
theorem plain_any (t : Tl) : ∀ (P : Nat → Prop) (ua : Option Addr) (uc : Nat) (up : List Key) (fr : Nat) (w : World), Lies P w t → sizeT t.plain ≤ 1000000000 → UpAt w ua uc up → up.length + sizeT t.plain ≤ 2000000000 → fr + sizeT t.plain ≤ 4000000000 →
    Calls Try.prog 28 #[t.v, .slice ua up.length uc, .int .i64 fr] w fun e w' => e = .returned (.bool (Dr.plainB t.plain up fr)) ∧ Below w.heap.size w w' := by
  induction t using Tl.ind with
  | h s p a c ks ih =>
    intro P ua uc up fr w hl hz hu hul hfr
    obtain ⟨i0, hi0, hz0, hz1, hz2⟩ := info_of infoK3
    have HIH := Lib.hid ih
    have hkl := size_len s p a c ks
    have hlv := leaves_size (Tl.mk s p a c ks).plain
    have HSZ := Lib.hid (show sizeT (Tl.mk s p a c ks).plain = 1 + sizeK (ks.map Tl.plain) by rw [Tl.plain_mk, sizeT])
    obtain ⟨hbS, hsS, q0⟩ := one_alloc w (.cells #[.int .i64 s, .int .i64 p, .slice a ks.length c] 39)
    have HB := Lib.hid hbS
    have HQ := Lib.hid q0
    have HL := Lib.hid (hl.under hbS)
    have HU := Lib.hid (hu.below hbS)
    have hks : ks.length ≤ 1000000000 := by omega
    have hulb : up.length ≤ 2000000000 := by omega
    have hfrb : fr ≤ 4000000000 := by omega
    have HLV := Lib.hid fun W (hW : Below (w.alloc (.cells #[.int .i64 s, .int .i64 p, .slice a ks.length c] 39)).heap.size (w.alloc (.cells #[.int .i64 s, .int .i64 p, .slice a ks.length c] 39)) W) => rleaves_any (Tl.mk s p a c ks) _ W (HL.out.under hW) hz
    obtain ⟨n, hn⟩ : ∃ n, (leavesT (Tl.mk s p a c ks).plain).length = n := ⟨_, rfl⟩
    unfold Tl.v at HLV
    simp only [Tl.sym, Tl.prod, Tl.a, Tl.c, Tl.kids] at HLV
    rw [hn] at HLV
    have hn9 : n ≤ 1000000000 := by omega
    have hsum : (fr : Int) + (n : Int) = ((fr + n : Nat) : Int) := by omega
    have hw1 : IntKind.i64.wrap ((fr : Int) + (n : Int)) = ((fr + n : Nat) : Int) := by rw [hsum]; exact IntWalk.i64_in _ (by omega)
    have HPL := Lib.hid (show Dr.plainB (Tl.mk s p a c ks).plain up fr = if (s, fr, fr + n) ∈ up then false else Dr.plainK (ks.map Tl.plain) (up ++ [(s, fr, fr + n)]) fr by rw [Tl.plain_mk, Dr.plainB, ← Tl.plain_mk s p a c ks, hn])
    have HZ := Lib.hid hz
    have HUL := Lib.hid hul
    have HFR := Lib.hid hfr
    clear ih hz hbS q0 hl hkl hsS hu hn hlv hul hfr hsum
    show Calls _ _ #[.agg #[.int .i64 s, .int .i64 p, .slice a ks.length c], _, _] _ _
    go_enter Try.func28, Try.ntmps28
    go_upto_region 1 with fail
    generalize w.alloc (.cells #[.int .i64 s, .int .i64 p, .slice a ks.length c] 39) = S at *
    have HTB := Lib.hid HB.out.size
    generalize hTB : w.heap.size = TB at *
    have HTE := Lib.hid hTB
    clear hTB
    have t0 := (blk_cell (i := 0) HQ.out rfl).1
    have t1 := (blk_cell (i := 1) HQ.out rfl).1
    have t2 := (blk_cell (i := 2) HQ.out rfl).1
    have l0 := heap_lt HQ.out
    obtain ⟨N, hN⟩ : ∃ N, fr + n = N := ⟨_, rfl⟩
    rw [hN] at hw1 HPL
    clear hN
    go_cut [7] from 12 to 20 (fun pv wx => ∃ K : Nat, pv = .pointer (some ⟨K, 0, none⟩) ∧ Hid (Below S.heap.size S wx) ∧ Hid (wx.heap[K]? = some (.cells #[.int .i64 s, .int .i64 fr, .int .i64 N] 97)))
    case first =>
      go_region_law (rw [if_pos (by simp [Region.wanted])]; go_wp2_with (first
        | (go_at_call 26; (with_reducible refine (HLV.out ((S.alloc (.cells #[.int .i64 0, .int .i64 0, .int .i64 0] 97)).drew) ((box_belowT S _).drew)).mono ?_); rintro e w3 ⟨hb3, a3, c3, rfl, ho3⟩; have hbz := Lib.hid (((box_belowT S _).drew).trans (hb3.mono ((box_belowT S _).drew).size)); have q3 := (hbz.out.block TB l0).trans HQ.out; have t0 := (blk_cell (i := 0) q3 rfl).1; have t1 := (blk_cell (i := 1) q3 rfl).1; have t2 := (blk_cell (i := 2) q3 rfl).1; have l3 := heap_lt q3; clear q3 ho3; have hz3 := (hb3.block S.heap.size (by simp)).trans (heap_alloc_new S (.cells #[.int .i64 0, .int .i64 0, .int .i64 0] 97)); have k0 := blk_cell (i := 0) hz3 rfl; have k1 := blk_cell (i := 1) hz3 rfl; have k2 := blk_cell (i := 2) hz3 rfl; have k3 := heap_lt hz3; have hz3 := Lib.hid hz3; obtain ⟨k0, k0'⟩ := k0; obtain ⟨k1, k1'⟩ := k1; obtain ⟨k2, k2'⟩ := k2)
        | (go_at_call 26; (with_reducible refine (HLV.out (S.drew.alloc (.cells #[.int .i64 0, .int .i64 0, .int .i64 0] 97)) (((Below.refl S.heap.size S).drew.alloc (Nat.le_refl _) _))).mono ?_); rintro e w3 ⟨hb3, a3, c3, rfl, ho3⟩; have hbz := Lib.hid ((((Below.refl S.heap.size S).drew.alloc (Nat.le_refl _) _)).trans (hb3.mono (((Below.refl S.heap.size S).drew.alloc (Nat.le_refl _) _)).size)); have q3 := (hbz.out.block TB l0).trans HQ.out; have t0 := (blk_cell (i := 0) q3 rfl).1; have t1 := (blk_cell (i := 1) q3 rfl).1; have t2 := (blk_cell (i := 2) q3 rfl).1; have l3 := heap_lt q3; clear q3 ho3; have hz3 := (hb3.block S.heap.size (by simp)).trans (heap_alloc_new S (.cells #[.int .i64 0, .int .i64 0, .int .i64 0] 97)); have k0 := blk_cell (i := 0) hz3 rfl; have k1 := blk_cell (i := 1) hz3 rfl; have k2 := blk_cell (i := 2) hz3 rfl; have k3 := heap_lt hz3; have hz3 := Lib.hid hz3; obtain ⟨k0, k0'⟩ := k0; obtain ⟨k1, k1'⟩ := k1; obtain ⟨k2, k2'⟩ := k2)
        | (go_at_call 26; (with_reducible refine (HLV.out (S.alloc (.cells #[.int .i64 0, .int .i64 0, .int .i64 0] 97)) (box_belowT S _)).mono ?_); rintro e w3 ⟨hb3, a3, c3, rfl, ho3⟩; have hbz := Lib.hid ((box_belowT S _).trans (hb3.mono (box_belowT S _).size)); have q3 := (hbz.out.block TB l0).trans HQ.out; have t0 := (blk_cell (i := 0) q3 rfl).1; have t1 := (blk_cell (i := 1) q3 rfl).1; have t2 := (blk_cell (i := 2) q3 rfl).1; have l3 := heap_lt q3; clear q3 ho3; have hz3 := (hb3.block S.heap.size (by simp)).trans (heap_alloc_new S (.cells #[.int .i64 0, .int .i64 0, .int .i64 0] 97)); have k0 := blk_cell (i := 0) hz3 rfl; have k1 := blk_cell (i := 1) hz3 rfl; have k2 := blk_cell (i := 2) hz3 rfl; have k3 := heap_lt hz3; have hz3 := Lib.hid hz3; obtain ⟨k0, k0'⟩ := k0; obtain ⟨k1, k1'⟩ := k1; obtain ⟨k2, k2'⟩ := k2)
        | (go_at_call 26; (with_reducible refine (HLV.out (S.drew) (((Below.refl S.heap.size S).drew))).mono ?_); rintro e w3 ⟨hb3, a3, c3, rfl, ho3⟩; have hbz := Lib.hid ((((Below.refl S.heap.size S).drew)).trans (hb3.mono (((Below.refl S.heap.size S).drew)).size)); have q3 := (hbz.out.block TB l0).trans HQ.out; have t0 := (blk_cell (i := 0) q3 rfl).1; have t1 := (blk_cell (i := 1) q3 rfl).1; have t2 := (blk_cell (i := 2) q3 rfl).1; have l3 := heap_lt q3; clear q3 ho3)))
      all_goals
        go_wp2
        go_meet
        case rel =>
          first
            | exact ⟨_, rfl, Lib.hid (hbz.out.trans ((box_belowT w3 _).mono hbz.out.size)), Lib.hid (heap_alloc_new w3 _)⟩
            | exact ⟨_, rfl, Lib.hid (store3_below hbz.out (Nat.le_refl _) _ _ _), Lib.hid (store3 hz3.out _ _ _)⟩
            | exact ⟨_, rfl, Lib.hid (store3_below (hbz.out.trans ((box_belowT w3 _).mono hbz.out.size)) hbz.out.size _ _ _), Lib.hid (store3 (heap_alloc_new w3 _) _ _ _)⟩
    case rest =>
      obtain ⟨K, rfl, HBX, HQK⟩ := hcut
      rename World => S2
      have HTB2 := Lib.hid (Nat.le_trans HTB.out HBX.out.size)
      have HB2 := Lib.hid (HB.out.trans (HBX.out.mono HTB.out))
      have HL2 := Lib.hid (HL.out.under HBX.out)
      have HU2 := Lib.hid (HU.out.below HBX.out)
      have HQ2 := Lib.hid ((HBX.out.block _ l0).trans HQ.out)
      clear t0 t1 t2 l0 HLV HB HQ HL HU HBX hw1
      go_wp2
      go_loopw [23] (fun iv wr => ∃ k : Nat, iv = .int .i64 k ∧ k ≤ up.length ∧ Hid ((s, fr, N) ∉ up.take k) ∧ Hid (Below S2.heap.size S2 wr)) (fun iv _ => up.length - (intOf iv).toNat)
      case atStart => exact ⟨0, rfl, by omega, Lib.hid (by simp), Lib.hid (Below.refl _ _)⟩
      case round =>
        obtain ⟨k, rfl, hk, HNO, HBR⟩ := hrel
        have qk := (HBR.out.block K (heap_lt HQK.out)).trans HQK.out
        have k0 := (blk_cell (i := 0) qk rfl).1
        have k1 := (blk_cell (i := 1) qk rfl).1
        have k2 := (blk_cell (i := 2) qk rfl).1
        have lk := heap_lt qk
        have HUR := Lib.hid (HU2.out.below HBR.out)
        by_cases hkl : k < up.length
        · obtain ⟨⟨y1, y2, y3⟩, hy⟩ : ∃ y, up[k]? = some y := ⟨_, List.getElem?_eq_getElem hkl⟩
          obtain ⟨b, off, rfl, hb, x0, x1, x2⟩ := HUR.out.get hy
          simp only at x0 x1 x2
          have e1 : (k : Int) < up.length := by omega
          obtain ⟨r, hr⟩ : ∃ r, ((y1 == s) && (((y2 : Int) == (fr : Int)) && ((y3 : Int) == (N : Int)))) = r := ⟨_, rfl⟩
          have hq1 : ∀ W, (binOp .eql 97 (.agg #[.int .i64 y1, .int .i64 y2, .int .i64 y3]) (.agg #[.int .i64 s, .int .i64 fr, .int .i64 N])).run Try.prog W = .ok (.bool r) W := fun W => by rw [← hr]; exact eql3 _ _ _ _ _ _ W
          have hq2 : ∀ W, (Op.equalIn 10000 97 (.agg #[.int .i64 y1, .int .i64 y2, .int .i64 y3]) (.agg #[.int .i64 s, .int .i64 fr, .int .i64 N])).run Try.prog W = .ok r W := fun W => by rw [← hr]; exact equal3 9998 _ _ _ _ _ _ W
          have HR := Lib.hid hr
          have HY := Lib.hid hy
          have HKL := Lib.hid hkl
          have HBA := Lib.hid (HBR.out.trans ((box_belowT wr (.cells #[.int .i64 y1, .int .i64 y2, .int .i64 y3] 97)).mono HBR.out.size))
          clear hr hy hkl qk
          cases r
          · go_wp2
            refine ⟨⟨k + 1, by go_num, by have := HKL.out; omega, Lib.hid ?_, HBA⟩, by have := HKL.out; simp [intOf]; omega⟩
            rw [List.take_add_one, HY.out]
            intro hm
            rcases List.mem_append.1 hm with hm | hm
            · exact HNO.out hm
            · have := List.mem_singleton.1 hm
              injection this with h1 h2
              injection h2 with h2 h3
              have hr := HR.out
              subst h1; subst h2; subst h3
              simp at hr
          · go_wp2
            go_ret
            refine ⟨?_, by rw [HTE.out]; exact HB2.out.trans (HBA.out.mono HTB2.out)⟩
            have hr := HR.out
            rw [Bool.and_eq_true, Bool.and_eq_true, beq_iff_eq, beq_iff_eq, beq_iff_eq] at hr
            rw [HPL.out, if_pos]
            · rfl
            · have := List.mem_of_getElem? HY.out
              rw [show y1 = s from hr.1, show y2 = fr by omega, show y3 = N by omega] at this
              exact this
        · have e1 : ¬ (k : Int) < up.length := by omega
          have HNX := Lib.hid (show (s, fr, N) ∉ up by have := HNO.out; rwa [List.take_of_length_le (by omega)] at this)
          have HPK := Lib.hid (HPL.out.trans (if_neg HNX.out))
          have q0 := Lib.hid ((HBR.out.block TB (heap_lt HQ2.out)).trans HQ2.out)
          have HLR := Lib.hid (HL2.out.under HBR.out)
          have HBW := Lib.hid (HB2.out.trans (HBR.out.mono HTB2.out))
          have HTR := Lib.hid (Nat.le_trans HTB2.out HBR.out.size)
          clear hkl HNO HNX HPL HL2 HU2 HQ2 HB2 HBR HTB2 HTB qk hk
          go_upto_region 8 with fail
          rename World => S3
          have hulk : up.length + 1 ≤ maxLen := by unfold maxLen; omega
          have hulb2 : (up.length + 1) * 24 ≤ 140737488355328 := by omega
          have hnn : ua = none → up.length = 0 ∧ up.length = 0 := fun e => by have h1 := HUR.out.none_ e; have h2 := HUR.out.cap; omega
          have hcap := HUR.out.cap
          go_cut [1] from 31 to 39 (fun pv wx => ∃ (a' : Option Addr) (c' : Nat), pv = .slice a' (up.length + 1) c' ∧ Hid (Below S3.heap.size S3 wx) ∧ Hid (UpAt wx a' c' (up ++ [(s, fr, N)])))
          case first =>
            go_region_law (refine step_append_grows ?_ (.tmp 36) (.tmp 38) 96 ?_ 97 i0 (.agg #[.int .i64 0, .int .i64 0, .int .i64 0]) 3 24 Try.underlying96 hi0 hz0 hz1 hz2 rfl (by decide) ua up.length up.length (keys up) ?_ hnn (keys_len up) ?_ ⟨S3.heap.size, 0, none⟩ 1 1 [.int .i64 s, .int .i64 fr, .int .i64 N] ?_ rfl ?_ ?_ (by omega) hulk hulb2 ?_; (rfl); (rfl); (rfl); (exact (HUR.out.below ((Below.refl S3.heap.size S3).drew.alloc (Nat.le_refl _) _)).olds); (rfl); (exact World.news_of_block (cs := #[.int .i64 s, .int .i64 fr, .int .i64 N]) (t := 97) (fr := (0, 0)) (heap_alloc_new S3.drew (.cells #[.int .i64 s, .int .i64 fr, .int .i64 N] 97))); (simp [Value.oneCell']); intro v' w' hown hgrow)
            all_goals
              have hup := upAt_of (up := up ++ [(s, fr, N)]) (by rw [keys_app]; exact hown) (by simp)
              rw [List.length_append, List.length_singleton] at hup
              obtain ⟨a', c', rfl, hup⟩ := hup
              have hbu := ((Below.refl S3.heap.size S3).drew.alloc (Nat.le_refl _) (.cells #[.int .i64 s, .int .i64 fr, .int .i64 N] 97)).grown hgrow (by simp) (fun k hk => by cases hk)
              clear hown hgrow
              go_wp2
              go_meet
              case rel => exact ⟨a', c', rfl, Lib.hid hbu, Lib.hid hup⟩
          case rest =>
            obtain ⟨a', c', rfl, HB4, HU4⟩ := hcut
            rename World => S4
            have HQ4 := Lib.hid ((HB4.out.block TB (heap_lt q0.out)).trans q0.out)
            have HL4 := Lib.hid (HLR.out.under HB4.out)
            have HBW4 := Lib.hid (HBW.out.trans (HB4.out.mono HTR.out))
            have HTR4 := Lib.hid (Nat.le_trans HTR.out HB4.out.size)
            have hlen4 : (up ++ [(s, fr, N)]).length = up.length + 1 := by simp
            generalize hup4 : up ++ [(s, fr, N)] = up4 at *
            have HUE := Lib.hid hlen4
            clear hup4 hlen4 HLR HBW HTR q0 HB4 HUR k0 k1 k2 lk hnn hcap
            have t0 := (blk_cell (i := 0) HQ4.out rfl).1
            have t1 := (blk_cell (i := 1) HQ4.out rfl).1
            have t2 := (blk_cell (i := 2) HQ4.out rfl).1
            have l0 := heap_lt HQ4.out
            go_wp2
            go_loopw [2, 43] (fun fv iv wr => ∃ k f : Nat, fv = .int .i64 f ∧ iv = .int .i64 k ∧ k ≤ ks.length ∧ Hid (f + sizeK ((ks.map Tl.plain).drop k) ≤ 4000000000) ∧ Hid (Dr.plainB (Tl.mk s p a c ks).plain up fr = Dr.plainK ((ks.map Tl.plain).drop k) up4 f) ∧ Hid (Below S4.heap.size S4 wr)) (fun _ iv _ => ks.length - (intOf iv).toNat)
            case atStart => exact ⟨0, fr, rfl, rfl, by omega, Lib.hid (by have h1 := HFR.out; have h2 := HSZ.out; simp; omega), Lib.hid (by rw [HPK.out]; rfl), Lib.hid (Below.refl _ _)⟩
            case round =>
              obtain ⟨k, f, rfl, rfl, hk, HF, HPE, HBR⟩ := hrel
              have hf4 : f ≤ 4000000000 := by have := HF.out; omega
              by_cases hkl : k < ks.length
              · obtain ⟨kt, hkt⟩ : ∃ kt, ks[k]? = some kt := ⟨_, List.getElem?_eq_getElem hkl⟩
                have hmem := List.mem_of_getElem? hkt
                have hLr := HL4.out.under HBR.out
                obtain ⟨b, off, rfl, hb, _, x0, x1, x2⟩ := kid_at hLr hkt
                have e1 : (k : Int) < ks.length := by omega
                have hdrop : (ks.map Tl.plain).drop k = kt.plain :: (ks.map Tl.plain).drop (k + 1) := by
                  rw [List.drop_eq_getElem_cons (by rw [List.length_map]; exact hkl), List.getElem_map, (List.getElem?_eq_some_iff.1 hkt).2]
                have hszk : sizeT kt.plain + sizeK ((ks.map Tl.plain).drop (k + 1)) = sizeK ((ks.map Tl.plain).drop k) := by rw [hdrop, sizeK]
                have hzk := size_kid (s := s) (p := p) (a := some ⟨b, off, none⟩) (c := c) hmem
                have hlvk := leaves_size kt.plain
                obtain ⟨nk, hnk⟩ : ∃ nk, (leavesT kt.plain).length = nk := ⟨_, rfl⟩
                have HPK2 := Lib.hid (show Dr.plainK ((ks.map Tl.plain).drop k) up4 f = (Dr.plainB kt.plain up4 f && Dr.plainK ((ks.map Tl.plain).drop (k + 1)) up4 (f + nk)) by rw [hdrop, Dr.plainK, hnk])
                have HKC := Lib.hid fun W (hW : Below wr.heap.size wr W) => HIH.out kt hmem _ a' c' up4 f W ((hLr.kid kt hmem).under hW) (by have := HZ.out; omega) (HU4.out.below (HBR.out.trans (hW.mono HBR.out.size))) (by rw [HUE.out]; have := HUL.out; omega) (by have := HF.out; omega)
                have HKL := Lib.hid fun W (hW : Below wr.heap.size wr W) => rleaves_any kt _ W ((hLr.kid kt hmem).under hW) (by have := HZ.out; omega)
                rw [HUE.out] at HKC
                rw [hnk] at HKL hlvk
                have hf5 : f + nk + sizeK ((ks.map Tl.plain).drop (k + 1)) ≤ 4000000000 := by have := HF.out; omega
                have hsum : (f : Int) + (nk : Int) = ((f + nk : Nat) : Int) := by omega
                have hwf : IntKind.i64.wrap ((f : Int) + (nk : Int)) = ((f + nk : Nat) : Int) := by rw [hsum]; exact IntWalk.i64_in _ (by omega)
                have HF5 := Lib.hid hf5
                have HKT := Lib.hid hkl
                have hbx := box_belowT wr (.cells #[.int .i64 kt.sym, .int .i64 kt.prod, .slice kt.a kt.kids.length kt.c] 39)
                have HBX := Lib.hid hbx
                have HXS := Lib.hid hbx.size
                have HRS := Lib.hid HBR.out.size
                have HQX := Lib.hid (heap_alloc_new wr (.cells #[.int .i64 kt.sym, .int .i64 kt.prod, .slice kt.a kt.kids.length kt.c] 39))
                clear hkt hmem hdrop hszk hzk hlvk hnk hsum hf5 hkl hLr hbx
                unfold Tl.v at HKC HKL
                obtain ⟨bb, hbb⟩ : ∃ bb, Dr.plainB kt.plain up4 f = bb := ⟨_, rfl⟩
                rw [hbb] at HKC HPK2
                clear hbb
                go_upto_region 12 with fail
                generalize wr.alloc (.cells #[.int .i64 kt.sym, .int .i64 kt.prod, .slice kt.a kt.kids.length kt.c] 39) = W5 at *
                generalize wr.heap.size = XB at *
                have z0 := (blk_cell (i := 0) HQX.out rfl).1
                have z1 := (blk_cell (i := 1) HQX.out rfl).1
                have z2 := (blk_cell (i := 2) HQX.out rfl).1
                have lz := heap_lt HQX.out
                cases bb
                · have HPF := Lib.hid ((HPE.out.trans HPK2.out).trans (Bool.false_and _))
                  go_wp2_with (go_at_call 28; (with_reducible refine (HKC.out _ HBX.out).mono ?_); rintro e w6 ⟨rfl, hb6⟩)
                  go_ret
                  exact ⟨by rw [HPF.out]; rfl, by rw [HTE.out]; exact HBW4.out.trans ((HBR.out.trans ((HBX.out.trans (hb6.mono HXS.out)).mono HRS.out)).mono HTR4.out)⟩
                · have HPT := Lib.hid ((HPE.out.trans HPK2.out).trans (Bool.true_and _))
                  go_upto_if 51 with (go_at_call 28; (with_reducible refine (HKC.out _ HBX.out).mono ?_); rintro e w6 ⟨rfl, hb6⟩)
                  have HB6 := Lib.hid (HBX.out.trans (hb6.mono HXS.out))
                  have HXW := Lib.hid (Nat.le_trans HXS.out hb6.size)
                  have hq6 := (hb6.block _ lz).trans HQX.out
                  have z0 := (blk_cell (i := 0) hq6 rfl).1
                  have z1 := (blk_cell (i := 1) hq6 rfl).1
                  have z2 := (blk_cell (i := 2) hq6 rfl).1
                  have lz := heap_lt hq6
                  clear hq6 hb6
                  go_wp2_with (go_at_call 26; (with_reducible refine (HKL.out _ HB6.out).mono ?_); rintro e w7 ⟨hb7, a7, c7, rfl, ho7⟩; have HB7 := Lib.hid (HB6.out.trans (hb7.mono HXW.out)); clear ho7 hb7)
                  exact ⟨⟨k + 1, f + nk, by first | rfl | rw [hwf], by go_num, by have := HKT.out; omega, HF5, HPT, Lib.hid (HBR.out.trans (HB7.out.mono HRS.out))⟩, by have := HKT.out; simp [intOf]; omega⟩
              · have e1 : ¬ (k : Int) < ks.length := by omega
                have hPF : Dr.plainB (Tl.mk s p a c ks).plain up fr = true := by
                  have := HPE.out
                  rw [List.drop_eq_nil_of_le (by simp; omega)] at this
                  rw [this]; rfl
                have HPF := Lib.hid hPF
                clear hkl hPF
                go_wp2
                go_ret
                exact ⟨by rw [HPF.out]; rfl, by rw [HTE.out]; exact HBW4.out.trans (HBR.out.mono HTR4.out)⟩
end Go.Proofs.Ytgfkkbpnphbdgaa
