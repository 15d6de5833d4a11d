/- How many plain trees there are, counted to a bound: plain. No program here. -/
import Derived.Test.YtgfkkbpnphbdgaaWordD
import Derived.Test.YtgfkkbpnphbdgaaSpanS
import Derived.Test.YtgfkkbpnphbdgaaTreeS
set_option linter.unusedVariables false
set_option linter.unusedSimpArgs false
namespace Go.Proofs.Ytgfkkbpnphbdgaa.Dr
open Doc

/-- Leaves from place a to place b, and what stands above all of them. -/
structure Spn where
  a : Nat
  b : Nat
  ab : List Bool
deriving DecidableEq
def none8 : List Bool := List.replicate 8 false
def hasA (ab : List Bool) (sym : Int) : Bool := decide (100 ≤ sym) && ab.getD (sym - 100).toNat false
def withA (ab : List Bool) (sym : Int) : List Bool := ab.set (sym - 100).toNat true
def fst_ (s : Spn) (n : Nat) : Spn := ⟨s.a, s.a + n, if s.a + n = s.b then s.ab else none8⟩
def snd_ (s : Spn) (n : Nat) : Spn := ⟨s.a + n, s.b, if n = 0 then s.ab else none8⟩
/-- What is counted: the trees of a symbol, or the rows of trees of a production from a dot on. -/
inductive Job
  | goal (sym : Int) (s : Spn)
  | row (prod dot : Nat) (s : Spn)
def Job.span : Job → Spn
  | .goal _ s => s
  | .row _ _ s => s
def free (ab : List Bool) : Nat := ab.countP (!·)
/-- How deep the calls go. -/
def mu (ps : List (Int × List Int)) : Job → Nat
  | .goal _ s => (s.b - s.a) * 72 + free s.ab * 8
  | .row p d s => (s.b - s.a) * 72 + free s.ab * 8 + ((ps.getD p (0, [])).2.length - d + 1)
variable (m : Nat) (ps : List (Int × List Int)) (w : List Int)
def sumTo (n : Nat) (f : Nat → Nat) : Nat := ((List.range n).map f).sum
def prodsOf (sym : Int) : List Nat := (List.range ps.length).filter fun k => decide ((ps.getD k (0, [])).1 = sym)
def val : Nat → Job → Nat
  | 0, _ => 0
  | f + 1, .goal sym s =>
    if hasA s.ab sym = true then 0
    else if s.b = s.a + 1 ∧ w[s.a]? = some sym then min 1 m
    else min m (((prodsOf ps sym).map fun k => val f (.row k 0 ⟨s.a, s.b, withA s.ab sym⟩)).sum)
  | f + 1, .row p d s =>
    if (ps.getD p (0, [])).2.length ≤ d then (if s.a = s.b then min 1 m else 0)
    else min m (sumTo (s.b - s.a + 1) fun n => val f (.goal ((ps.getD p (0, [])).2.getD d 0) (fst_ s n)) * val f (.row p (d + 1) (snd_ s n)))

theorem free_le (ab : List Bool) : free ab ≤ ab.length := List.countP_le_length
theorem free_none : free none8 = 8 := by decide
theorem free_set : ∀ (ab : List Bool) (k : Nat), k < ab.length → ab.getD k false = false → free (ab.set k true) + 1 = free ab
  | [], k, h, _ => by simp at h
  | x :: ab, 0, _, h => by
    have hx : x = false := by simpa using h
    subst hx
    simp [free]
  | x :: ab, k + 1, h, h2 => by
    have ih := free_set ab k (by simpa using h) (by simpa using h2)
    unfold free at *
    rw [List.set_cons_succ, List.countP_cons, List.countP_cons]
    omega
theorem sum_eq {α : Type} {l : List α} {f g : α → Nat} (h : ∀ x ∈ l, f x = g x) : (l.map f).sum = (l.map g).sum := by
  rw [List.map_congr_left h]
/-- A job that may be: the nonterminals are eight at most, the rows six long at most. -/
structure Fit (j : Job) : Prop where
  ab : j.span.ab.length = 8
  le : j.span.a ≤ j.span.b
theorem fit_fst {s : Spn} {n : Nat} (h : s.ab.length = 8) : (fst_ s n).ab.length = 8 := by
  unfold fst_; simp only; split
  · exact h
  · rfl
theorem fit_snd {s : Spn} {n : Nat} (h : s.ab.length = 8) : (snd_ s n).ab.length = 8 := by
  unfold snd_; simp only; split
  · exact h
  · rfl
theorem mu_fst {s : Spn} {n p d : Nat} {y : Int} (h : s.ab.length = 8) (hn : n ≤ s.b - s.a) (hl : s.a ≤ s.b) : mu ps (.goal y (fst_ s n)) < mu ps (.row p d s) := by
  have h1 := free_le s.ab
  unfold mu fst_
  simp only
  by_cases e : s.a + n = s.b
  · rw [if_pos e, e]; omega
  · rw [if_neg e, free_none]; omega
theorem mu_snd {s : Spn} {n p d : Nat} (h : s.ab.length = 8) (h6 : (ps.getD p (0, [])).2.length ≤ 6) (hd : d < (ps.getD p (0, [])).2.length) (hn : n ≤ s.b - s.a) (hl : s.a ≤ s.b) : mu ps (.row p (d + 1) (snd_ s n)) < mu ps (.row p d s) := by
  have h1 := free_le s.ab
  unfold mu snd_
  simp only
  by_cases e : n = 0
  · subst e; rw [if_pos rfl]; simp only [Nat.add_zero]; omega
  · rw [if_neg e, free_none]
    omega
theorem mu_row {s : Spn} {k : Nat} {y : Int} (h : s.ab.length = 8) (h6 : (ps.getD k (0, [])).2.length ≤ 6) (hy : 100 ≤ y ∧ y < 108) (ha : hasA s.ab y = false) : mu ps (.row k 0 ⟨s.a, s.b, withA s.ab y⟩) < mu ps (.goal y s) := by
  unfold hasA at ha
  rw [decide_eq_true hy.1, Bool.true_and] at ha
  have h1 := free_set s.ab (y - 100).toNat (by omega) ha
  unfold mu withA
  simp only
  omega
/-- With calls enough the number is the same with more of them. -/
theorem val_more (h6 : ∀ p ∈ ps, p.2.length ≤ 6 ∧ 100 ≤ p.1 ∧ p.1 < 108) : ∀ (f : Nat) (j : Job), Fit j → mu ps j < f → val m ps w f j = val m ps w (f + 1) j := by
  have g6 : ∀ k, (ps.getD k (0, [])).2.length ≤ 6 := fun k => by
    by_cases hk : k < ps.length
    · rw [List.getD_eq_getElem?_getD, List.getElem?_eq_getElem hk]
      exact (h6 _ (List.getElem_mem hk)).1
    · rw [List.getD_eq_getElem?_getD, List.getElem?_eq_none (by omega)]; simp
  intro f
  induction f with
  | zero => intro j _ h; omega
  | succ f ih =>
    intro j hj hf
    cases j with
    | goal sym s =>
      have hab : s.ab.length = 8 := hj.ab
      show (if _ then _ else _) = (if _ then _ else _)
      by_cases h1 : hasA s.ab sym = true
      · rw [if_pos h1, if_pos h1]
      · rw [if_neg h1, if_neg h1]
        by_cases h2 : s.b = s.a + 1 ∧ w[s.a]? = some sym
        · rw [if_pos h2, if_pos h2]
        · rw [if_neg h2, if_neg h2]
          congr 1
          refine sum_eq fun k hk => ?_
          unfold prodsOf at hk
          rw [List.mem_filter, List.mem_range, decide_eq_true_eq] at hk
          have hs : 100 ≤ sym ∧ sym < 108 := by
            rw [← hk.2, List.getD_eq_getElem?_getD, List.getElem?_eq_getElem hk.1]
            exact (h6 _ (List.getElem_mem hk.1)).2
          have hm := mu_row ps (k := k) hab (g6 k) hs (by simpa using h1)
          exact ih _ ⟨by show (withA s.ab sym).length = 8; unfold withA; rw [List.length_set]; exact hab, hj.le⟩ (by omega)
    | row p d s =>
      have hab : s.ab.length = 8 := hj.ab
      have hle : s.a ≤ s.b := hj.le
      show (if _ then _ else _) = (if _ then _ else _)
      by_cases h1 : (ps.getD p (0, [])).2.length ≤ d
      · rw [if_pos h1, if_pos h1]
      · rw [if_neg h1, if_neg h1]
        congr 1
        refine sum_eq fun n hn => ?_
        rw [List.mem_range] at hn
        have m1 := mu_fst ps (p := p) (d := d) (y := (ps.getD p (0, [])).2.getD d 0) hab (show n ≤ s.b - s.a by omega) hle
        have m2 := mu_snd ps (p := p) (d := d) hab (g6 p) (by omega) (show n ≤ s.b - s.a by omega) hle
        have i1 := ih (.goal ((ps.getD p (0, [])).2.getD d 0) (fst_ s n)) ⟨fit_fst hab, by show s.a ≤ s.a + n; omega⟩ (by omega)
        have i2 := ih (.row p (d + 1) (snd_ s n)) ⟨fit_snd hab, by show s.a + n ≤ s.b; omega⟩ (by omega)
        rw [i1, i2]
/-- The number, whatever the calls. -/
def num (j : Job) : Nat := val m ps w (mu ps j + 1) j
theorem val_num (h6 : ∀ p ∈ ps, p.2.length ≤ 6 ∧ 100 ≤ p.1 ∧ p.1 < 108) {j : Job} (hj : Fit j) : ∀ f : Nat, mu ps j < f → val m ps w f j = num m ps w j := by
  intro f hf
  induction f with
  | zero => omega
  | succ f ih =>
    by_cases h : mu ps j < f
    · rw [← val_more m ps w h6 f j hj h]; exact ih h
    · obtain rfl : f = mu ps j := by omega
      rfl
theorem sumTo_le {n : Nat} {f g : Nat → Nat} (h : ∀ x, x < n → f x = g x) : sumTo n f = sumTo n g := sum_eq fun x hx => h x (List.mem_range.1 hx)
/-- What a goal's number is made of. -/
theorem num_goal (h6 : ∀ p ∈ ps, p.2.length ≤ 6 ∧ 100 ≤ p.1 ∧ p.1 < 108) {sym : Int} {s : Spn} (hj : Fit (.goal sym s)) : num m ps w (.goal sym s) = if hasA s.ab sym = true then 0 else if s.b = s.a + 1 ∧ w[s.a]? = some sym then min 1 m
    else min m (((prodsOf ps sym).map fun k => num m ps w (.row k 0 ⟨s.a, s.b, withA s.ab sym⟩)).sum) := by
  have g6 : ∀ k, (ps.getD k (0, [])).2.length ≤ 6 := fun k => by
    by_cases hk : k < ps.length
    · rw [List.getD_eq_getElem?_getD, List.getElem?_eq_getElem hk]
      exact (h6 _ (List.getElem_mem hk)).1
    · rw [List.getD_eq_getElem?_getD, List.getElem?_eq_none (by omega)]; simp
  have hab : s.ab.length = 8 := hj.ab
  show (if _ then _ else _) = (if _ then _ else _)
  by_cases h1 : hasA s.ab sym = true
  · rw [if_pos h1, if_pos h1]
  · rw [if_neg h1, if_neg h1]
    by_cases h2 : s.b = s.a + 1 ∧ w[s.a]? = some sym
    · rw [if_pos h2, if_pos h2]
    · rw [if_neg h2, if_neg h2]
      congr 1
      refine sum_eq fun k hk => ?_
      unfold prodsOf at hk
      rw [List.mem_filter, List.mem_range, decide_eq_true_eq] at hk
      have hs : 100 ≤ sym ∧ sym < 108 := by
        rw [← hk.2, List.getD_eq_getElem?_getD, List.getElem?_eq_getElem hk.1]
        exact (h6 _ (List.getElem_mem hk.1)).2
      have hm := mu_row ps (k := k) hab (g6 k) hs (by simpa using h1)
      exact val_num m ps w h6 (j := .row k 0 ⟨s.a, s.b, withA s.ab sym⟩) ⟨by show (withA s.ab sym).length = 8; unfold withA; rw [List.length_set]; exact hab, hj.le⟩ _ hm
/-- What a row's number is made of. -/
theorem num_row (h6 : ∀ p ∈ ps, p.2.length ≤ 6 ∧ 100 ≤ p.1 ∧ p.1 < 108) {p d : Nat} {s : Spn} (hj : Fit (.row p d s)) : num m ps w (.row p d s) = if (ps.getD p (0, [])).2.length ≤ d then (if s.a = s.b then min 1 m else 0)
    else min m (sumTo (s.b - s.a + 1) fun n => num m ps w (.goal ((ps.getD p (0, [])).2.getD d 0) (fst_ s n)) * num m ps w (.row p (d + 1) (snd_ s n))) := by
  have g6 : ∀ k, (ps.getD k (0, [])).2.length ≤ 6 := fun k => by
    by_cases hk : k < ps.length
    · rw [List.getD_eq_getElem?_getD, List.getElem?_eq_getElem hk]
      exact (h6 _ (List.getElem_mem hk)).1
    · rw [List.getD_eq_getElem?_getD, List.getElem?_eq_none (by omega)]; simp
  have hab : s.ab.length = 8 := hj.ab
  have hle : s.a ≤ s.b := hj.le
  show (if _ then _ else _) = (if _ then _ else _)
  by_cases h1 : (ps.getD p (0, [])).2.length ≤ d
  · rw [if_pos h1, if_pos h1]
  · rw [if_neg h1, if_neg h1]
    congr 1
    refine sumTo_le fun n hn => ?_
    have m1 := mu_fst ps (p := p) (d := d) (y := (ps.getD p (0, [])).2.getD d 0) hab (show n ≤ s.b - s.a by omega) hle
    have m2 := mu_snd ps (p := p) (d := d) hab (g6 p) (by omega) (show n ≤ s.b - s.a by omega) hle
    have i1 := val_num m ps w h6 (j := .goal ((ps.getD p (0, [])).2.getD d 0) (fst_ s n)) ⟨fit_fst hab, by show s.a ≤ s.a + n; omega⟩ _ m1
    have i2 := val_num m ps w h6 (j := .row p (d + 1) (snd_ s n)) ⟨fit_snd hab, by show s.a + n ≤ s.b; omega⟩ _ m2
    rw [i1, i2]
end Go.Proofs.Ytgfkkbpnphbdgaa.Dr
namespace Go.Proofs.Ytgfkkbpnphbdgaa.Dr
open Doc

variable (m : Nat) (ps : List (Int × List Int)) (w : List Int)
/-- All of them. -/
def lst : Nat → Job → List (List Tr)
  | 0, _ => []
  | f + 1, .goal sym s =>
    if hasA s.ab sym = true then [] else if s.b = s.a + 1 ∧ w[s.a]? = some sym then [[.mk sym (-1) []]]
    else (prodsOf ps sym).flatMap fun k => (lst f (.row k 0 ⟨s.a, s.b, withA s.ab sym⟩)).map fun ks => [.mk sym k ks]
  | f + 1, .row p d s =>
    if (ps.getD p (0, [])).2.length ≤ d then (if s.a = s.b then [[]] else [])
    else (List.range (s.b - s.a + 1)).flatMap fun n => (lst f (.goal ((ps.getD p (0, [])).2.getD d 0) (fst_ s n))).flatMap fun t => (lst f (.row p (d + 1) (snd_ s n))).map fun ks => t ++ ks

theorem min_sum {α : Type} (l : List α) (f : α → Nat) : min m ((l.map fun x => min m (f x)).sum) = min m ((l.map f).sum) := by
  induction l with
  | nil => rfl
  | cons x l ih => simp only [List.map_cons, List.sum_cons]; omega
theorem min_mul (x y : Nat) : min m (min m x * min m y) = min m (x * y) := by
  by_cases hx : x ≤ m
  · rw [Nat.min_eq_right hx]
    by_cases hy : y ≤ m
    · rw [Nat.min_eq_right hy]
    · rw [Nat.min_eq_left (show m ≤ y by omega)]
      rcases Nat.eq_zero_or_pos x with rfl | h
      · simp
      · have h1 : m ≤ x * m := Nat.le_mul_of_pos_left m h
        have h2 : m ≤ x * y := Nat.le_trans (show m ≤ y by omega) (Nat.le_mul_of_pos_left y h)
        omega
  · rw [Nat.min_eq_left (show m ≤ x by omega)]
    rcases Nat.eq_zero_or_pos y with rfl | h
    · simp
    · rcases Nat.eq_zero_or_pos m with rfl | hm
      · simp
      · have h1 : m ≤ m * min m y := Nat.le_mul_of_pos_right m (by omega)
        have h2 : m ≤ x * y := Nat.le_trans (show m ≤ x by omega) (Nat.le_mul_of_pos_right x h)
        omega
theorem min_sum_mul {α : Type} (l : List α) (f g : α → Nat) : min m ((l.map fun x => min m (f x) * min m (g x)).sum) = min m ((l.map fun x => f x * g x).sum) := by
  rw [← min_sum m l fun x => min m (f x) * min m (g x), ← min_sum m l fun x => f x * g x]
  congr 2
  exact List.map_congr_left fun x _ => min_mul m _ _
theorem len_pairs {α β : Type} (l : List (List α)) (r : List (List α)) : (l.flatMap fun t => r.map fun ks => t ++ ks).length = l.length * r.length := by
  induction l with
  | nil => simp
  | cons x l ih => rw [List.flatMap_cons, List.length_append, ih, List.length_map, List.length_cons, Nat.succ_mul, Nat.add_comm]
theorem val_len : ∀ (f : Nat) (j : Job), val m ps w f j = min m (lst ps w f j).length
  | 0, j => by simp [val, lst]
  | f + 1, .goal sym s => by
    simp only [val, lst]
    by_cases h1 : hasA s.ab sym = true
    · rw [if_pos h1, if_pos h1]; simp
    · rw [if_neg h1, if_neg h1]
      by_cases h2 : s.b = s.a + 1 ∧ w[s.a]? = some sym
      · rw [if_pos h2, if_pos h2]; simp [Nat.min_comm]
      · rw [if_neg h2, if_neg h2, List.length_flatMap]
        simp only [List.length_map, val_len f]
        exact min_sum m _ _
  | f + 1, .row p d s => by
    simp only [val, lst]
    by_cases h1 : (ps.getD p (0, [])).2.length ≤ d
    · rw [if_pos h1, if_pos h1]
      by_cases h2 : s.a = s.b
      · rw [if_pos h2, if_pos h2]; simp [Nat.min_comm]
      · rw [if_neg h2, if_neg h2]; simp
    · rw [if_neg h1, if_neg h1, List.length_flatMap]
      unfold sumTo
      simp only [len_pairs (β := Tr), val_len f]
      exact min_sum_mul m _ _ _
theorem flat_eq {α β : Type} {l : List α} {f g : α → List β} (h : ∀ x ∈ l, f x = g x) : l.flatMap f = l.flatMap g := by
  rw [List.flatMap_def, List.flatMap_def, List.map_congr_left h]
/-- What a grammar must be. -/
def Six (ps : List (Int × List Int)) : Prop := ∀ p ∈ ps, p.2.length ≤ 6 ∧ 100 ≤ p.1 ∧ p.1 < 108
theorem Six.len {ps : List (Int × List Int)} (h6 : Six ps) (k : Nat) : (ps.getD k (0, [])).2.length ≤ 6 := by
  by_cases hk : k < ps.length
  · rw [List.getD_eq_getElem?_getD, List.getElem?_eq_getElem hk]
    exact (h6 _ (List.getElem_mem hk)).1
  · rw [List.getD_eq_getElem?_getD, List.getElem?_eq_none (by omega)]; simp
theorem mem_prodsOf {ps : List (Int × List Int)} {sym : Int} {k : Nat} : k ∈ prodsOf ps sym ↔ k < ps.length ∧ (ps.getD k (0, [])).1 = sym := by
  unfold prodsOf
  rw [List.mem_filter, List.mem_range, decide_eq_true_eq]
theorem sym_in {ps : List (Int × List Int)} (h6 : Six ps) {sym : Int} {k : Nat} (hk : k ∈ prodsOf ps sym) : 100 ≤ sym ∧ sym < 108 := by
  obtain ⟨h1, h2⟩ := mem_prodsOf.1 hk
  rw [← h2, List.getD_eq_getElem?_getD, List.getElem?_eq_getElem h1]
  exact (h6 _ (List.getElem_mem h1)).2
theorem lst_more (h6 : Six ps) : ∀ (f : Nat) (j : Job), Fit j → mu ps j < f → lst ps w f j = lst ps w (f + 1) j := by
  intro f
  induction f with
  | zero => intro j _ h; omega
  | succ f ih =>
    intro j hj hf
    cases j with
    | goal sym s =>
      have hab : s.ab.length = 8 := hj.ab
      show (if _ then _ else _) = (if _ then _ else _)
      by_cases h1 : hasA s.ab sym = true
      · rw [if_pos h1, if_pos h1]
      · rw [if_neg h1, if_neg h1]
        by_cases h2 : s.b = s.a + 1 ∧ w[s.a]? = some sym
        · rw [if_pos h2, if_pos h2]
        · rw [if_neg h2, if_neg h2]
          refine flat_eq fun k hk => ?_
          have hm := mu_row ps (k := k) hab (h6.len k) (sym_in h6 hk) (by simpa using h1)
          rw [ih (.row k 0 ⟨s.a, s.b, withA s.ab sym⟩) ⟨by show (withA s.ab sym).length = 8; unfold withA; rw [List.length_set]; exact hab, hj.le⟩ (by omega)]
    | row p d s =>
      have hab : s.ab.length = 8 := hj.ab
      have hle : s.a ≤ s.b := hj.le
      show (if _ then _ else _) = (if _ then _ else _)
      by_cases h1 : (ps.getD p (0, [])).2.length ≤ d
      · rw [if_pos h1, if_pos h1]
      · rw [if_neg h1, if_neg h1]
        refine flat_eq fun n hn => ?_
        rw [List.mem_range] at hn
        have m1 := mu_fst ps (p := p) (d := d) (y := (ps.getD p (0, [])).2.getD d 0) hab (show n ≤ s.b - s.a by omega) hle
        have m2 := mu_snd ps (p := p) (d := d) hab (h6.len p) (by omega) (show n ≤ s.b - s.a by omega) hle
        have i1 := ih (.goal ((ps.getD p (0, [])).2.getD d 0) (fst_ s n)) ⟨fit_fst hab, by show s.a ≤ s.a + n; omega⟩ (by omega)
        have i2 := ih (.row p (d + 1) (snd_ s n)) ⟨fit_snd hab, by show s.a + n ≤ s.b; omega⟩ (by omega)
        rw [i1, i2]
/-- All of a job. -/
def all (j : Job) : List (List Tr) := lst ps w (mu ps j + 1) j
theorem lst_all (h6 : Six ps) {j : Job} (hj : Fit j) : ∀ f : Nat, mu ps j < f → lst ps w f j = all ps w j := by
  intro f hf
  induction f with
  | zero => omega
  | succ f ih =>
    by_cases h : mu ps j < f
    · rw [← lst_more ps w h6 f j hj h]; exact ih h
    · obtain rfl : f = mu ps j := by omega
      rfl
theorem num_all (j : Job) : num m ps w j = min m (all ps w j).length := val_len m ps w _ j
theorem fit_with {sym : Int} {s : Spn} {k : Nat} (hj : Fit (.goal sym s)) : Fit (.row k 0 ⟨s.a, s.b, withA s.ab sym⟩) := ⟨by show (withA s.ab sym).length = 8; unfold withA; rw [List.length_set]; exact hj.ab, hj.le⟩
theorem all_goal (h6 : Six ps) {sym : Int} {s : Spn} (hj : Fit (.goal sym s)) : all ps w (.goal sym s) = if hasA s.ab sym = true then [] else if s.b = s.a + 1 ∧ w[s.a]? = some sym then [[.mk sym (-1) []]]
    else (prodsOf ps sym).flatMap fun k => (all ps w (.row k 0 ⟨s.a, s.b, withA s.ab sym⟩)).map fun ks => [.mk sym k ks] := by
  show (if _ then _ else _) = (if _ then _ else _)
  by_cases h1 : hasA s.ab sym = true
  · rw [if_pos h1, if_pos h1]
  · rw [if_neg h1, if_neg h1]
    by_cases h2 : s.b = s.a + 1 ∧ w[s.a]? = some sym
    · rw [if_pos h2, if_pos h2]
    · rw [if_neg h2, if_neg h2]
      refine flat_eq fun k hk => ?_
      rw [lst_all ps w h6 (fit_with hj) _ (mu_row ps (k := k) hj.ab (h6.len k) (sym_in h6 hk) (by simpa using h1))]
theorem all_row (h6 : Six ps) {p d : Nat} {s : Spn} (hj : Fit (.row p d s)) : all ps w (.row p d s) = if (ps.getD p (0, [])).2.length ≤ d then (if s.a = s.b then [[]] else [])
    else (List.range (s.b - s.a + 1)).flatMap fun n => (all ps w (.goal ((ps.getD p (0, [])).2.getD d 0) (fst_ s n))).flatMap fun t => (all ps w (.row p (d + 1) (snd_ s n))).map fun ks => t ++ ks := by
  have hab : s.ab.length = 8 := hj.ab
  have hle : s.a ≤ s.b := hj.le
  show (if _ then _ else _) = (if _ then _ else _)
  by_cases h1 : (ps.getD p (0, [])).2.length ≤ d
  · rw [if_pos h1, if_pos h1]
  · rw [if_neg h1, if_neg h1]
    refine flat_eq fun n hn => ?_
    rw [List.mem_range] at hn
    have m1 := mu_fst ps (p := p) (d := d) (y := (ps.getD p (0, [])).2.getD d 0) hab (show n ≤ s.b - s.a by omega) hle
    have m2 := mu_snd ps (p := p) (d := d) hab (h6.len p) (by omega) (show n ≤ s.b - s.a by omega) hle
    rw [lst_all ps w h6 (j := .goal ((ps.getD p (0, [])).2.getD d 0) (fst_ s n)) ⟨fit_fst hab, by show s.a ≤ s.a + n; omega⟩ _ m1, lst_all ps w h6 (j := .row p (d + 1) (snd_ s n)) ⟨fit_snd hab, by show s.a + n ≤ s.b; omega⟩ _ m2]

/-! ### There is one just where the form comes of the symbol -/
/-- The part of the form from a to b. -/
def seg (a b : Nat) : List Int := (w.drop a).take (b - a)
theorem seg_join {a c b : Nat} (h1 : a ≤ c) (h2 : c ≤ b) : seg w a b = seg w a c ++ seg w c b := by
  unfold seg
  rw [show b - a = (c - a) + (b - c) by omega, List.take_add, List.drop_drop, show a + (c - a) = c by omega]
theorem seg_self (a : Nat) : seg w a a = [] := by unfold seg; simp
theorem seg_one {a : Nat} {x : Int} (h : w[a]? = some x) : seg w a (a + 1) = [x] := by
  unfold seg
  rw [show a + 1 - a = 1 by omega]
  obtain ⟨hl, hx⟩ := List.getElem?_eq_some_iff.1 h
  rw [List.drop_eq_getElem_cons hl, hx]; rfl
theorem seg_len {a b : Nat} (h1 : a ≤ b) (h2 : b ≤ w.length) : (seg w a b).length = b - a := by unfold seg; rw [List.length_take, List.length_drop]; omega
/-- What all of a job come to. -/
def Sound (j : Job) : Prop := match j with
  | .goal sym s => DerOne sym s
  | .row p d s => DerRow p d s
where
  DerOne (sym : Int) (s : Spn) : Prop := Sp.DerF ps [sym] (seg w s.a s.b)
  DerRow (p d : Nat) (s : Spn) : Prop := Sp.DerF ps ((ps.getD p (0, [])).2.drop d) (seg w s.a s.b)
theorem lst_sound : ∀ (f : Nat) (j : Job), Fit j → (match j with | .goal _ _ => True | .row p _ _ => p < ps.length) → lst ps w f j ≠ [] → Sound ps w j
  | 0, j, _, _, h => absurd rfl h
  | f + 1, .goal sym s, hj, _, h => by
    simp only [lst] at h
    by_cases h1 : hasA s.ab sym = true
    · rw [if_pos h1] at h; exact absurd rfl h
    · rw [if_neg h1] at h
      show Sp.DerF ps [sym] (seg w s.a s.b)
      by_cases h2 : s.b = s.a + 1 ∧ w[s.a]? = some sym
      · rw [h2.1, seg_one w h2.2]; exact Sp.DerF.refl _
      · rw [if_neg h2] at h
        obtain ⟨x, hx⟩ := List.exists_mem_of_ne_nil _ h
        obtain ⟨k, hk, hx⟩ := List.mem_flatMap.1 hx
        have hs := lst_sound f (.row k 0 ⟨s.a, s.b, withA s.ab sym⟩) (fit_with hj) (mem_prodsOf.1 hk).1 (by intro e; rw [e] at hx; simp at hx)
        obtain ⟨hk1, hk2⟩ := mem_prodsOf.1 hk
        have hs' : Sp.DerF ps ((ps.getD k (0, [])).2.drop 0) (seg w s.a s.b) := hs
        rw [List.drop_zero] at hs'
        exact Sp.DerF.one.2 (.inr ⟨ps.getD k (0, []), by rw [List.getD_eq_getElem?_getD, List.getElem?_eq_getElem hk1]; exact List.getElem_mem hk1, hk2, hs'⟩)
  | f + 1, .row p d s, hj, hp, h => by
    have hab : s.ab.length = 8 := hj.ab
    have hle : s.a ≤ s.b := hj.le
    simp only [lst] at h
    show Sp.DerF ps ((ps.getD p (0, [])).2.drop d) (seg w s.a s.b)
    by_cases h1 : (ps.getD p (0, [])).2.length ≤ d
    · rw [if_pos h1] at h
      by_cases h2 : s.a = s.b
      · rw [List.drop_eq_nil_of_le h1, h2, seg_self]; exact .nil
      · rw [if_neg h2] at h; exact absurd rfl h
    · rw [if_neg h1] at h
      obtain ⟨x, hx⟩ := List.exists_mem_of_ne_nil _ h
      obtain ⟨n, hn, hx⟩ := List.mem_flatMap.1 hx
      obtain ⟨t, ht, hx⟩ := List.mem_flatMap.1 hx
      rw [List.mem_range] at hn
      have s1 := lst_sound f (.goal ((ps.getD p (0, [])).2.getD d 0) (fst_ s n)) ⟨fit_fst hab, by show s.a ≤ s.a + n; omega⟩ trivial (by intro e; rw [e] at ht; cases ht)
      have s2 := lst_sound f (.row p (d + 1) (snd_ s n)) ⟨fit_snd hab, by show s.a + n ≤ s.b; omega⟩ hp (by intro e; rw [e] at hx; simp at hx)
      have s1' : Sp.DerF ps [(ps.getD p (0, [])).2.getD d 0] (seg w s.a (s.a + n)) := s1
      have s2' : Sp.DerF ps ((ps.getD p (0, [])).2.drop (d + 1)) (seg w (s.a + n) s.b) := s2
      have hdl : d < (ps.getD p (0, [])).2.length := by omega
      rw [List.drop_eq_getElem_cons hdl, seg_join w (show s.a ≤ s.a + n by omega) (show s.a + n ≤ s.b by omega)]
      have := Sp.DerF.join s1' s2'
      rwa [List.getD_eq_getElem?_getD, List.getElem?_eq_getElem hdl, Option.getD_some] at this
/-- Kids, one behind the other. -/
def RowD (P : Int → Nat → Nat → Prop) : List Int → Nat → Nat → Prop
  | [], a, b => a = b
  | y :: r, a, b => ∃ c, a ≤ c ∧ c ≤ b ∧ P y a c ∧ RowD P r c b
/-- By trees of that height. -/
def D : Nat → Int → Nat → Nat → Prop
  | 0, x, a, b => b = a + 1 ∧ w[a]? = some x
  | k + 1, x, a, b => D k x a b ∨ ∃ p ∈ ps, p.1 = x ∧ RowD (D k) p.2 a b
theorem RowD.mono {P Q : Int → Nat → Nat → Prop} (h : ∀ x a b, P x a b → Q x a b) : ∀ {r : List Int} {a b : Nat}, RowD P r a b → RowD Q r a b
  | [], _, _, e => e
  | y :: r, a, b, ⟨c, h1, h2, h3, h4⟩ => ⟨c, h1, h2, h _ _ _ h3, RowD.mono h h4⟩
theorem D.more {k : Nat} {x : Int} {a b : Nat} (h : D ps w k x a b) : ∀ i, D ps w (k + i) x a b
  | 0 => h
  | i + 1 => .inl (D.more h i)
theorem D.le {k k' : Nat} {x : Int} {a b : Nat} (h : D ps w k x a b) (hk : k ≤ k') : D ps w k' x a b := by
  have := D.more ps w h (k' - k)
  rwa [show k + (k' - k) = k' by omega] at this
theorem row_of_der {r u : List Int} (h : Sp.DerF ps r u) : ∀ a b, a ≤ b → b ≤ w.length → seg w a b = u → ∃ k, RowD (D ps w k) r a b := by
  induction h with
  | nil =>
    intro a b h1 h2 h3
    have := seg_len w h1 h2
    rw [h3] at this
    exact ⟨0, show a = b by simp at this; omega⟩
  | leaf s r v _ ih =>
    intro a b h1 h2 h3
    have hl := seg_len w h1 h2
    rw [h3, List.length_cons] at hl
    have hs : w[a]? = some s := by
      have : (seg w a b)[0]? = some s := by rw [h3]; rfl
      unfold seg at this
      rw [List.getElem?_take, if_pos (by omega), List.getElem?_drop] at this
      simpa using this
    have hj := seg_join w (show a ≤ a + 1 by omega) (show a + 1 ≤ b by omega)
    rw [h3, seg_one w hs] at hj
    obtain ⟨k, hk⟩ := ih (a + 1) b (by omega) h2 (by simpa using hj.symm)
    exact ⟨k, a + 1, by omega, by omega, D.le ps w (show D ps w 0 s a (a + 1) from ⟨rfl, hs⟩) (Nat.zero_le _), hk⟩
  | non p r v u hp _ _ ih1 ih2 =>
    intro a b h1 h2 h3
    have hl := seg_len w h1 h2
    rw [h3, List.length_append] at hl
    have hj := seg_join w (show a ≤ a + v.length by omega) (show a + v.length ≤ b by omega)
    rw [h3] at hj
    have hl2 := seg_len w (show a ≤ a + v.length by omega) (show a + v.length ≤ w.length by omega)
    have hv : seg w a (a + v.length) = v := (List.append_inj_left hj (by omega)).symm
    have hu : seg w (a + v.length) b = u := (List.append_inj_right hj (by omega)).symm
    obtain ⟨k1, q1⟩ := ih1 a (a + v.length) (by omega) (by omega) hv
    obtain ⟨k2, q2⟩ := ih2 (a + v.length) b (by omega) h2 hu
    refine ⟨max (k1 + 1) k2, a + v.length, by omega, by omega, D.le ps w (k := k1 + 1) (.inr ⟨p, hp, rfl, q1⟩) (by omega), RowD.mono (fun x a b h => D.le ps w h (by omega)) q2⟩
theorem hasA_with {ab : List Bool} {x y : Int} (h8 : ab.length = 8) (hx : 100 ≤ x ∧ x < 108) (h : hasA (withA ab x) y = true) : y = x ∨ hasA ab y = true := by
  unfold hasA withA at h
  rw [Bool.and_eq_true, decide_eq_true_eq] at h
  obtain ⟨h1, h2⟩ := h
  by_cases e : y = x
  · exact .inl e
  · refine .inr ?_
    unfold hasA
    rw [decide_eq_true h1, Bool.true_and]
    rw [List.getD_eq_getElem?_getD, List.getElem?_set] at h2
    rw [List.getD_eq_getElem?_getD]
    rw [if_neg (by omega)] at h2
    exact h2
theorem hasA_none (y : Int) : hasA none8 y = false := by
  unfold hasA none8
  rw [List.getD_eq_getElem?_getD]
  by_cases h : (y - 100).toNat < 8
  · rw [List.getElem?_replicate, if_pos h]; simp
  · rw [List.getElem?_replicate, if_neg h]; simp
theorem least_ex {P : Nat → Prop} (h : ∃ i, P i) : ∃ i, P i ∧ ∀ j, j < i → ¬ P j := by
  obtain ⟨i, hi⟩ := h
  induction i using Nat.strongRecOn with
  | ind i ih =>
    by_cases hx : ∃ j, j < i ∧ P j
    · obtain ⟨j, hj, hp⟩ := hx
      exact ih j hj hp
    · exact ⟨i, hi, fun j hj hp => hx ⟨j, hj, hp⟩⟩
theorem rows_some (h6 : Six ps) {k : Nat} (ih : ∀ k', k' ≤ k → ∀ x s, Fit (.goal x s) → D ps w k' x s.a s.b → (∀ i, i < k' → ¬ D ps w i x s.a s.b) → (∀ y, hasA s.ab y = true → ¬ D ps w k' y s.a s.b) → all ps w (.goal x s) ≠ []) :
    ∀ (n p d : Nat) (s : Spn), (ps.getD p (0, [])).2.length - d = n → Fit (.row p d s) → RowD (D ps w k) ((ps.getD p (0, [])).2.drop d) s.a s.b → (∀ y, hasA s.ab y = true → ¬ D ps w k y s.a s.b) → all ps w (.row p d s) ≠ [] := by
  intro n
  induction n with
  | zero =>
    intro p d s hn hf h1 h2
    rw [all_row ps w h6 hf, if_pos (by omega)]
    rw [List.drop_eq_nil_of_le (by omega)] at h1
    rw [if_pos (show s.a = s.b from h1)]
    simp
  | succ n ihn =>
    intro p d s hn hf h1 h2
    have hdl : d < (ps.getD p (0, [])).2.length := by omega
    rw [List.drop_eq_getElem_cons hdl] at h1
    obtain ⟨c, hc1, hc2, h3, h4⟩ := h1
    rw [all_row ps w h6 hf, if_neg (by omega)]
    have hy : (ps.getD p (0, [])).2.getD d 0 = (ps.getD p (0, [])).2[d] := by rw [List.getD_eq_getElem?_getD, List.getElem?_eq_getElem hdl]; rfl
    -- the least height of the first kid
    obtain ⟨i, hi, hmin⟩ : ∃ i, D ps w i (ps.getD p (0, [])).2[d] s.a c ∧ ∀ j, j < i → ¬ D ps w j (ps.getD p (0, [])).2[d] s.a c := least_ex ⟨k, h3⟩
    have hik : i ≤ k := by
      by_cases h : i ≤ k
      · exact h
      · exact absurd h3 (hmin k (by omega))
    have hfs : fst_ s (c - s.a) = ⟨s.a, c, if c = s.b then s.ab else none8⟩ := by unfold fst_; rw [show s.a + (c - s.a) = c by omega]
    have hsn : snd_ s (c - s.a) = ⟨c, s.b, if c = s.a then s.ab else none8⟩ := by
      unfold snd_; rw [show s.a + (c - s.a) = c by omega]
      congr 1
      by_cases e : c = s.a
      · rw [if_pos e, if_pos (by omega)]
      · rw [if_neg e, if_neg (by omega)]
    have g1 : all ps w (.goal ((ps.getD p (0, [])).2.getD d 0) (fst_ s (c - s.a))) ≠ [] := by
      rw [hy]
      refine ih i hik _ _ ⟨fit_fst hf.ab, by show s.a ≤ s.a + (c - s.a); omega⟩ (by rw [hfs]; exact hi) (by rw [hfs]; exact hmin) ?_
      rw [hfs]
      intro y hys hd
      simp only at hys hd
      by_cases e : c = s.b
      · rw [if_pos e] at hys
        exact h2 y hys (D.le ps w (e ▸ hd) hik)
      · rw [if_neg e, hasA_none] at hys; cases hys
    have g2 : all ps w (.row p (d + 1) (snd_ s (c - s.a))) ≠ [] := by
      refine ihn p (d + 1) _ (by omega) ⟨fit_snd hf.ab, by show s.a + (c - s.a) ≤ s.b; omega⟩ (by rw [hsn]; exact h4) ?_
      rw [hsn]
      intro y hys hd
      simp only at hys hd
      by_cases e : c = s.a
      · rw [if_pos e] at hys
        exact h2 y hys (e ▸ hd)
      · rw [if_neg e, hasA_none] at hys; cases hys
    obtain ⟨t, ht⟩ := List.exists_mem_of_ne_nil _ g1
    obtain ⟨ks, hks⟩ := List.exists_mem_of_ne_nil _ g2
    refine List.ne_nil_of_mem (a := t ++ ks) ?_
    exact List.mem_flatMap.2 ⟨c - s.a, List.mem_range.2 (by omega), List.mem_flatMap.2 ⟨t, ht, List.mem_map.2 ⟨ks, hks, rfl⟩⟩⟩
theorem goal_some (h6 : Six ps) : ∀ (k : Nat) (x : Int) (s : Spn), Fit (.goal x s) → D ps w k x s.a s.b → (∀ i, i < k → ¬ D ps w i x s.a s.b) → (∀ y, hasA s.ab y = true → ¬ D ps w k y s.a s.b) → all ps w (.goal x s) ≠ [] := by
  intro k
  induction k using Nat.strongRecOn with
  | ind k ih =>
    intro x s hf h1 h2 h3
    rw [all_goal ps w h6 hf]
    by_cases e1 : hasA s.ab x = true
    · exact absurd h1 (h3 x e1)
    · rw [if_neg e1]
      by_cases e2 : s.b = s.a + 1 ∧ w[s.a]? = some x
      · rw [if_pos e2]; simp
      · rw [if_neg e2]
        cases k with
        | zero => exact absurd h1 e2
        | succ k =>
          rcases h1 with h1 | ⟨p, hp, hpx, hr⟩
          · exact absurd h1 (h2 k (by omega))
          · obtain ⟨i, hi⟩ := List.getElem?_of_mem hp
            have hil := (List.getElem?_eq_some_iff.1 hi).1
            have hgi : ps.getD i (0, []) = p := by rw [List.getD_eq_getElem?_getD, hi]; rfl
            have hx := (h6 p hp).2
            rw [hpx] at hx
            have hne := rows_some ps w h6 (k := k) (fun k' hk' x s => ih k' (by omega) x s) _ i 0 ⟨s.a, s.b, withA s.ab x⟩ rfl (fit_with hf) (by rw [hgi, List.drop_zero]; exact hr) (fun y hy hd => by
              rcases hasA_with hf.ab hx hy with rfl | hy
              · exact h2 k (by omega) hd
              · exact h3 y hy (.inl hd))
            obtain ⟨ks, hks⟩ := List.exists_mem_of_ne_nil _ hne
            exact List.ne_nil_of_mem (List.mem_flatMap.2 ⟨i, mem_prodsOf.2 ⟨hil, by rw [hgi]; exact hpx⟩, List.mem_map.2 ⟨ks, hks, rfl⟩⟩)
/-- The whole form. -/
def wholeJ (root : Int) : Job := .goal root ⟨0, w.length, none8⟩
theorem fit_whole (root : Int) : Fit (wholeJ w root) := ⟨rfl, Nat.zero_le _⟩
/-- There is a plain tree just where the form comes of the symbol. -/
theorem all_iff (h6 : Six ps) (root : Int) : all ps w (wholeJ w root) ≠ [] ↔ Sp.DerF ps [root] w := by
  have hw : seg w 0 w.length = w := by unfold seg; simp
  constructor
  · intro h
    have := lst_sound ps w _ (wholeJ w root) (fit_whole w root) trivial h
    have h' : Sp.DerF ps [root] (seg w 0 w.length) := this
    rwa [hw] at h'
  · intro h
    obtain ⟨k, hk⟩ := row_of_der ps w h 0 w.length (Nat.zero_le _) (Nat.le_refl _) hw
    obtain ⟨c, _, hc2, hd, hcb⟩ := hk
    obtain rfl : c = w.length := hcb
    obtain ⟨i, hi, hmin⟩ : ∃ i, D ps w i root 0 w.length ∧ ∀ j, j < i → ¬ D ps w j root 0 w.length := least_ex ⟨k, hd⟩
    exact goal_some ps w h6 i root ⟨0, w.length, none8⟩ (fit_whole w root) hi hmin (fun y hy => by rw [hasA_none] at hy; cases hy)
theorem can_iff (h6 : Six ps) (root : Int) : num 1 ps w (wholeJ w root) = 1 ↔ Sp.DerF ps [root] w := by
  rw [← all_iff ps w h6, num_all]
  constructor
  · intro h e; rw [e] at h; simp at h
  · intro h
    have := List.length_pos_iff.2 h
    omega
end Go.Proofs.Ytgfkkbpnphbdgaa.Dr
namespace Go.Proofs.Ytgfkkbpnphbdgaa.Dr
open Doc

variable (ps : List (Int × List Int)) (w : List Int)
/-- Of one production. -/
def ofP (x : Int) (s : Spn) (k : Nat) : List (List Tr) := if (ps.getD k (0, [])).1 = x then (all ps w (.row k 0 s)).map fun ks => [.mk x k ks] else []
/-- Of the productions from k on. -/
def gTail (x : Int) (s : Spn) (k : Nat) : List (List Tr) := (List.range' k (ps.length - k)).flatMap (ofP ps w x s)
theorem gTail_step {x : Int} {s : Spn} {k : Nat} (hk : k < ps.length) : gTail ps w x s k = ofP ps w x s k ++ gTail ps w x s (k + 1) := by
  unfold gTail
  rw [show ps.length - k = (ps.length - (k + 1)) + 1 by omega, List.range'_succ, List.flatMap_cons]
theorem gTail_end {x : Int} {s : Spn} {k : Nat} (hk : ps.length ≤ k) : gTail ps w x s k = [] := by
  unfold gTail
  rw [show ps.length - k = 0 by omega]; rfl
theorem flat_filter {α β : Type} (l : List α) (p : α → Bool) (f : α → List β) : (l.filter p).flatMap f = l.flatMap fun k => if p k = true then f k else [] := by
  induction l with
  | nil => rfl
  | cons x l ih =>
    rw [List.flatMap_cons, ← ih]
    by_cases h : p x = true
    · rw [List.filter_cons_of_pos h, List.flatMap_cons, if_pos h]
    · rw [List.filter_cons_of_neg h, if_neg h]; rfl
theorem gTail_all {x : Int} {s : Spn} : gTail ps w x s 0 = (prodsOf ps x).flatMap fun k => (all ps w (.row k 0 s)).map fun ks => [.mk x k ks] := by
  unfold gTail prodsOf
  rw [flat_filter, Nat.sub_zero, ← List.range_eq_range']
  congr 1
  funext k
  unfold ofP
  simp only [decide_eq_true_eq]
/-- Of one size of the first kid. -/
def ofN (p d : Nat) (s : Spn) (n : Nat) : List (List Tr) := (all ps w (.goal ((ps.getD p (0, [])).2.getD d 0) (fst_ s n))).flatMap fun t => (all ps w (.row p (d + 1) (snd_ s n))).map fun ks => t ++ ks
def rTail (p d : Nat) (s : Spn) (n : Nat) : List (List Tr) := (List.range' n (s.b - s.a + 1 - n)).flatMap (ofN ps w p d s)
theorem rTail_step {p d : Nat} {s : Spn} {n : Nat} (hn : n ≤ s.b - s.a) : rTail ps w p d s n = ofN ps w p d s n ++ rTail ps w p d s (n + 1) := by
  unfold rTail
  rw [show s.b - s.a + 1 - n = (s.b - s.a + 1 - (n + 1)) + 1 by omega, List.range'_succ, List.flatMap_cons]
theorem rTail_end {p d : Nat} {s : Spn} {n : Nat} (hn : s.b - s.a < n) : rTail ps w p d s n = [] := by
  unfold rTail
  rw [show s.b - s.a + 1 - n = 0 by omega]; rfl
theorem rTail_all {p d : Nat} {s : Spn} : rTail ps w p d s 0 = (List.range (s.b - s.a + 1)).flatMap (ofN ps w p d s) := by
  unfold rTail
  rw [Nat.sub_zero, ← List.range_eq_range']
theorem pairs_get {β : Type} (l r : List (List β)) : ∀ i, i < l.length * r.length → (l.flatMap fun t => r.map fun ks => t ++ ks)[i]? = some (l.getD (i / r.length) [] ++ r.getD (i % r.length) []) := by
  induction l with
  | nil => intro i h; simp at h
  | cons t l ih =>
    intro i h
    rw [List.length_cons, Nat.succ_mul] at h
    rw [List.flatMap_cons]
    have hr : 0 < r.length := by
      rcases Nat.eq_zero_or_pos r.length with e | e
      · rw [e] at h; simp at h
      · exact e
    by_cases hi : i < r.length
    · rw [List.getElem?_append_left (by rw [List.length_map]; exact hi), List.getElem?_map, List.getElem?_eq_getElem hi, Nat.div_eq_of_lt hi, Nat.mod_eq_of_lt hi]
      simp only [Option.map_some, List.getD_eq_getElem?_getD, List.getElem?_eq_getElem hi, List.getElem?_cons_zero, Option.getD_some]
    · rw [List.getElem?_append_right (by rw [List.length_map]; omega), List.length_map, ih _ (by omega)]
      have e1 : i / r.length = (i - r.length) / r.length + 1 := by
        rw [show i = (i - r.length) + r.length by omega, Nat.add_div_right _ hr]; simp
      have e2 : i % r.length = (i - r.length) % r.length := by
        rw [show i = (i - r.length) + r.length by omega, Nat.add_mod_right]; simp
      rw [e1, e2]
      simp only [List.getD_cons_succ]
theorem cut_lt {m x y q : Nat} (hq : q < m) (h : q < min m x * min m y) : 0 < min m y ∧ q / min m y = q / y ∧ q % min m y = q % y ∧ q / y < x ∧ q % y < y ∧ q < x * y ∧ q / y < m ∧ q % y < m := by
  have hy : 0 < y := by
    rcases Nat.eq_zero_or_pos y with e | e
    · subst e; simp at h
    · exact e
  have hxy : q < x * y := Nat.lt_of_lt_of_le h (Nat.mul_le_mul (Nat.min_le_right _ _) (Nat.min_le_right _ _))
  have h1 : q / y < x := Nat.div_lt_of_lt_mul (by rw [Nat.mul_comm]; exact hxy)
  have h2 : q % y < y := Nat.mod_lt _ hy
  have h3 : q / y ≤ q := Nat.div_le_self _ _
  have h4 : q % y ≤ q := Nat.mod_le _ _
  refine ⟨by omega, ?_, ?_, h1, h2, hxy, by omega, by omega⟩
  · by_cases hm : y ≤ m
    · rw [Nat.min_eq_right hm]
    · rw [Nat.min_eq_left (by omega), Nat.div_eq_of_lt hq, Nat.div_eq_of_lt (by omega)]
  · by_cases hm : y ≤ m
    · rw [Nat.min_eq_right hm]
    · rw [Nat.min_eq_left (by omega), Nat.mod_eq_of_lt hq, Nat.mod_eq_of_lt (by omega)]
theorem cut_ge {m x y q : Nat} (hq : q < m) (h : ¬ q < min m x * min m y) : min m x * min m y = x * y ∧ x * y ≤ q := by
  have h1 := min_mul m x y
  generalize min m x * min m y = a at *
  generalize x * y = b at *
  omega
theorem cut_ge1 {m x q : Nat} (hq : q < m) (h : ¬ q < min m x) : min m x = x ∧ x ≤ q := by omega
end Go.Proofs.Ytgfkkbpnphbdgaa.Dr
