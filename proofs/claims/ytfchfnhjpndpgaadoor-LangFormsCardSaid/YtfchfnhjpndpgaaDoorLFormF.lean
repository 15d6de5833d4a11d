/- The grammar of LangForms: its words, in plain terms; Has and Begins of whatever row. -/
import Derived.Test.YtfchfnhjpndpgaaDoorTrkV
import Derived.Test.YtfchfnhjpndpgaaDoorRParse
set_option linter.unusedVariables false
namespace Go.Proofs.YtfchfnhjpndpgaaDoor
open Go.RowKit
open Doc

/-- What a row can stand for, if each nonterminal stands for no more than L says. -/
def rowSem (L : Int → List Int → Prop) : List Int → List Int → Prop
  | [], v => v = []
  | s :: r, v => ∃ a b, v = a ++ b ∧ ((s < 100 ∧ a = [s]) ∨ (¬ s < 100 ∧ L s a)) ∧ rowSem L r b
theorem der_sem {ps : List (Int × List Int)} {L : Int → List Int → Prop} (hL : ∀ p ∈ ps, ∀ v, rowSem L p.2 v → L p.1 v) {r v : List Int} (h : Wd.Der ps r v) : rowSem L r v := by
  induction h with
  | nil => rfl
  | term s r w hs _ ih => exact ⟨[s], w, rfl, .inl ⟨hs, rfl⟩, ih⟩
  | non p r v w hp h100 _ _ ih1 ih2 => exact ⟨v, w, rfl, .inr ⟨by omega, hL p hp v ih1⟩, ih2⟩
theorem sem_one {L : Int → List Int → Prop} {s : Int} {v : List Int} (hs : ¬ s < 100) (h : rowSem L [s] v) : L s v := by
  obtain ⟨a, b, rfl, h1, h2⟩ := h
  rcases h1 with ⟨h1, _⟩ | ⟨_, h1⟩
  · exact absurd h1 hs
  · have : b = [] := h2
    rw [this, List.append_nil]; exact h1
theorem sem_term {L : Int → List Int → Prop} {s : Int} {r v : List Int} (hs : s < 100) (h : rowSem L (s :: r) v) : ∃ b, v = s :: b ∧ rowSem L r b := by
  obtain ⟨a, b, rfl, h1, h2⟩ := h
  rcases h1 with ⟨_, rfl⟩ | ⟨h1, _⟩
  · exact ⟨b, rfl, h2⟩
  · exact absurd hs h1

def ff : Gr := ⟨[[97], [98], [99]], [[83], [85]], [(100, [1, 100, 2]), (100, [3]), (100, [1, 101]), (101, [101, 1])]⟩
theorem ff_parse : parse [83, 58, 32, 97, 32, 83, 32, 98, 32, 124, 32, 99, 32, 124, 32, 97, 32, 85, 10, 85, 58, 32, 85, 32, 97, 10] = .ok ff := by decide +kernel
theorem ff_check : CheckG ff := (chk_iff ff).1 (by decide +kernel)
def fn : Gr := ⟨[[97]], [[83]], [(100, [100, 1])]⟩
theorem fn_parse : parse [83, 58, 32, 83, 32, 97, 10] = .ok fn := by decide +kernel
theorem fn_check : CheckG fn := (chk_iff fn).1 (by decide +kernel)
/-- a .. a c b .. b -/
def acb : Nat → List Int
  | 0 => [3]
  | n + 1 => 1 :: (acb n ++ [2])
theorem ff_der {v : List Int} : Wd.Der ff.prods [100] v ↔ ∃ n, v = acb n := by
  constructor
  · intro h
    refine sem_one (s := 100) (by omega) (der_sem (L := fun s v => s = 100 ∧ ∃ n, v = acb n) (fun p hp v hv => ?_) h) |>.2
    simp only [ff, List.mem_cons, List.not_mem_nil, or_false] at hp
    rcases hp with rfl | rfl | rfl | rfl
    · obtain ⟨b, rfl, h2⟩ := sem_term (by omega) hv
      obtain ⟨a, c, rfl, h3, h4⟩ := h2
      obtain ⟨d, rfl, h5⟩ := sem_term (by omega) h4
      have : d = [] := h5
      subst this
      rcases h3 with ⟨h3, _⟩ | ⟨_, _, n, rfl⟩
      · omega
      · exact ⟨rfl, n + 1, rfl⟩
    · obtain ⟨b, rfl, h2⟩ := sem_term (by omega) hv
      have : b = [] := h2
      subst this
      exact ⟨rfl, 0, rfl⟩
    · obtain ⟨b, rfl, h2⟩ := sem_term (by omega) hv
      have h3 := sem_one (by omega) h2
      exact absurd h3.1 (by omega)
    · obtain ⟨a, c, rfl, h3, h4⟩ := hv
      rcases h3 with ⟨h3, _⟩ | ⟨_, h3, _⟩
      · omega
      · omega
  · rintro ⟨n, rfl⟩
    induction n with
    | zero => exact .non (100, [3]) [] [3] [] (by decide) (by decide) (.term 3 [] [] (by decide) .nil) .nil
    | succ n ih =>
      have h2 := der_two ih (Wd.Der.term (ps := ff.prods) 2 [] [] (by decide) .nil)
      have h3 := Wd.Der.non (ps := ff.prods) (100, [1, 100, 2]) [] (1 :: (acb n ++ [2])) [] (by decide) (by decide) (.term 1 [100, 2] _ (by decide) h2) .nil
      rw [List.append_nil] at h3
      exact h3
theorem fn_der {v : List Int} : ¬ Wd.Der fn.prods [100] v := by
  intro h
  refine sem_one (s := 100) (by omega) (der_sem (L := fun s v => False) (fun p hp v hv => ?_) h)
  simp only [fn, List.mem_cons, List.not_mem_nil, or_false] at hp
  subst hp
  obtain ⟨a, c, rfl, h3, h4⟩ := hv
  rcases h3 with ⟨h3, _⟩ | ⟨_, h3⟩
  · omega
  · exact h3
theorem acb_len : ∀ n, (acb n).length = 2 * n + 1
  | 0 => rfl
  | n + 1 => by simp [acb, acb_len n]; omega
def ffW : List (List Int) := [[3], [1, 3, 2], [1, 1, 3, 2, 2]]
theorem ff_short {v : List Int} (hv : v.length ≤ 6) : hasD ff v = decide (v ∈ ffW) := by
  rw [Bool.eq_iff_iff, hasD_iff, ff_der, decide_eq_true_iff]
  constructor
  · rintro ⟨n, rfl⟩
    rw [acb_len] at hv
    have : n = 0 ∨ n = 1 ∨ n = 2 := by omega
    rcases this with rfl | rfl | rfl <;> simp [acb, ffW]
  · intro h
    simp only [ffW, List.mem_cons, List.not_mem_nil, or_false] at h
    rcases h with rfl | rfl | rfl
    · exact ⟨0, rfl⟩
    · exact ⟨1, rfl⟩
    · exact ⟨2, rfl⟩
theorem ff_words : (Al.levs 3 6).filter (hasD ff) = ffW := by
  rw [List.filter_congr (q := fun v => decide (v ∈ ffW)) fun v hv => ff_short (Al.levs_word.1 hv).1]
  decide +kernel
theorem fn_words (n : Nat) : (Al.levs 1 n).filter (hasD fn) = [] := by
  rw [List.filter_eq_nil_iff]
  intro v _ h
  exact fn_der (hasD_iff.1 h)
theorem fn_beg (u : List Int) : begD fn u = false := by
  cases h : begD fn u with
  | false => rfl
  | true => obtain ⟨z, hz⟩ := begD_iff.1 h; exact absurd hz fn_der
theorem fn_has (u : List Int) : hasD fn u = false := by
  cases h : hasD fn u with
  | false => rfl
  | true => exact absurd (hasD_iff.1 h) fn_der
theorem ff_beg_yes {u : List Int} (n : Nat) (z : List Int) (h : u ++ z = acb n) : begD ff u = true := begD_iff.2 ⟨z, ff_der.2 ⟨n, h⟩⟩
theorem ff_beg_no {u : List Int} (h : ∀ n z, u ++ z ≠ acb n) : begD ff u = false := by
  cases hb : begD ff u with
  | false => rfl
  | true =>
    obtain ⟨z, hz⟩ := begD_iff.1 hb
    obtain ⟨n, hn⟩ := ff_der.1 hz
    exact absurd hn (h n z)
theorem ff_no {a : Int} {u : List Int} (ha : a ≠ 1) (hu : a = 3 → u ≠ []) : begD ff (a :: u) = false := ff_beg_no fun n z => by
  cases n with
  | zero =>
    intro e
    simp only [acb, List.cons_append, List.cons.injEq, List.append_eq_nil_iff] at e
    exact hu e.1 e.2.1
  | succ n =>
    intro e
    simp only [acb, List.cons_append, List.cons.injEq] at e
    exact ha e.1
theorem ff_no4 : begD ff [1, 3, 2, 2] = false := ff_beg_no fun n z => by
  match n with
  | 0 => intro e; simp [acb] at e
  | 1 => intro e; simp [acb] at e
  | n + 2 => intro e; simp [acb] at e
/-- May be asked: not too long, terminals of the grammar alone. -/
def okW (t : Nat) (u : List Int) : Bool := decide (u.length ≤ 12) && u.all fun s => !decide (s < 1 ∨ (t : Int) < s)
theorem okW_iff {t : Nat} {u : List Int} : okW t u = true ↔ u.length ≤ 12 ∧ ∀ s ∈ u, 1 ≤ s ∧ s ≤ (t : Int) := by
  unfold okW
  rw [Bool.and_eq_true, decide_eq_true_iff, List.all_eq_true]
  constructor
  · rintro ⟨h1, h2⟩
    exact ⟨h1, fun s hs => by have := h2 s hs; simp at this; omega⟩
  · rintro ⟨h1, h2⟩
    exact ⟨h1, fun s hs => by have := h2 s hs; simp; omega⟩
/-- The rows that LangForms asks for. -/
def ffT : List (List Int × Bool × Bool) := [([], false, true), ([3], true, true), ([1, 1, 1, 1], false, true), ([1, 3], false, true), ([3, 2], false, false), ([2], false, false), ([1, 1, 3, 2, 2], true, true), ([1, 3, 2, 2], false, false), ([0], false, false), ([4], false, false), (List.replicate 13 0, false, false)]
theorem ff_has_short {u : List Int} (b : Bool) (hu : u.length ≤ 6) (h : decide (u ∈ ffW) = b) : hasD ff u = b := (ff_short hu).trans h
theorem ff_told : ∀ x ∈ ffT, (okW 3 x.1 && hasD ff x.1) = x.2.1 ∧ (okW 3 x.1 && begD ff x.1) = x.2.2 := by
  intro x hx
  simp only [ffT, List.mem_cons, List.not_mem_nil, or_false] at hx
  rcases hx with rfl | rfl | rfl | rfl | rfl | rfl | rfl | rfl | rfl | rfl | rfl
  · exact ⟨by rw [ff_has_short false (by decide) (by decide)]; decide, by rw [ff_beg_yes (u := []) 0 [3] rfl]; decide⟩
  · exact ⟨by rw [ff_has_short true (by decide) (by decide)]; decide, by rw [ff_beg_yes (u := [3]) 0 [] rfl]; decide⟩
  · exact ⟨by rw [ff_has_short false (by decide) (by decide)]; decide, by rw [ff_beg_yes (u := [1, 1, 1, 1]) 4 [3, 2, 2, 2, 2] rfl]; decide⟩
  · exact ⟨by rw [ff_has_short false (by decide) (by decide)]; decide, by rw [ff_beg_yes (u := [1, 3]) 1 [2] rfl]; decide⟩
  · exact ⟨by rw [ff_has_short false (by decide) (by decide)]; decide, by rw [ff_no (by decide) (by simp)]; decide⟩
  · exact ⟨by rw [ff_has_short false (by decide) (by decide)]; decide, by rw [ff_no (by decide) (by simp)]; decide⟩
  · exact ⟨by rw [ff_has_short true (by decide) (by decide)]; decide, by rw [ff_beg_yes (u := [1, 1, 3, 2, 2]) 2 [] rfl]; decide⟩
  · exact ⟨by rw [ff_has_short false (by decide) (by decide)]; decide, by rw [ff_no4]; decide⟩
  · exact ⟨by rw [show okW 3 [0] = false by decide]; rfl, by rw [show okW 3 [0] = false by decide]; rfl⟩
  · exact ⟨by rw [show okW 3 [4] = false by decide]; rfl, by rw [show okW 3 [4] = false by decide]; rfl⟩
  · exact ⟨by rw [show okW 3 (List.replicate 13 0) = false by decide]; rfl, by rw [show okW 3 (List.replicate 13 0) = false by decide]; rfl⟩
end Go.Proofs.YtfchfnhjpndpgaaDoor
