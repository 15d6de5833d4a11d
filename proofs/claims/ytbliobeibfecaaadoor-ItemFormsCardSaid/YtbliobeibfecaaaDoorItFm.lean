/- ItemForms: the plain part. -/
import Derived.Test.YtbliobeibfecaaaDoorItU
import Derived.Test.YtbliobeibfecaaaDoorGParse
set_option linter.unusedVariables false
namespace Go.Proofs.YtbliobeibfecaaaDoor
open Go.RowKit
open Doc

def fi : Gr := ⟨[[98], [99], [97]], [[83], [65], [85]], [(100, [101, 1]), (100, [2, 102]), (101, []), (101, [3, 101]), (102, [102, 3])]⟩
theorem fi_parse : parse [83, 58, 32, 65, 32, 98, 32, 124, 32, 99, 32, 85, 10, 65, 58, 32, 124, 32, 97, 32, 65, 10, 85, 58, 32, 85, 32, 97, 10] = .ok fi := by decide +kernel
theorem fi_check : CheckG fi := (chk_iff fi).1 (by decide +kernel)
theorem fi_fru1 : Fru fi 101 := Fru.mk (101, []) (by simp [fi]) (by simp)
theorem fi_fru : Fru fi 100 := Fru.mk (100, [101, 1]) (by simp [fi]) (by
  intro s hs h
  simp only [List.mem_cons, List.not_mem_nil, or_false] at hs
  rcases hs with rfl | rfl
  · exact fi_fru1
  · omega)
theorem fi_dead {s : Int} (h : Fru fi s) : s ≠ 102 := by
  induction h with
  | mk p hp hs ih =>
    intro e
    simp only [fi, List.mem_cons, List.not_mem_nil, or_false] at hp
    rcases hp with rfl | rfl | rfl | rfl | rfl
    all_goals first | (simp at e; done) | exact ih 102 (by simp) (by omega) rfl
theorem fi_use {j : Nat} {q : Int × List Int} (h : fi.prods[j]? = some q) : Usable fi q ↔ j = 0 ∨ j = 2 ∨ j = 3 := by
  have hj : j < 5 := (List.getElem?_eq_some_iff.1 h).1
  constructor
  · intro hu
    by_cases h1 : j = 1
    · subst h1; cases h
      exact absurd rfl (fi_dead (hu 102 (by simp) (by omega)))
    by_cases h4 : j = 4
    · subst h4; cases h
      exact absurd rfl (fi_dead (hu 102 (by simp) (by omega)))
    omega
  · rintro (rfl | rfl | rfl)
    · cases h
      intro s hs hh
      simp only [List.mem_cons, List.not_mem_nil, or_false] at hs
      rcases hs with rfl | rfl
      · exact fi_fru1
      · omega
    · cases h
      intro s hs hh
      cases hs
    · cases h
      intro s hs hh
      simp only [List.mem_cons, List.not_mem_nil, or_false] at hs
      rcases hs with rfl | rfl
      · omega
      · exact fi_fru1
def rt0 (p : Int) : Option (List Int) := if p = -1 then some [100] else if p = 0 then some [101, 1] else if p = 2 then some [] else if p = 3 then some [3, 101] else none
def it0 (x : It) : Bool := match rt0 x.1 with
  | some l => decide (0 ≤ x.2.1 ∧ x.2.1 ≤ (l.length : Int)) && decide (x.2.2 = 0 ∨ (x.1 ≠ -1 ∧ 1 ≤ x.2.2 ∧ x.2.2 ≤ 3))
  | none => false
def rs0 (x : It) : List Int := if it0 x = true then ((rt0 x.1).getD []).drop x.2.1.toNat else []
def next0 (x : It) : List It := match rs0 x with
  | [] => []
  | s :: r => if s = 100 then [(0, 0, x.2.2)] else if s = 101 then (if r = [] then [(2, 0, x.2.2), (3, 0, x.2.2)] else [(2, 0, 1), (3, 0, 1)]) else []
variable {M : MakR} {F : List Nat}
theorem fi_right (hM : MakG fi M) (p : Int) : rightM M p = rt0 p := by
  unfold rightM rt0
  by_cases h : p = -1
  · rw [if_pos h, if_pos h]
  rw [if_neg h, if_neg h]
  have key : ∀ (j : Nat) (q : Int × List Int), fi.prods[j]? = some q → (j = 0 ∨ j = 2 ∨ j = 3) → (if shas M.places (j : Int) = true then some (M.rights.getD (j : Int).toNat ⟨none, 0, []⟩).row else none) = some q.2 := fun j q h1 h2 => by
    have hu := (fi_use h1).2 h2
    rw [if_pos ((hM.pl j).2 ⟨j, q, rfl, h1, hu⟩), Int.toNat_natCast, hM.rt j q h1 hu]
  by_cases h0 : p = 0
  · subst h0; rw [if_pos rfl]; exact key 0 _ rfl (by omega)
  by_cases h2 : p = 2
  · subst h2; rw [if_neg (show ¬ ((2 : Int) = 0) by decide), if_pos rfl]; exact key 2 _ rfl (by omega)
  by_cases h3 : p = 3
  · subst h3; rw [if_neg (show ¬ ((3 : Int) = 0) by decide), if_neg (show ¬ ((3 : Int) = 2) by decide), if_pos rfl]; exact key 3 _ rfl (by omega)
  rw [if_neg h0, if_neg h2, if_neg h3, if_neg]
  intro hs
  obtain ⟨j, q, rfl, h1, hu⟩ := (hM.pl p).1 hs
  have := (fi_use h1).1 hu
  omega
theorem fi_is (hM : MakG fi M) (x : It) : isIt M x = it0 x := by
  unfold isIt it0 followM
  rw [fi_right hM, hM.t]
  rfl
theorem fi_rest (hM : MakG fi M) (x : It) : restM M x = rs0 x := by
  unfold restM rs0
  rw [fi_is hM, fi_right hM]
theorem shas_sdig {a b : Int} (h0 : 0 ≤ a) (h1 : a ≤ 3) : shas (sdig a) b = true ↔ b = a := by
  rw [has_eq, Bool.and_eq_true, decide_eq_true_iff, bit_dig, decide_eq_true_iff]
  omega
theorem ahd_nil (hM : MakG fi M) {a b : Int} (h0 : 0 ≤ a) (h1 : a ≤ 3) : shas ((mkP M F).ahd [] a) b = true ↔ b = a := by
  show shas (goOnF (ofF M.terms F [] 1) (aheadS M.terms a)) b = true ↔ _
  rw [show ofF M.terms F [] 1 = 1 by unfold ofF; rfl, show aheadS M.terms a = sdig a by unfold aheadS; rw [if_pos ⟨h0, by rw [hM.t]; exact h1⟩]]
  rw [show goOnF 1 (sdig a) = sdig a by unfold goOnF; rw [if_pos (by decide), show sless 1 1 = 0 by decide, Nat.zero_or]]
  exact shas_sdig h0 h1
theorem ahd_one (hM : MakG fi M) {a b : Int} : shas ((mkP M F).ahd [1] a) b = true ↔ b = 1 := by
  show shas (goOnF (ofF M.terms F [1] 1) (aheadS M.terms a)) b = true ↔ _
  have ha : aloneF M.terms F 1 = 2 := by rw [hM.t]; rfl
  rw [show ofF M.terms F [1] 1 = 2 by unfold ofF; rw [ha, if_neg (by decide)]; unfold ofF; decide]
  rw [show ∀ x, goOnF 2 x = 2 from fun x => by unfold goOnF; rw [if_neg (by decide)]]
  exact shas_sdig (a := 1) (by omega) (by omega)
theorem it0_cases {x : It} (h : it0 x = true) : (∃ l, rt0 x.1 = some l ∧ 0 ≤ x.2.1 ∧ x.2.1 ≤ (l.length : Int)) ∧ 0 ≤ x.2.2 ∧ x.2.2 ≤ 3 := by
  unfold it0 at h
  split at h
  · rename_i l hl
    rw [Bool.and_eq_true, decide_eq_true_iff, decide_eq_true_iff] at h
    exact ⟨⟨l, hl, h.1⟩, by omega, by omega⟩
  · cases h
/-- What is behind a form's place. -/
theorem rs0_cases {x : It} {s : Int} {r : List Int} (h : rs0 x = s :: r) (hs : 100 ≤ s) : (s = 100 ∧ r = []) ∨ (s = 101 ∧ r = [1]) ∨ (s = 101 ∧ r = []) := by
  have hi : it0 x = true := by
    unfold rs0 at h
    split at h
    · assumption
    · cases h
  obtain ⟨⟨l, hl, h1, h2⟩, _⟩ := it0_cases hi
  unfold rs0 at h
  rw [if_pos hi, hl, Option.getD_some] at h
  obtain ⟨d, hd⟩ : ∃ d : Nat, x.2.1.toNat = d := ⟨_, rfl⟩
  have hd2 : d ≤ l.length := by omega
  rw [hd] at h
  unfold rt0 at hl
  have d3 : ∀ m : List Int, m.length ≤ 2 → l = m → d ≤ 2 := fun m h1 h2 => by rw [h2] at hd2; omega
  split at hl
  · cases hl
    rcases d with _ | d
    · left; cases h; exact ⟨rfl, rfl⟩
    · simp at h
  split at hl
  · cases hl
    rcases d with _ | _ | d
    · right; left; cases h; exact ⟨rfl, rfl⟩
    · cases h; omega
    · simp at h
  split at hl
  · cases hl; simp at h
  split at hl
  · cases hl
    rcases d with _ | _ | d
    · cases h; omega
    · right; right; cases h; exact ⟨rfl, rfl⟩
    · simp at h
  cases hl
theorem fi_of (hM : MakG fi M) (n : Nat) (p : Int) : shas (M.of.getD n 0) p = true ↔ (n = 0 ∧ p = 0) ∨ (n = 1 ∧ (p = 2 ∨ p = 3)) := by
  rw [hM.o]
  constructor
  · rintro ⟨j, q, rfl, h1, hu, hq⟩
    have := (fi_use h1).1 hu
    rcases this with rfl | rfl | rfl
    all_goals
      simp only [fi, List.getElem?_cons_succ, List.getElem?_cons_zero, Option.some.injEq] at h1
      rw [← h1] at hq
      simp only at hq
      omega
  · rintro (⟨rfl, rfl⟩ | ⟨rfl, rfl | rfl⟩)
    · exact ⟨0, (100, [101, 1]), rfl, rfl, (fi_use (j := 0) rfl).2 (.inl rfl), rfl⟩
    · exact ⟨2, (101, []), rfl, rfl, (fi_use (j := 2) rfl).2 (.inr (.inl rfl)), rfl⟩
    · exact ⟨3, (101, [3, 101]), rfl, rfl, (fi_use (j := 3) rfl).2 (.inr (.inr rfl)), rfl⟩
theorem fi_next (hM : MakG fi M) {x y : It} (hx : it0 x = true) : y ∈ next0 x ↔ ∃ (s : Int) (r : List Int) (p a : Int), restM M x = s :: r ∧ 100 ≤ s ∧ shas (M.of.getD (s - 100).toNat 0) p = true ∧ shas ((mkP M F).ahd r x.2.2) a = true ∧ y = (p, 0, a) := by
  have hb := (it0_cases hx).2
  rw [fi_rest hM]
  constructor
  · intro hy
    unfold next0 at hy
    split at hy
    · cases hy
    · rename_i s r hr
      by_cases hs : 100 ≤ s
      · rcases rs0_cases hr hs with ⟨rfl, rfl⟩ | ⟨rfl, rfl⟩ | ⟨rfl, rfl⟩
        · rw [if_pos rfl, List.mem_singleton] at hy
          exact ⟨100, [], 0, x.2.2, hr, hs, (fi_of hM _ _).2 (.inl ⟨by omega, rfl⟩), (ahd_nil hM hb.1 hb.2).2 rfl, hy⟩
        · rw [if_neg (by omega), if_pos rfl, if_neg (by simp)] at hy
          simp only [List.mem_cons, List.not_mem_nil, or_false] at hy
          rcases hy with rfl | rfl
          · exact ⟨101, [1], 2, 1, hr, hs, (fi_of hM _ _).2 (.inr ⟨by omega, .inl rfl⟩), (ahd_one hM).2 rfl, rfl⟩
          · exact ⟨101, [1], 3, 1, hr, hs, (fi_of hM _ _).2 (.inr ⟨by omega, .inr rfl⟩), (ahd_one hM).2 rfl, rfl⟩
        · rw [if_neg (by omega), if_pos rfl, if_pos rfl] at hy
          simp only [List.mem_cons, List.not_mem_nil, or_false] at hy
          rcases hy with rfl | rfl
          · exact ⟨101, [], 2, x.2.2, hr, hs, (fi_of hM _ _).2 (.inr ⟨by omega, .inl rfl⟩), (ahd_nil hM hb.1 hb.2).2 rfl, rfl⟩
          · exact ⟨101, [], 3, x.2.2, hr, hs, (fi_of hM _ _).2 (.inr ⟨by omega, .inr rfl⟩), (ahd_nil hM hb.1 hb.2).2 rfl, rfl⟩
      · rw [if_neg (by omega), if_neg (by omega)] at hy
        cases hy
  · rintro ⟨s, r, p, a, hr, hs, hp, ha, rfl⟩
    unfold next0
    rw [hr]
    simp only
    have hp := (fi_of hM _ _).1 hp
    rcases rs0_cases hr hs with ⟨rfl, rfl⟩ | ⟨rfl, rfl⟩ | ⟨rfl, rfl⟩
    · rw [ahd_nil hM hb.1 hb.2] at ha
      obtain rfl : p = 0 := by omega
      simp [ha]
    · rw [ahd_one hM] at ha
      have : p = 2 ∨ p = 3 := by omega
      rcases this with rfl | rfl <;> simp [ha]
    · rw [ahd_nil hM hb.1 hb.2] at ha
      have : p = 2 ∨ p = 3 := by omega
      rcases this with rfl | rfl <;> simp [ha]
def reach0 : Nat → List It → List It
  | 0, l => l
  | n + 1, l => reach0 n (l ++ l.flatMap next0)
instance (E : List It) : Decidable (SortI E) := by unfold SortI; infer_instance
def fits0 (l E : List It) : Bool := decide (SortI E) && l.all (fun x => !it0 x || decide (x ∈ E)) && E.all (fun x => it0 x && (next0 x).all fun y => decide (y ∈ E)) && E.all fun x => decide (x ∈ reach0 2 (l.filter it0))
theorem reach0_clo (hM : MakG fi M) {l : List It} : ∀ (n : Nat) (m : List It), (∀ x ∈ m, Clo (mkP M F) l x) → ∀ x ∈ reach0 n m, Clo (mkP M F) l x
  | 0, m, h, x, hx => h x hx
  | n + 1, m, h, x, hx => reach0_clo hM n (m ++ m.flatMap next0) (fun y hy => by
      rcases List.mem_append.1 hy with hy | hy
      · exact h y hy
      · obtain ⟨z, hz, hy⟩ := List.mem_flatMap.1 hy
        have hi : it0 z = true := by
          cases hb : it0 z with
          | true => rfl
          | false => unfold next0 rs0 at hy; rw [if_neg (by rw [hb]; simp)] at hy; cases hy
        obtain ⟨s, r, p, a, h1, h2, h3, h4, rfl⟩ := (fi_next (F := F) hM hi).1 hy
        exact .step (h z hz) h1 h2 h3 h4) x hx
theorem fits_close (hM : MakG fi M) {l E : List It} (h : fits0 l E = true) : CloseP (mkP M F) l E := by
  unfold fits0 at h
  simp only [Bool.and_eq_true, decide_eq_true_eq, List.all_eq_true, Bool.or_eq_true, Bool.not_eq_true'] at h
  obtain ⟨⟨⟨h1, h2⟩, h3⟩, h4⟩ := h
  refine ⟨h1, fun x => ⟨fun hx => ?_, fun hx => ?_⟩⟩
  · refine reach0_clo hM 2 (l.filter it0) (fun y hy => ?_) x (h4 x hx)
    rw [List.mem_filter] at hy
    exact .base hy.1 (by show isIt M y = true; rw [fi_is hM]; exact hy.2)
  · induction hx with
    | base k1 k2 =>
      have k2 : isIt M _ = true := k2
      rw [fi_is hM] at k2
      rcases h2 _ k1 with h | h
      · rw [k2] at h; cases h
      · exact h
    | step k0 k1 k2 k3 k4 ih => exact (h3 _ ih).2 _ ((fi_next (F := F) hM (h3 _ ih).1).2 ⟨_, _, _, _, k1, k2, k3, k4, rfl⟩)
theorem fits_is (hM : MakG fi M) {l E L : List It} (h : fits0 l E = true) (hc : CloseP (mkP M F) l L) : L = E := hc.uniq (fits_close hM h)
def over0 (l : List It) (s : Int) : List It := (l.filter fun x => (rs0 x).head? == some s).map stepI
theorem fi_over (hM : MakG fi M) (l : List It) (s : Int) : overP (mkP M F) l s = over0 l s := by
  unfold overP over0
  congr 1
  refine List.filter_congr fun x _ => ?_
  show ((restM M x).head? == some s) = _
  rw [fi_rest hM]
theorem fi_nxt (hM : MakG fi M) (x : It) : nextM M x = (rs0 x).head? := by unfold nextM; rw [fi_rest hM]
def firstI : List It := [(-1, 0, 0), (0, 0, 0), (2, 0, 1), (3, 0, 1)]
theorem fits_1 : fits0 [ownI] firstI = true := by decide
theorem fits_3 : fits0 (over0 firstI 3) [(2, 0, 1), (3, 0, 1), (3, 1, 1)] = true := by decide
theorem fits_101 : fits0 (over0 firstI 101) [(0, 1, 0)] = true := by decide
theorem fits_100 : fits0 (over0 firstI 100) [(-1, 1, 0)] = true := by decide
theorem fits_2 : fits0 (over0 firstI 2) [] = true := by decide
theorem fits_0 : fits0 (over0 firstI 0) [] = true := by decide
theorem fits_no {x : It} (h : it0 x = false) : fits0 [x] [] = true := by unfold fits0; simp [h, SortI]
end Go.Proofs.YtbliobeibfecaaaDoor
