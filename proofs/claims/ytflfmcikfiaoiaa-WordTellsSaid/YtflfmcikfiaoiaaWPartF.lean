/- WordParts in plain words. No program here. -/
import Derived.Test.YtflfmcikfiaoiaaWordD
import Derived.Test.YtflfmcikfiaoiaaSetO
set_option linter.unusedVariables false
namespace Go.Proofs.Ytflfmcikfiaoiaa.Wd
open Doc

variable {ps : List (Int × List Int)}
def partW (L : Kn) (s : Int) : List Int := if s < 100 then [s] else (known L (s - 100).toNat).getD []
def okS (L : Kn) (s : Int) : Bool := decide (s < 100) || (known L (s - 100).toNat).isSome
/-- A row's parts, one behind the other, what is not known left out; whether all are known. -/
def rowAll (L : Kn) (r : List Int) : List Int := r.flatMap (partW L)
def okF (L : Kn) (r : List Int) : Bool := r.all (okS L)
theorem rowAll_snoc {L : Kn} {r : List Int} {j : Nat} {s : Int} (hs : r[j]? = some s) : rowAll L (r.take (j + 1)) = rowAll L (r.take j) ++ partW L s := by
  unfold rowAll; rw [List.take_add_one, hs]; simp
theorem okF_snoc {L : Kn} {r : List Int} {j : Nat} {s : Int} (hs : r[j]? = some s) : okF L (r.take (j + 1)) = (okF L (r.take j) && okS L s) := by
  unfold okF; rw [List.take_add_one, hs]; simp
theorem row_is (L : Kn) : ∀ r : List Int, rowW L r = if okF L r = true then some (rowAll L r) else none
  | [] => rfl
  | s :: r => by
    have ih := row_is L r
    have e1 : okF L (s :: r) = (okS L s && okF L r) := by simp [okF]
    have e2 : rowAll L (s :: r) = partW L s ++ rowAll L r := by simp [rowAll]
    rw [e1, e2]
    by_cases hs : s < 100
    · rw [rowW_term L hs, ih]
      have h1 : okS L s = true := by simp [okS, hs]
      have h2 : partW L s = [s] := by simp [partW, hs]
      rw [h1, h2, Bool.true_and]
      by_cases ho : okF L r = true
      · rw [if_pos ho, if_pos ho]; rfl
      · rw [if_neg ho, if_neg ho]; rfl
    · rw [rowW_non L (by omega), ih]
      cases hk : known L (s - 100).toNat with
      | none =>
        have h1 : okS L s = false := by simp [okS, hs, hk]
        rw [h1]; rfl
      | some x =>
        have h1 : okS L s = true := by simp [okS, hk]
        have h2 : partW L s = x := by simp [partW, hs, hk]
        rw [h1, h2, Bool.true_and]
        by_cases ho : okF L r = true
        · rw [if_pos ho, if_pos ho]; rfl
        · rw [if_neg ho, if_neg ho]; rfl
/-- A production makes just its left's least word. -/
def hitF (L : Kn) (p : Int × List Int) : Bool := okF L p.2 && decide (rowAll L p.2 = (known L (p.1 - 100).toNat).getD [])
def metF (L : Kn) (ps : List (Int × List Int)) : Nat := ps.foldl (fun a p => if hitF L p = true then a ||| sdig (p.1 - 100) else a) 0
theorem met_snoc {L : Kn} {j : Nat} {p : Int × List Int} (hp : ps[j]? = some p) : metF L (ps.take (j + 1)) = if hitF L p = true then metF L (ps.take j) ||| sdig (p.1 - 100) else metF L (ps.take j) := by
  unfold metF; rw [List.take_add_one, hp]; simp
theorem bit_met (L : Kn) (ps : List (Int × List Int)) (i : Nat) : (metF L ps).testBit i = true ↔ i < 64 ∧ ∃ p ∈ ps, p.1 - 100 = (i : Int) ∧ hitF L p = true := by
  unfold metF
  suffices H : ∀ (l : List (Int × List Int)) (a : Nat), (l.foldl (fun a p => if hitF L p = true then a ||| sdig (p.1 - 100) else a) a).testBit i = true ↔ a.testBit i = true ∨ (i < 64 ∧ ∃ p ∈ l, p.1 - 100 = (i : Int) ∧ hitF L p = true) by
    rw [H ps 0]; simp
  intro l
  induction l with
  | nil => intro a; simp
  | cons p l ih =>
    intro a
    rw [List.foldl_cons, ih]
    by_cases hh : hitF L p = true
    · rw [if_pos hh, Nat.testBit_or, Bool.or_eq_true, bit_dig]
      simp only [decide_eq_true_eq, List.mem_cons, exists_eq_or_imp]
      constructor
      · rintro ((h1 | ⟨h1, h2⟩) | ⟨h1, h2⟩)
        · exact .inl h1
        · exact .inr ⟨h2, .inl ⟨h1, hh⟩⟩
        · exact .inr ⟨h1, .inr h2⟩
      · rintro (h1 | ⟨h1, (⟨h2, _⟩ | h2)⟩)
        · exact .inl (.inl h1)
        · exact .inl (.inr ⟨h2, h1⟩)
        · exact .inr ⟨h1, h2⟩
    · rw [if_neg hh]
      simp only [List.mem_cons, exists_eq_or_imp]
      constructor
      · rintro (h1 | ⟨h1, h2⟩)
        · exact .inl h1
        · exact .inr ⟨h1, .inr h2⟩
      · rintro (h1 | ⟨h1, (⟨_, h2⟩ | h2)⟩)
        · exact .inl h1
        · exact absurd h2 hh
        · exact .inr ⟨h1, h2⟩
/-- Of a production of which all are known the left is, and its least word is not behind. -/
theorem ok_left {n : Nat} {L : Kn} (h : LeastIs ps n L) {p : Int × List Int} (hp : p ∈ ps) (hl : 100 ≤ p.1) (ho : okF L p.2 = true) : ∃ w, known L (p.1 - 100).toNat = some w ∧ lessI (rowAll L p.2) w = false := by
  have hr : rowW L p.2 = some (rowAll L p.2) := by rw [row_is, if_pos ho]
  have hd := row_der h.inv _ _ hr
  have hd1 : Der ps [p.1] (rowAll L p.2) := (der_one hl).2 ⟨p, hp, rfl, hd⟩
  have e : (100 : Int) + ((p.1 - 100).toNat : Int) = p.1 := by omega
  cases hk : known L (p.1 - 100).toNat with
  | none => exact absurd (by rw [e]; exact hd1) (h.no _ hk (rowAll L p.2))
  | some w => exact ⟨w, rfl, (h.inv _ _ hk).2 _ (by rw [e]; exact hd1)⟩
/-- Met are just those that are known. -/
theorem met_is {n : Nat} (hn : n ≤ 8) {L : Kn} (h : LeastIs ps n L) (hl : LeftsIn ps n) {i : Nat} (hi : i < n) : (metF L ps).testBit i = (known L i).isSome := by
  rw [Bool.eq_iff_iff, bit_met]
  constructor
  · rintro ⟨_, p, hp, e, hh⟩
    have hok : okF L p.2 = true := by unfold hitF at hh; rw [Bool.and_eq_true] at hh; exact hh.1
    obtain ⟨w, hw, _⟩ := ok_left h hp (hl p hp).1 hok
    rw [show (p.1 - 100).toNat = i by omega] at hw
    rw [hw]; rfl
  · intro hs
    obtain ⟨w, hw⟩ := Option.isSome_iff_exists.1 hs
    obtain ⟨hd, hm⟩ := h.inv i w hw
    obtain ⟨p, hp, e, hdp⟩ := (der_one (by omega)).1 hd
    refine ⟨by omega, p, hp, by omega, ?_⟩
    rcases der_row h.inv hdp with ⟨u, hu, hle⟩ | ⟨q, hq, hqk, u, hu, _⟩
    · rw [row_is] at hu
      by_cases ho : okF L p.2 = true
      · rw [if_pos ho] at hu
        cases hu
        have hu2 : rowW L p.2 = some (rowAll L p.2) := by rw [row_is, if_pos ho]
        have h2 := hm (rowAll L p.2) ((der_one (by omega)).2 ⟨p, hp, e, row_der h.inv _ _ hu2⟩)
        have := antisymm hle h2
        unfold hitF
        rw [ho, Bool.true_and, decide_eq_true_eq, show (p.1 - 100).toNat = i by omega, hw, this]; rfl
      · rw [if_neg ho] at hu; cases hu
    · have hq1 := (hl q hq).1
      have hdq := row_der h.inv _ _ hu
      exact absurd ((der_one (by omega)).2 ⟨q, hq, by omega, hdq⟩) (h.no (q.1 - 100).toNat hqk u)

/-- A cost is beneath the bound just if it is one. -/
theorem cost_side {x : Option Nat} (hx : ∀ v, x = some v → v < 4503599627370496) : (Ieee.double.order (fc x) 9094988921128908188 == some .lt) = x.isSome ∧ (Ieee.double.order (fc x) 9094988921128908188 == some .gt) = !x.isSome := by
  cases x with
  | none => exact ⟨by decide, by decide⟩
  | some v =>
    have h1 := hx v rfl
    have h2 := (Fl.ofNat_le_iff v 4503599627370496 (by omega) (by decide)).2 h1
    have h3 : Fl.ofNat 4503599627370496 < 9094988921128908188 := by decide
    have h4 : Fl.ofNat v < 9094988921128908188 := by omega
    have ho := Fl.order_le (Fl.ofNat v) 9094988921128908188 (by have : (9094988921128908188 : Nat) ≤ Fl.inf := (by decide); omega) (by decide)
    have hc : compare (Fl.ofNat v) 9094988921128908188 = .lt := Nat.compare_eq_lt.2 h4
    show (Ieee.double.order (Fl.ofNat v) 9094988921128908188 == some .lt) = true ∧ (Ieee.double.order (Fl.ofNat v) 9094988921128908188 == some .gt) = false
    rw [ho, hc]
    exact ⟨rfl, rfl⟩

end Go.Proofs.Ytflfmcikfiaoiaa.Wd
