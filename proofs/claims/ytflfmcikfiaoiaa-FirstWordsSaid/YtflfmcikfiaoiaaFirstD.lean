/- What a word of a row begins with is among the row's firsts. No program here. -/
import Derived.Test.YtflfmcikfiaoiaaSpanR
import Derived.Test.YtflfmcikfiaoiaaFirstS
set_option linter.unusedVariables false
namespace Go.Proofs.Ytflfmcikfiaoiaa
open Doc

def hdN : List Int → Nat
  | [] => 0
  | a :: _ => a.toNat
theorem of_alone {t : Nat} {F : List Nat} : ∀ (l : List Int) (row : Nat), ofF t F l row ≠ 0 → ∀ s ∈ l, aloneF t F s ≠ 0
  | [], _, _, s, hs => by cases hs
  | x :: l, row, h, s, hs => by
    have h : (if aloneF t F x = 0 then 0 else ofF t F l (goOnF row (aloneF t F x))) ≠ 0 := h
    by_cases hx : aloneF t F x = 0
    · rw [if_pos hx] at h; exact absurd rfl h
    · rw [if_neg hx] at h
      rcases List.mem_cons.1 hs with rfl | hs
      · exact hx
      · exact of_alone l _ h s hs
theorem of_keep {t : Nat} (ht : t ≤ 63) {F : List Nat} (hF : LowF t F) {a : Nat} (ha : 1 ≤ a) : ∀ (l : List Int) (row : Nat), LowB t row → (∀ s ∈ l, aloneF t F s ≠ 0) → row.testBit a = true → (ofF t F l row).testBit a = true
  | [], row, _, _, h => h
  | x :: l, row, hr, hs, h => by
    show (if aloneF t F x = 0 then 0 else ofF t F l (goOnF row (aloneF t F x))).testBit a = true
    rw [if_neg (hs x (by simp))]
    refine of_keep ht hF ha l _ (low_goOn ht hr (low_alone hF x)) (fun s h => hs s (by simp [h])) ?_
    rw [goOn_bit (low_lt hr ht)]
    split
    · have : a ≠ 0 := by omega
      simp [h, this]
    · exact h
theorem goOn_oneD (x : Nat) : goOnF 1 x = x := Nat.eq_of_testBit_eq fun i => by
  rw [goOn_bit (by decide), if_pos (by decide), one_bit]
  by_cases h : i = 0
  · subst h; simp
  · simp [h]
theorem ne_zero_bit {x i : Nat} (h : x.testBit i = true) : x ≠ 0 := by
  rintro rfl
  simp at h
theorem of_cons_one {t : Nat} {F : List Nat} {x : Int} (h : aloneF t F x ≠ 0) (r : List Int) : ofF t F (x :: r) 1 = ofF t F r (aloneF t F x) := by
  show (if aloneF t F x = 0 then 0 else ofF t F r (goOnF 1 (aloneF t F x))) = _
  rw [if_neg h, goOn_oneD]
theorem der_first {g : Gr} (hc : CheckG g) {F : List Nat} (hF : FirstIs g F) {r u : List Int} (h : Sp.DerF g.prods r u) (ht : ∀ s ∈ u, 1 ≤ s ∧ s ≤ (g.terms.length : Int)) : (ofF g.terms.length F r 1).testBit (hdN u) = true := by
  have ht8 := hc.t8
  induction h with
  | nil => show Nat.testBit 1 0 = true; decide
  | leaf s r w _ ih =>
    have hs := ht s (by simp)
    have ih := ih fun x hx => ht x (by simp [hx])
    have ha : aloneF g.terms.length F s = sdig s := by unfold aloneF; rw [if_pos hs]
    have hb : (sdig s).testBit s.toNat = true := by rw [bit_dig, decide_eq_true_eq]; omega
    rw [of_cons_one (by rw [ha]; exact ne_zero_bit hb), ha]
    exact of_keep (a := s.toNat) (by omega) hF.low (by omega) r _ (low_dig hs.2) (of_alone r 1 (ne_zero_bit ih)) hb
  | non p r v w hp hd _ ih1 ih2 =>
    have ih1 := ih1 fun x hx => ht x (by simp [hx])
    have ih2 := ih2 fun x hx => ht x (by simp [hx])
    have hpv := (hc.pv p hp).1
    have hu : Usable g p := der_fru hd fun s hs => by have := (ht s (by simp [hs])).2; omega
    have hcl := hF.closed p hp hu (hdN v) ih1
    have ha : aloneF g.terms.length F p.1 = F.getD (p.1 - 100).toNat 0 := by
      unfold aloneF
      rw [if_neg (by omega), if_pos (by rw [hF.len]; exact hpv)]
    rw [of_cons_one (by rw [ha]; exact ne_zero_bit hcl), ha]
    have hall := of_alone r 1 (ne_zero_bit ih2)
    cases v with
    | nil =>
      rw [List.nil_append]
      refine of_mono (t := g.terms.length) (by omega) rfl (fun i => Sub.refl _) hF.low hF.low r 1 _ (low_one _) (hF.low _) ?_ _ ih2
      intro i hi
      rw [one_bit, decide_eq_true_eq] at hi
      subst hi
      exact hcl
    | cons a v =>
      show (ofF _ F r _).testBit a.toNat = true
      have := ht a (by simp)
      exact of_keep (a := a.toNat) (by omega) hF.low (by omega) r _ (hF.low _) hall hcl
end Go.Proofs.Ytflfmcikfiaoiaa
