/- ReachHolds: what holds of the sets. No program here. -/
import Derived.Test.YtdnlbmdmaiacaaaReachT
namespace Go.Proofs.Ytdnlbmdmaiacaaa
open Go.RowKit
open Doc

theorem nul_fru {g : Gr} : ∀ {x : Int}, Nul g x → Fru g x := fun {x} h => by
  induction h with
  | mk p hp _ ih => exact .mk p hp fun s hs _ => ih s hs
theorem less_zero {n f : Nat} {P Q : Int → Prop} (hn : SetIs n P) (hf : SetIs f Q) (h : ∀ x, P x → Q x) : sless n f = 0 := Nat.eq_of_testBit_eq fun i => by
  rw [bit_less n f i hn.1 hf.1, Nat.zero_testBit, Bool.eq_false_iff]
  intro hb
  rw [Bool.and_eq_true, hn.2] at hb
  have h2 := (hf.2 i).2 ⟨hb.1.1, h _ hb.1.2⟩
  rw [h2] at hb
  simp at hb
theorem has_zero {r : Nat} {P : Int → Prop} (h : SetIs r P) : shas r 0 = true ↔ P 100 := by
  have := h.has 100
  simp only [Int.sub_self] at this
  rw [this]
  constructor
  · exact fun h => h.2.2
  · exact fun h => ⟨by omega, by omega, h⟩

/-- All that ReachHolds asks of the three sets. -/
structure Tells5 (g : Gr) (n f r : Nat) : Prop where
  n_ : SetIs n (Nul g)
  f_ : SetIs f (Fru g)
  r_ : SetIs r (Rea g)
theorem van_has {g : Gr} {n : Nat} (hc : NumsOk g) (hn : SetIs n (Nul g)) {p : Int × List Int} (hp : p ∈ g.prods) (h : vanI p.2 n = true) : shas n (p.1 - 100) = true := by
  rw [hn.has]
  have := (hc p hp).1
  refine ⟨by omega, by omega, .mk p hp fun s hs => ?_⟩
  have h1 := List.all_eq_true.1 h s hs
  exact ((hn.has s).1 h1).2.2
theorem bear_has {g : Gr} {f : Nat} (hc : NumsOk g) (hf : SetIs f (Fru g)) {p : Int × List Int} (hp : p ∈ g.prods) (h : bearI p.2 f = true) : shas f (p.1 - 100) = true := by
  rw [hf.has]
  have := (hc p hp).1
  refine ⟨by omega, by omega, .mk p hp fun s hs h100 => ?_⟩
  have h1 := List.all_eq_true.1 h s hs
  rw [Bool.or_eq_true, decide_eq_true_eq] at h1
  rcases h1 with h1 | h1
  · omega
  · exact ((hf.has s).1 h1).2.2
theorem rea_has {g : Gr} {r : Nat} (hc : NumsOk g) (hr : SetIs r (Rea g)) {p : Int × List Int} (hp : p ∈ g.prods) {s : Int} (hs : s ∈ p.2) (h100 : 100 ≤ s) (h : shas r (p.1 - 100) = true) : shas r (s - 100) = true := by
  rw [hr.has] at h ⊢
  have := (hc p hp).2 s hs
  exact ⟨h100, by omega, .step p s hp h.2.2 hs h100⟩
/-- The places told, as a set. -/
theorem trim_has (F : Nat) (ps : List (Int × List Int)) (hl : ps.length ≤ 64) {k : Nat} {p : Int × List Int} (hp : ps[k]? = some p) : shas (ofL (trimF F ps 0)) (k : Int) = bearI p.2 F := by
  have hk := (List.getElem?_eq_some_iff.1 hp).1
  rw [shas_bit _ _ (by omega), bit_ofL]
  rw [Bool.eq_iff_iff, decide_eq_true_eq, trimF_mem]
  constructor
  · rintro ⟨⟨j, q, hj, hb, e⟩, _⟩
    have : j = k := by omega
    subst this
    rw [hp] at hj
    cases hj
    exact hb
  · intro hb
    exact ⟨⟨k, p, hp, hb, by simp⟩, by omega⟩

theorem vanI_step {r : List Int} {S k : Nat} {s : Int} (hs : r[k]? = some s) : vanI (r.take (k + 1)) S = (vanI (r.take k) S && shas S (s - 100)) := by
  unfold vanI
  rw [List.take_add_one, hs]; simp
theorem bearI_step {r : List Int} {S k : Nat} {s : Int} (hs : r[k]? = some s) : bearI (r.take (k + 1)) S = (bearI (r.take k) S && (decide (s < 100) || shas S (s - 100))) := by
  unfold bearI
  rw [List.take_add_one, hs]; simp
theorem shas_low (S : Nat) {s : Int} (h : s < 100) : shas S (s - 100) = false := by
  rw [has_eq]
  have : decide (0 ≤ s - 100 ∧ s - 100 < 64) = false := by rw [decide_eq_false_iff_not]; omega
  rw [this]; rfl

/-- Trim, in one form. -/
def TrimOf (g : Gr) (F : Nat) (l : List Int) (er : Int) : Prop := (shas F 0 = true ∧ er = 0 ∧ l = trimF F g.prods 0) ∨ (shas F 0 = false ∧ er = 6 ∧ l = [])
theorem trim_one (v : Value) (g : Gr) (w : World) (hg : GramAt w v g) (h : CheckG g) :
    Calls Try.prog 31 #[v] w fun e w' => Below w.heap.size w w' ∧ ∃ (F : Nat) (a : Option Addr) (c : Nat) (l : List Int) (er : Int), e = .returned (.tuple #[.slice a l.length c, .int .i64 er]) ∧ SetIs F (Fru g) ∧ TrimOf g F l er ∧ Cells w' a (nums l) ∧ l.length ≤ 1000000 := by
  refine (trim_any v g w hg h).mono fun e w' ⟨⟨F, hF, he⟩, hb⟩ => ⟨hb, ?_⟩
  rcases he with ⟨h1, a, c, he, ho⟩ | ⟨h1, he⟩
  · exact ⟨F, a, c, trimF F g.prods 0, 0, he, hF, .inl ⟨h1, rfl, rfl⟩, (own_cells ho).1, by have := trimF_len F g.prods 0; have := h.p24; omega⟩
  · exact ⟨F, none, 0, [], 6, he, hF, .inr ⟨h1, rfl, rfl⟩, .inl rfl, by simp⟩

end Go.Proofs.Ytdnlbmdmaiacaaa
