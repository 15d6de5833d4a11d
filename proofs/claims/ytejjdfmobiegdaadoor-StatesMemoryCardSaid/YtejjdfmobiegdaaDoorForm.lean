/- refuse, mayStand, checkForm: the first token that may not stand at its place ends the call by a panic. gram's small functions on symbols and productions: walked. The builder in memory: three rows of its own; each row's own block. addNon: a rule's name. -/
import Derived.Test.YtejjdfmobiegdaaDoorCut
import Derived.Test.YtejjdfmobiegdaaDoorLeafs
import Derived.Test.YtejjdfmobiegdaaDoorFind
import Derived.Deep.RegionLaw
namespace Go.Proofs.YtejjdfmobiegdaaDoor
open Go.RowKit
open Doc

/-- A token's value. -/
def tokV (t : Tok) : Value := .agg #[.int .i64 t.kind, .string ⟨t.text.toArray⟩, .int .i64 t.line, .int .i64 t.col]
def mayB (k p : Nat) : Bool := if p = 0 then k == 1 || k == 5 else if p = 1 then k == 3 else k != 3

/-- The first token that may not stand, the place within the line being p. -/
def badF : List Tok → Nat → Option Tok
  | [], _ => none
  | t :: l, p => if mayB t.kind p = true then badF l (if t.kind = 5 then 0 else p + 1) else some t

def placeOf : At → Nat → Prop
  | .start, p => p = 0
  | .named _, p => p = 1
  | .parts _ _, p => 2 ≤ p

theorem bad_rule : ∀ (l : List Tok) (a : At) (p : Nat), placeOf a p → badF l p = (ruleF l a).2
  | [], a, p, _ => by cases a <;> rfl
  | t :: l, .start, p, h => by
    have h : p = 0 := h
    subst h
    simp only [badF, ruleF, mayB]
    by_cases h5 : t.kind = 5
    · simp [h5, bad_rule l .start 0 rfl]
    · by_cases h1 : t.kind = 1
      · simp [h1, bad_rule l (.named t) 1 rfl]
      · simp [h5, h1]
  | t :: l, .named n, p, h => by
    have h : p = 1 := h
    subst h
    simp only [badF, ruleF, mayB]
    by_cases h3 : t.kind = 3
    · simp [h3, bad_rule l (.parts n []) 2 (Nat.le_refl 2)]
    · simp [h3]
  | t :: l, .parts n r, p, h => by
    have h : 2 ≤ p := h
    have h0 : ¬ p = 0 := by omega
    have h1 : ¬ p = 1 := by omega
    simp only [badF, ruleF, mayB, if_neg h0, if_neg h1]
    by_cases h3 : t.kind = 3
    · simp [h3]
    · by_cases h5 : t.kind = 5
      · simp [h5, bad_rule l .start 0 rfl]
      · simp [h3, h5, bad_rule l (.parts n (r ++ [t])) (p + 1) (show 2 ≤ p + 1 by omega)]

theorem tok_cells {w : World} {b off : Nat} {l : List Tok} (h : ∀ j u, (tall l)[j]? = some u → w.cell? ⟨b, off + j, none⟩ = some u) {j : Nat} {t : Tok} (ht : l[j]? = some t) :
    w.cell? ⟨b, off + j * 4, none⟩ = some (.int .i64 t.kind) ∧ w.cell? ⟨b, off + j * 4 + 1, none⟩ = some (.string ⟨t.text.toArray⟩) ∧
    w.cell? ⟨b, off + j * 4 + 2, none⟩ = some (.int .i64 t.line) ∧ w.cell? ⟨b, off + j * 4 + 3, none⟩ = some (.int .i64 t.col) := by
  have ta := tall_at l j t ht
  refine ⟨h _ _ ta.1, ?_, ?_, ?_⟩
  · rw [Nat.add_assoc]; exact h _ _ ta.2.1
  · rw [Nat.add_assoc]; exact h _ _ ta.2.2.1
  · rw [Nat.add_assoc]; exact h _ _ ta.2.2.2

theorem tall_nil_iff {l : List Tok} (h : 0 < l.length) : tall l ≠ [] := by
  intro e
  have := tall_length l
  rw [e] at this
  simp only [List.length_nil] at this
  omega

end Go.Proofs.YtejjdfmobiegdaaDoor

namespace Go.Proofs.YtejjdfmobiegdaaDoor
open Go.RowKit
open Doc

theorem isNon_any (v : Value) (g : Gr) (s : Int) (w : World) (hg : GramAt w v g) (hs : s ≤ 9223372036854775807) :
    Calls Tryd.prog 130 #[v, .int .i64 s] w fun e w' => e = .returned (.bool (nonB g s)) ∧ Below w.heap.size w w' := by
  obtain ⟨a1, a2, a3, c1, c2, c3, ls, rfl, hp, h1, h2, h3, h4, _⟩ := hg
  have hS : ∀ x, Below w.heap.size w (w.alloc x) := fun x => (Below.refl _ _).alloc (Nat.le_refl _) _
  have HS := Lib.hid hS
  clear hS h1 h2 h3 h4
  by_cases h100 : 100 ≤ s
  · go_enter Tryd.func130, Tryd.ntmps130
    go_wp2
    go_ret
    exact ⟨ret_bool (by unfold nonB; rw [decide_eq_true h100, Bool.true_and, decide_eq_decide]; omega), HS.out _⟩
  · go_enter Tryd.func130, Tryd.ntmps130
    go_wp2
    go_ret
    exact ⟨ret_bool (by unfold nonB; rw [decide_eq_false (by omega)]; rfl), HS.out _⟩

/-- A terminal of g. -/
def termB (g : Gr) (s : Int) : Bool := decide (1 ≤ s) && decide (s ≤ (g.terms.length : Int))

theorem isTerm_any (v : Value) (g : Gr) (s : Int) (w : World) (hg : GramAt w v g) :
    Calls Tryd.prog 131 #[v, .int .i64 s] w fun e w' => e = .returned (.bool (termB g s)) ∧ Below w.heap.size w w' := by
  obtain ⟨a1, a2, a3, c1, c2, c3, ls, rfl, hp, h1, h2, h3, h4, _⟩ := hg
  have hS : ∀ x, Below w.heap.size w (w.alloc x) := fun x => (Below.refl _ _).alloc (Nat.le_refl _) _
  have HS := Lib.hid hS
  clear hS h1 h2 h3 h4
  by_cases h100 : 1 ≤ s
  · go_enter Tryd.func131, Tryd.ntmps131
    go_wp2
    go_ret
    exact ⟨ret_bool (by unfold termB; rw [decide_eq_true h100]; rfl), HS.out _⟩
  · go_enter Tryd.func131, Tryd.ntmps131
    go_wp2
    go_ret
    exact ⟨ret_bool (by unfold termB; rw [decide_eq_false (by omega)]; rfl), HS.out _⟩

/-- A production's value. -/
def prodV (q : Lay) : Value := .agg #[.int .i64 q.left, .slice q.addr q.right.length q.cap]

theorem alike_any (p q : Lay) (w : World) (hp : Cells w p.addr (nums p.right)) (hq : Cells w q.addr (nums q.right)) (hpl : p.right.length ≤ 1000000) (hql : q.right.length ≤ 1000000) :
    Calls Tryd.prog 134 #[prodV p, prodV q] w fun e w' => e = .returned (.bool (decide (p.plain = q.plain))) ∧ Below w.heap.size w w' := by
  have hS : ∀ x y, Below w.heap.size w ((w.alloc x).alloc y) := fun x y => ((Below.refl _ _).alloc (Nat.le_refl _) _).alloc (by simp) _
  have HE := Lib.hid fun x y => equalI_any _ _ p.cap q.cap p.right q.right ((w.alloc x).alloc y) (hp.below (hS x y)) (hq.below (hS x y)) hpl hql
  have HS := Lib.hid hS
  obtain ⟨pl, pr, pa, pc⟩ := p
  obtain ⟨ql, qr, qa, qc⟩ := q
  unfold prodV
  clear hS hp hq
  simp only [Lay.plain] at *
  by_cases hl : pl = ql
  · have hlb : (pl == ql) = true := by simp [hl]
    have hres := Lib.hid (show decide ((pl, pr) = (ql, qr)) = decide (pr = qr) by rw [hl]; simp)
    clear hl
    go_enter Tryd.func134, Tryd.ntmps134
    go_wp2_with (go_at_call 145; refine (HE.out _ _).mono ?_; rintro e w2 ⟨rfl, n, rfl⟩)
    go_ret
    exact ⟨ret_bool hres.out.symm, below_drews (HS.out _ _) _⟩
  · have hlb : (pl == ql) = false := by simpa using hl
    have hres := Lib.hid (show decide ((pl, pr) = (ql, qr)) = false by rw [decide_eq_false_iff_not]; intro e; exact hl (congrArg Prod.fst e))
    clear hl
    go_enter Tryd.func134, Tryd.ntmps134
    go_wp2
    go_ret
    exact ⟨ret_bool hres.out.symm, HS.out _ _⟩

theorem stands1_any (p q : Lay) (w : World) (B : Nat) (hp : Cells w p.addr (nums p.right)) (hq : Cells w q.addr (nums q.right)) (hpl : p.right.length ≤ 1000000) (hql : q.right.length ≤ 1000000) (hB : B < w.heap.size)
    (h0 : w.cell? ⟨B, 0, none⟩ = some (.int .i64 p.left)) (h1 : w.cell? ⟨B, 1, none⟩ = some (.slice p.addr p.right.length p.cap)) :
    Calls Tryd.prog 133 #[prodV q, .pointer (some ⟨B, 0, none⟩)] w fun e w' => e = .returned (.bool (decide (p.plain = q.plain))) ∧ Below w.heap.size w w' := by
  have hS : ∀ x, Below w.heap.size w (w.alloc x) := fun x => (Below.refl _ _).alloc (Nat.le_refl _) _
  have HA := Lib.hid fun x => alike_any p q (w.alloc x) (hp.below (hS x)) (hq.below (hS x)) hpl hql
  have HS := Lib.hid hS
  obtain ⟨pl, pr, pa, pc⟩ := p
  obtain ⟨ql, qr, qa, qc⟩ := q
  unfold prodV at *
  clear hS hp hq
  simp only at *
  go_enter Tryd.func133, Tryd.ntmps133
  go_wp2_with (go_at_call 134; refine (HA.out _).mono ?_; rintro e w2 ⟨rfl, hb2⟩)
  go_ret
  exact ⟨rfl, (HS.out _).trans (hb2.mono (HS.out _).size)⟩

theorem hasProd1_any (l : Int) (q : Lay) (w : World) (B : Nat) (h0 : w.cell? ⟨B, 0, none⟩ = some (.int .i64 l)) (hB : B < w.heap.size) :
    Calls Tryd.prog 135 #[prodV q, .pointer (some ⟨B, 0, none⟩)] w fun e w' => e = .returned (.bool (decide (q.left = l))) ∧ Below w.heap.size w w' := by
  have hS : ∀ x, Below w.heap.size w (w.alloc x) := fun x => (Below.refl _ _).alloc (Nat.le_refl _) _
  have HS := Lib.hid hS
  obtain ⟨ql, qr, qa, qc⟩ := q
  unfold prodV at *
  clear hS
  simp only at *
  go_enter Tryd.func135, Tryd.ntmps135
  go_wp2
  go_ret
  exact ⟨rfl, HS.out _⟩

theorem findIdx_first {α : Type} {l : List α} {f : α → Bool} {k : Nat} {x : α} (h : l[k]? = some x) (hf : f x = true) (hb : ∀ j q, j < k → l[j]? = some q → f q = false) : l.findIdx? f = some k := by
  obtain ⟨hk, e⟩ := List.getElem?_eq_some_iff.1 h
  rw [List.findIdx?_eq_some_iff_getElem]
  refine ⟨hk, by rw [e]; exact hf, fun j hj => ?_⟩
  have := hb j l[j] hj (List.getElem?_eq_getElem (by omega))
  simp [this]
theorem findIdx_never {α : Type} {l : List α} {f : α → Bool} (hb : ∀ (j : Nat) q, l[j]? = some q → f q = false) : l.findIdx? f = none := by
  rw [List.findIdx?_eq_none_iff]
  intro x hx
  obtain ⟨j, hj, e⟩ := List.getElem_of_mem hx
  exact hb j x (by rw [List.getElem?_eq_getElem hj, e])

set_option maxHeartbeats 1000000 in
theorem indexS_any (cv : Value) (f : Lay → Bool) (a : Option Addr) (cap : Nat) (ls : List Lay) (w : World) (h : Cells w a (lays ls)) (hl : ls.length ≤ 1000000)
    (hF : ∀ q ∈ ls, ∀ W, Below w.heap.size w W → Calls Tryd.prog 133 #[prodV q, cv] W fun e w' => e = .returned (.bool (f q)) ∧ Below W.heap.size W w') :
    Calls Tryd.prog 144 #[.slice a ls.length cap, .func (.func 133) #[] #[cv]] w fun e w' => e = .returned (.int .i64 (oint (ls.findIdx? f))) ∧ Below w.heap.size w w' := by
  have HH := Lib.hid h
  have HF := Lib.hid hF
  clear h hF
  go_enter Tryd.func144, Tryd.ntmps144
  go_wp2
  go_loopw [8] (fun i wr => ∃ k : Nat, k ≤ ls.length ∧ i = .int .i64 k ∧ Below w.heap.size w wr ∧ Hid (∀ j q, j < k → ls[j]? = some q → f q = false)) (fun i _ => ls.length - (intOf i).toNat)
  case atStart => exact ⟨0, Nat.zero_le _, rfl, Below.refl _ _, Lib.hid (by intro j q hj; omega)⟩
  case round =>
    obtain ⟨k, hk, rfl, hb, HB⟩ := hrel
    by_cases hlt : k < ls.length
    · obtain ⟨q, hq⟩ : ∃ q, ls[k]? = some q := ⟨_, List.getElem?_eq_getElem hlt⟩
      obtain ⟨b, off, rfl, hbl, hc⟩ := (HH.out.below hb).get (by intro e; have := (lays_at ls k q hq).1; rw [e] at this; simp at this)
      have c0 := hc _ _ (lays_at ls k q hq).1
      have c1 := hc _ _ (lays_at ls k q hq).2
      rw [← Nat.add_assoc] at c1
      have e1 : (k : Int) < ls.length := by omega
      have HC := Lib.hid (HF.out q (List.mem_of_getElem? hq) wr hb)
      have HQ := Lib.hid hq
      have HW := Lib.hid hb
      obtain ⟨ql, qr, qa, qc⟩ := q
      unfold prodV at HC
      simp only at *
      clear hc hq
      cases hf : f ⟨ql, qr, qa, qc⟩ with
      | true =>
        go_wp2_with (go_at_call 133; refine HC.out.mono ?_; rintro e w2 ⟨rfl, hb2⟩; simp only [hf])
        go_ret
        refine ⟨ret_int ?_, HW.out.trans (hb2.mono HW.out.size)⟩
        rw [findIdx_first HQ.out hf HB.out]; rfl
      | false =>
        go_wp2_with (go_at_call 133; refine HC.out.mono ?_; rintro e w2 ⟨rfl, hb2⟩; simp only [hf])
        refine ⟨⟨k + 1, by omega, by go_num, HW.out.trans (hb2.mono HW.out.size), Lib.hid fun j q hj hq => ?_⟩, by simp [intOf]; omega⟩
        by_cases hjk : j = k
        · subst hjk; rw [HQ.out] at hq; cases hq; exact hf
        · exact HB.out j q (by omega) hq
    · have e1 : ¬ (k : Int) < ls.length := by omega
      go_wp2
      go_ret
      refine ⟨ret_int ?_, hb⟩
      rw [findIdx_never fun j q hq => HB.out j q (by have := (List.getElem?_eq_some_iff.1 hq).1; omega) hq]; rfl


theorem containsS_any (cv : Value) (f : Lay → Bool) (a : Option Addr) (cap : Nat) (ls : List Lay) (w : World) (h : Cells w a (lays ls)) (hl : ls.length ≤ 1000000)
    (hF : ∀ q ∈ ls, ∀ W, Below w.heap.size w W → Calls Tryd.prog 133 #[prodV q, cv] W fun e w' => e = .returned (.bool (f q)) ∧ Below W.heap.size W w') :
    Calls Tryd.prog 132 #[.slice a ls.length cap, .func (.func 133) #[] #[cv]] w fun e w' => e = .returned (.bool (ls.any f)) ∧ Below w.heap.size w w' := by
  have HI := Lib.hid (indexS_any cv f a cap ls w h hl hF)
  clear hF h
  cases hi : ls.findIdx? f with
  | none =>
    have hr := Lib.hid (show ls.any f = false by
      rw [List.any_eq_false]
      intro x hx
      have := List.findIdx?_eq_none_iff.1 hi x hx
      simp [this])
    go_enter Tryd.func132, Tryd.ntmps132
    go_wp2_with (go_at_call 144; refine HI.out.mono ?_; rintro e w2 ⟨rfl, hb2⟩; rw [hi]; simp only [oint])
    go_ret
    exact ⟨ret_bool hr.out.symm, hb2⟩
  | some k =>
    have hr := Lib.hid (show ls.any f = true by
      obtain ⟨hk, h1, _⟩ := List.findIdx?_eq_some_iff_getElem.1 hi
      rw [List.any_eq_true]
      exact ⟨_, List.getElem_mem hk, h1⟩)
    go_enter Tryd.func132, Tryd.ntmps132
    go_wp2_with (go_at_call 144; refine HI.out.mono ?_; rintro e w2 ⟨rfl, hb2⟩; rw [hi]; simp only [oint])
    go_ret
    exact ⟨ret_bool (by rw [hr.out]), hb2⟩

set_option maxHeartbeats 1000000 in
theorem indexH_any (cv : Value) (f : Lay → Bool) (a : Option Addr) (cap : Nat) (ls : List Lay) (w : World) (h : Cells w a (lays ls)) (hl : ls.length ≤ 1000000)
    (hF : ∀ q ∈ ls, ∀ W, Below w.heap.size w W → Calls Tryd.prog 135 #[prodV q, cv] W fun e w' => e = .returned (.bool (f q)) ∧ Below W.heap.size W w') :
    Calls Tryd.prog 144 #[.slice a ls.length cap, .func (.func 135) #[] #[cv]] w fun e w' => e = .returned (.int .i64 (oint (ls.findIdx? f))) ∧ Below w.heap.size w w' := by
  have HH := Lib.hid h
  have HF := Lib.hid hF
  clear h hF
  go_enter Tryd.func144, Tryd.ntmps144
  go_wp2
  go_loopw [8] (fun i wr => ∃ k : Nat, k ≤ ls.length ∧ i = .int .i64 k ∧ Below w.heap.size w wr ∧ Hid (∀ j q, j < k → ls[j]? = some q → f q = false)) (fun i _ => ls.length - (intOf i).toNat)
  case atStart => exact ⟨0, Nat.zero_le _, rfl, Below.refl _ _, Lib.hid (by intro j q hj; omega)⟩
  case round =>
    obtain ⟨k, hk, rfl, hb, HB⟩ := hrel
    by_cases hlt : k < ls.length
    · obtain ⟨q, hq⟩ : ∃ q, ls[k]? = some q := ⟨_, List.getElem?_eq_getElem hlt⟩
      obtain ⟨b, off, rfl, hbl, hc⟩ := (HH.out.below hb).get (by intro e; have := (lays_at ls k q hq).1; rw [e] at this; simp at this)
      have c0 := hc _ _ (lays_at ls k q hq).1
      have c1 := hc _ _ (lays_at ls k q hq).2
      rw [← Nat.add_assoc] at c1
      have e1 : (k : Int) < ls.length := by omega
      have HC := Lib.hid (HF.out q (List.mem_of_getElem? hq) wr hb)
      have HQ := Lib.hid hq
      have HW := Lib.hid hb
      obtain ⟨ql, qr, qa, qc⟩ := q
      unfold prodV at HC
      simp only at *
      clear hc hq
      cases hf : f ⟨ql, qr, qa, qc⟩ with
      | true =>
        go_wp2_with (go_at_call 135; refine HC.out.mono ?_; rintro e w2 ⟨rfl, hb2⟩; simp only [hf])
        go_ret
        refine ⟨ret_int ?_, HW.out.trans (hb2.mono HW.out.size)⟩
        rw [findIdx_first HQ.out hf HB.out]; rfl
      | false =>
        go_wp2_with (go_at_call 135; refine HC.out.mono ?_; rintro e w2 ⟨rfl, hb2⟩; simp only [hf])
        refine ⟨⟨k + 1, by omega, by go_num, HW.out.trans (hb2.mono HW.out.size), Lib.hid fun j q hj hq => ?_⟩, by simp [intOf]; omega⟩
        by_cases hjk : j = k
        · subst hjk; rw [HQ.out] at hq; cases hq; exact hf
        · exact HB.out j q (by omega) hq
    · have e1 : ¬ (k : Int) < ls.length := by omega
      go_wp2
      go_ret
      refine ⟨ret_int ?_, hb⟩
      rw [findIdx_never fun j q hq => HB.out j q (by have := (List.getElem?_eq_some_iff.1 hq).1; omega) hq]; rfl


theorem containsH_any (cv : Value) (f : Lay → Bool) (a : Option Addr) (cap : Nat) (ls : List Lay) (w : World) (h : Cells w a (lays ls)) (hl : ls.length ≤ 1000000)
    (hF : ∀ q ∈ ls, ∀ W, Below w.heap.size w W → Calls Tryd.prog 135 #[prodV q, cv] W fun e w' => e = .returned (.bool (f q)) ∧ Below W.heap.size W w') :
    Calls Tryd.prog 132 #[.slice a ls.length cap, .func (.func 135) #[] #[cv]] w fun e w' => e = .returned (.bool (ls.any f)) ∧ Below w.heap.size w w' := by
  have HI := Lib.hid (indexH_any cv f a cap ls w h hl hF)
  clear hF h
  cases hi : ls.findIdx? f with
  | none =>
    have hr := Lib.hid (show ls.any f = false by
      rw [List.any_eq_false]
      intro x hx
      have := List.findIdx?_eq_none_iff.1 hi x hx
      simp [this])
    go_enter Tryd.func132, Tryd.ntmps132
    go_wp2_with (go_at_call 144; refine HI.out.mono ?_; rintro e w2 ⟨rfl, hb2⟩; rw [hi]; simp only [oint])
    go_ret
    exact ⟨ret_bool hr.out.symm, hb2⟩
  | some k =>
    have hr := Lib.hid (show ls.any f = true by
      obtain ⟨hk, h1, _⟩ := List.findIdx?_eq_some_iff_getElem.1 hi
      rw [List.any_eq_true]
      exact ⟨_, List.getElem_mem hk, h1⟩)
    go_enter Tryd.func132, Tryd.ntmps132
    go_wp2_with (go_at_call 144; refine HI.out.mono ?_; rintro e w2 ⟨rfl, hb2⟩; rw [hi]; simp only [oint])
    go_ret
    exact ⟨ret_bool (by rw [hr.out]), hb2⟩


theorem stands_any (a : Option Addr) (cap : Nat) (ls : List Lay) (p : Lay) (w : World) (h : Cells w a (lays ls)) (hl : ls.length ≤ 1000000) (hp : Cells w p.addr (nums p.right)) (hpl : p.right.length ≤ 1000000) (hq : ∀ q ∈ ls, Cells w q.addr (nums q.right) ∧ q.right.length ≤ 1000000) :
    Calls Tryd.prog 108 #[.slice a ls.length cap, prodV p] w fun e w' => e = .returned (.bool (ls.any fun q => decide (p.plain = q.plain))) ∧ Below w.heap.size w w' := by
  have hmf : ∀ (fn : Fn) (first cap : Array Value) (w : World), (Instr.makeFunc fn first cap).run Tryd.prog w = .ok (.func fn first cap) w := fun _ _ _ _ => rfl
  have hS : Below w.heap.size w (w.alloc (.cells #[.int .i64 p.left, .slice p.addr p.right.length p.cap] 68)) := (Below.refl _ _).alloc (Nat.le_refl _) _
  have HC := Lib.hid (containsS_any (.pointer (some ⟨w.heap.size, 0, none⟩)) (fun q => decide (p.plain = q.plain)) a cap ls (w.alloc (.cells #[.int .i64 p.left, .slice p.addr p.right.length p.cap] 68)) (h.below hS) hl
    (fun q hqm W hW => stands1_any p q W w.heap.size ((hp.below hS).below hW) (((hq q hqm).1.below hS).below hW) hpl (hq q hqm).2 (Nat.lt_of_lt_of_le (by simp) hW.size)
      ((hW.cell (p := ⟨w.heap.size, 0, none⟩) (by simp)).trans (by go_simp)) ((hW.cell (p := ⟨w.heap.size, 1, none⟩) (by simp)).trans (by go_simp))))
  have HS := Lib.hid hS
  obtain ⟨pl, pr, pa, pc⟩ := p
  unfold prodV
  simp only at *
  clear hS h hp hq
  go_enter Tryd.func108, Tryd.ntmps108
  go_wp2_with (go_at_call 132; refine HC.out.mono ?_; rintro e w2 ⟨rfl, hb2⟩)
  go_ret
  exact ⟨rfl, HS.out.trans (hb2.mono HS.out.size)⟩

theorem hasProd_any (a : Option Addr) (cap : Nat) (ls : List Lay) (l : Int) (w : World) (h : Cells w a (lays ls)) (hl : ls.length ≤ 1000000) :
    Calls Tryd.prog 109 #[.slice a ls.length cap, .int .i64 l] w fun e w' => e = .returned (.bool (ls.any fun q => decide (q.left = l))) ∧ Below w.heap.size w w' := by
  have hmf : ∀ (fn : Fn) (first cap : Array Value) (w : World), (Instr.makeFunc fn first cap).run Tryd.prog w = .ok (.func fn first cap) w := fun _ _ _ _ => rfl
  have hS : Below w.heap.size w (w.alloc (.cells #[.int .i64 l] 3)) := (Below.refl _ _).alloc (Nat.le_refl _) _
  have HC := Lib.hid (containsH_any (.pointer (some ⟨w.heap.size, 0, none⟩)) (fun q => decide (q.left = l)) a cap ls (w.alloc (.cells #[.int .i64 l] 3)) (h.below hS) hl
    (fun q _ W hW => hasProd1_any l q W w.heap.size ((hW.cell (p := ⟨w.heap.size, 0, none⟩) (by simp)).trans (by go_simp)) (Nat.lt_of_lt_of_le (by simp) hW.size)))
  have HS := Lib.hid hS
  clear hS h
  go_enter Tryd.func109, Tryd.ntmps109
  go_wp2_with (go_at_call 132; refine HC.out.mono ?_; rintro e w2 ⟨rfl, hb2⟩)
  go_ret
  exact ⟨rfl, HS.out.trans (hb2.mono HS.out.size)⟩

end Go.Proofs.YtejjdfmobiegdaaDoor

namespace Go.Proofs.YtejjdfmobiegdaaDoor
open Go.RowKit
open Doc

theorem own_same {w w' : World} {B e size n : Nat} {v : Value} {xs : List Value} (h : w.ownsRow B e size v n xs) (hb : ∀ g, v.ownBlock = some g → g < w.heap.size → w'.heap[g]? = w.heap[g]?) : w'.ownsRow B e size v n xs := by
  refine ⟨h.1, ?_⟩
  rcases h.2 with h0 | ⟨g, cap, cur, hv, hB, hg, rest⟩
  · exact .inl h0
  · refine .inr ⟨g, cap, cur, hv, hB, ?_, rest⟩
    have hlt : g < w.heap.size := by
      rcases Nat.lt_or_ge g w.heap.size with h | h
      · exact h
      · rw [Array.getElem?_eq_none h] at hg; cases hg
    rw [hb g (by rw [hv]; rfl) hlt, hg]

theorem own_block {w : World} {B e size n : Nat} {v : Value} {xs : List Value} (h : w.ownsRow B e size v n xs) {g : Nat} (hg : v.ownBlock = some g) : B ≤ g ∧ g < w.heap.size ∧ ∃ cur, w.heap[g]? = some (.cells cur e (0, 0)) := by
  rcases h.2 with ⟨hv, _⟩ | ⟨g', cap, cur, hv, hB, hgg, rest⟩
  · rw [hv] at hg; cases hg
  · rw [hv] at hg
    have : g' = g := by simpa [Value.ownBlock] using hg
    subst this
    refine ⟨hB, ?_, cur, hgg⟩
    rcases Nat.lt_or_ge g' w.heap.size with h | h
    · exact h
    · rw [Array.getElem?_eq_none h] at hgg; cases hgg

/-- Rows of unlike elements are unlike rows. -/
theorem own_apart {w : World} {B B' e e' size size' n n' : Nat} {v v' : Value} {xs xs' : List Value} (h : w.ownsRow B e size v n xs) (h' : w.ownsRow B' e' size' v' n' xs') (he : e ≠ e') {g : Nat} (hg : v.ownBlock = some g) : v'.ownBlock ≠ some g := by
  intro hg'
  obtain ⟨_, _, c, hc⟩ := own_block h hg
  obtain ⟨_, _, c', hc'⟩ := own_block h' hg'
  rw [hc] at hc'
  cases hc'
  exact he rfl

section
variable {b : Nat} {w : World} {ts ns : List (List UInt8)} {ls : List Lay} {at_ an ap : Option Addr} {ct cn cp : Nat}

theorem own_cells {w : World} {B e size n cap : Nat} {a : Option Addr} {xs : List Value} (h : w.ownsRow B e size (.slice a n cap) n xs) : Cells w a xs ∧ n ≤ cap := by
  obtain ⟨a', cap', hv, hc⟩ := cells_own h
  cases hv
  refine ⟨hc, ?_⟩
  rcases h.2 with ⟨hv, h0⟩ | ⟨g, cap', cur, hv, _, _, hn, _⟩
  · omega
  · cases hv; exact hn

theorem heap_set (w : World) (b i : Nat) (u : Value) (cs : Array Value) (t : TypeId) (hb : w.heap[b]? = some (.cells cs t)) (_ : i < cs.size) : (w.setCell ⟨b, i, none⟩ u).heap[b]? = some (.cells (cs.set! i u) t) := by
  simp only [World.setCell, Array.getElem?_modify, hb, Option.map_some, Array.set!, if_true]
  rfl

end

/-- Blocks of other elements than these are as they were. -/
def Stays (es : List TypeId) (w w' : World) : Prop := ∀ (k : Nat) (cs : Array Value) (e : TypeId) (fr : Nat × Nat), w.heap[k]? = some (Obj.cells cs e fr) → e ∉ es → w'.heap[k]? = some (Obj.cells cs e fr)
theorem Stays.trans {es : List TypeId} {a b c : World} (h : Stays es a b) (k : Stays es b c) : Stays es a c := fun i cs e fr hi he => k i cs e fr (h i cs e fr hi he) he
theorem heap_lt {w : World} {k : Nat} {o : Obj} (h : w.heap[k]? = some o) : k < w.heap.size := by
  rcases Nat.lt_or_ge k w.heap.size with h1 | h1
  · exact h1
  · rw [Array.getElem?_eq_none h1] at h; cases h
theorem Stays.of_below (es : List TypeId) {w w' : World} (h : Below w.heap.size w w') : Stays es w w' := fun k _ _ _ hk _ => (h.block k (heap_lt hk)).trans hk
theorem Stays.grown {es : List TypeId} {w w' : World} {v : Value} {B e size n : Nat} {xs : List Value} (ho : w.ownsRow B e size v n xs) (he : e ∈ es) (hg : w.grownBy w' v.ownBlock) : Stays es w w' := fun k cs e' fr hk hn => by
  refine (hg.block k (heap_lt hk) fun hkk => ?_).trans hk
  obtain ⟨_, _, cur, hc⟩ := own_block ho hkk.symm
  rw [hk] at hc
  cases hc
  exact hn he
theorem Stays.set {es : List TypeId} {w : World} {b i : Nat} {u : Value} {cs : Array Value} {t : TypeId} {fr : Nat × Nat} (hb : w.heap[b]? = some (.cells cs t fr)) (ht : t ∈ es) : Stays es w (w.setCell ⟨b, i, none⟩ u) := fun k cs' e' fr' hk hn => by
  refine (Below.heap_setCell _ _ _ _ ?_).trans hk
  rintro rfl
  rw [hb] at hk
  cases hk
  exact hn ht

end Go.Proofs.YtejjdfmobiegdaaDoor

namespace Go.Proofs.YtejjdfmobiegdaaDoor
open Go.RowKit
open Doc

theorem infoS : (Tryd.prog.info? 9).map (fun i => (i.zero, i.size, i.bytes)) = some (some (.string ⟨#[]⟩), 1, 16) := by kernel_rfl
theorem infoP : (Tryd.prog.info? 68).map (fun i => (i.zero, i.size, i.bytes)) = some (some (.agg #[.int .i64 0, .slice none 0 0]), 2, 32) := by kernel_rfl
theorem infoI : (Tryd.prog.info? 3).map (fun i => (i.zero, i.size, i.bytes)) = some (some (.int .i64 0), 1, 8) := by kernel_rfl
theorem info_of {i : Option TypeInfo} {z : Option Value} {a b : Nat} (h : i.map (fun i => (i.zero, i.size, i.bytes)) = some (z, a, b)) : ∃ j, i = some j ∧ j.zero = z ∧ j.size = a ∧ j.bytes = b := by
  cases i with
  | none => cases h
  | some j => simp only [Option.map_some, Option.some.injEq, Prod.mk.injEq] at h; exact ⟨j, rfl, h.1, h.2.1, h.2.2⟩

section
variable {b : Nat} {w : World} {ts ns : List (List UInt8)} {ls : List Lay} {at_ an ap : Option Addr} {ct cn cp : Nat}

theorem blk_cell {w : World} {b i : Nat} {u : Value} {cs : Array Value} {t : TypeId} (hb : w.heap[b]? = some (.cells cs t)) (hi : cs[i]? = some u) : w.cell? ⟨b, i, none⟩ = some u ∧ w.frozen? ⟨b, i, none⟩ = false := by
  refine ⟨?_, ?_⟩
  · rw [cell_of_row w b i cs t _ hb]; exact hi
  · unfold World.frozen?; rw [hb]; simp

end

end Go.Proofs.YtejjdfmobiegdaaDoor
