/- item: the closing of a row of items, in plain words. No program here. item: a maker in plain words; what the laws of chapter 11 say of closings. No program here. -/
import Derived.Test.YtejjdfmobiegdaaDoorItF
set_option linter.unusedVariables false
namespace Go.Proofs.YtejjdfmobiegdaaDoor
open Go.RowKit
open Doc

/-- The place of an item's set. -/
def atC (x : It) : Nat := (x.1 + 1).toNat * 7 + x.2.1.toNat
structure InR (x : It) : Prop where
  p0 : -1 ≤ x.1
  p1 : x.1 < 24
  d0 : 0 ≤ x.2.1
  d1 : x.2.1 < 7
  a0 : 0 ≤ x.2.2
  a1 : x.2.2 < 64
def hasC (A : List Nat) (x : It) : Prop := InR x ∧ shas (A.getD (atC x) 0) x.2.2 = true
theorem atC_lt {x : It} (h : InR x) : atC x < 175 := by
  have := h.p0; have := h.p1; have := h.d0; have := h.d1
  unfold atC; omega
theorem atC_inj {x y : It} (hx : InR x) (hy : InR y) (h : atC x = atC y) : x.1 = y.1 ∧ x.2.1 = y.2.1 := by
  have := hx.p0; have := hx.p1; have := hx.d0; have := hx.d1
  have := hy.p0; have := hy.p1; have := hy.d0; have := hy.d1
  unfold atC at h; omega
structure Cl where
  all : List Nat
  begun : List Nat
  opn : List It
def putP (X : Cl) (x : It) : Cl := if shas (X.all.getD (atC x) 0) x.2.2 = true then X else ⟨X.all.set (atC x) (X.all.getD (atC x) 0 ||| sdig x.2.2), X.begun, X.opn ++ [x]⟩
theorem shas_or (s : Nat) (a b : Int) (ha : 0 ≤ a ∧ a < 64) : shas (s ||| sdig a) b = true ↔ shas s b = true ∨ b = a := by
  rw [has_eq, has_eq, Nat.testBit_or, bit_dig]
  simp only [Bool.and_eq_true, Bool.or_eq_true, decide_eq_true_eq]
  constructor
  · rintro ⟨h1, h2 | h2⟩
    · exact .inl ⟨h1, h2⟩
    · right; omega
  · rintro (⟨h1, h2⟩ | h2)
    · exact ⟨h1, .inl h2⟩
    · subst h2; exact ⟨ha, .inr (by omega)⟩
theorem cput_len (X : Cl) (x : It) : (putP X x).all.length = X.all.length ∧ (putP X x).begun = X.begun := by
  unfold putP; split <;> simp
theorem put_has {X : Cl} {x : It} (hl : X.all.length = 175) (hx : InR x) (y : It) : hasC (putP X x).all y ↔ hasC X.all y ∨ y = x := by
  unfold putP
  split
  · rename_i h
    constructor
    · exact .inl
    · rintro (h1 | rfl)
      · exact h1
      · exact ⟨hx, h⟩
  · rename_i h
    unfold hasC
    simp only
    constructor
    · rintro ⟨hy, h1⟩
      rw [getD_set] at h1
      split at h1
      · rename_i he
        rw [shas_or _ _ _ ⟨hx.a0, hx.a1⟩] at h1
        rcases h1 with h1 | h1
        · left; rw [← he.1]; exact ⟨hy, h1⟩
        · right
          obtain ⟨e1, e2⟩ := atC_inj hx hy he.1
          exact Prod.ext e1.symm (Prod.ext e2.symm h1)
      · exact .inl ⟨hy, h1⟩
    · rintro (⟨hy, h1⟩ | rfl)
      · refine ⟨hy, ?_⟩
        rw [getD_set]
        split
        · rename_i he
          rw [shas_or _ _ _ ⟨hx.a0, hx.a1⟩, he.1]; exact .inl h1
        · exact h1
      · refine ⟨hx, ?_⟩
        rw [getD_set, if_pos ⟨rfl, by rw [hl]; exact atC_lt hx⟩, shas_or _ _ _ ⟨hx.a0, hx.a1⟩]
        exact .inr rfl
theorem put_lt {X : Cl} (h : ∀ s ∈ X.all, s < 18446744073709551616) (x : It) : ∀ s ∈ (putP X x).all, s < 18446744073709551616 := by
  unfold putP
  split
  · exact h
  · exact set_lt h (or_lt _ _ (getD_lt h (by omega) _) (dig_lt _))
theorem put_open {X : Cl} {x y : It} (h : y ∈ (putP X x).opn) : y ∈ X.opn ∨ y = x := by
  unfold putP at h
  split at h
  · exact .inl h
  · simpa using h
theorem put_keep {X : Cl} {x y : It} (h : y ∈ X.opn) : y ∈ (putP X x).opn := by
  unfold putP
  split
  · exact h
  · simp [h]
theorem put_new {X : Cl} {x : It} (h : ¬ shas (X.all.getD (atC x) 0) x.2.2 = true) : x ∈ (putP X x).opn := by
  unfold putP
  rw [if_neg h]; simp
def bitsN (s : Nat) : List Nat := (List.range 64).filter fun i => s.testBit i
theorem mem_bitsN {s i : Nat} : i ∈ bitsN s ↔ i < 64 ∧ s.testBit i = true := by unfold bitsN; rw [List.mem_filter, List.mem_range]
theorem filter_one : ∀ {l : List Nat} (_ : l.Nodup) (p : Nat → Bool) {k : Nat} (_ : k ∈ l) (_ : p k = false), (l.filter fun i => p i || decide (i = k)).length = (l.filter p).length + 1
  | [], _, _, _, h, _ => by cases h
  | a :: l, hn, p, k, hk, hp => by
    rw [List.nodup_cons] at hn
    by_cases e : a = k
    · subst e
      have : (l.filter fun i => p i || decide (i = a)) = l.filter p := List.filter_congr fun i hi => by
        have : i ≠ a := fun e => hn.1 (e ▸ hi)
        simp [this]
      rw [List.filter_cons, List.filter_cons, this, hp]
      simp
    · have hk' : k ∈ l := by
        rcases List.mem_cons.1 hk with h | h
        · exact absurd h.symm e
        · exact h
      have ih := filter_one hn.2 p hk' hp
      rw [List.filter_cons, List.filter_cons]
      cases hpa : p a
      · simp [e, ih]
      · simp [ih]
theorem bitsN_len (s : Nat) : (bitsN s).length ≤ 64 := by have := List.length_filter_le (fun i => s.testBit i) (List.range 64); simpa [bitsN] using this
theorem bitsN_or {s : Nat} {a : Int} (ha : 0 ≤ a ∧ a < 64) (h : ¬ shas s a = true) : (bitsN (s ||| sdig a)).length = (bitsN s).length + 1 := by
  obtain ⟨k, rfl⟩ := Int.eq_ofNat_of_zero_le ha.1
  have hk : k < 64 := by omega
  have hf : s.testBit k = false := by
    rw [has_eq] at h
    simp only [Bool.and_eq_true, decide_eq_true_eq, not_and, Bool.not_eq_true] at h
    have := h ha
    simpa using this
  have e : bitsN (s ||| sdig (k : Int)) = (List.range 64).filter fun i => s.testBit i || decide (i = k) := by
    unfold bitsN
    refine List.filter_congr fun i hi => ?_
    rw [Nat.testBit_or, bit_dig]
    congr 1
    rw [decide_eq_decide]
    have := List.mem_range.1 hi
    omega
  rw [e]
  exact filter_one List.nodup_range _ (List.mem_range.2 hk) hf
def cntC (A : List Nat) : Nat := (A.map fun s => (bitsN s).length).sum
theorem cntC_set : ∀ {A : List Nat} {j v : Nat}, j < A.length → (bitsN v).length = (bitsN (A.getD j 0)).length + 1 → cntC (A.set j v) = cntC A + 1
  | [], _, _, h, _ => by simp at h
  | s :: A, 0, v, _, h => by simp [cntC] at h ⊢; omega
  | s :: A, j + 1, v, hj, h => by
    have ih := cntC_set (A := A) (j := j) (v := v) (by simpa using hj) (by simpa using h)
    simp [cntC] at ih ⊢; omega
theorem cntC_le : ∀ A : List Nat, cntC A ≤ 64 * A.length
  | [] => by simp [cntC]
  | s :: A => by have := cntC_le A; have := bitsN_len s; simp [cntC] at *; omega
/-- What is put in counts as one more, and is open. -/
theorem put_cnt {X : Cl} {x : It} (hl : X.all.length = 175) (hx : InR x) : cntC (putP X x).all + X.opn.length = cntC X.all + (putP X x).opn.length ∧ cntC X.all ≤ cntC (putP X x).all := by
  unfold putP
  split
  · exact ⟨rfl, Nat.le_refl _⟩
  · rename_i h
    have := cntC_set (A := X.all) (j := atC x) (v := X.all.getD (atC x) 0 ||| sdig x.2.2) (by rw [hl]; exact atC_lt hx) (bitsN_or ⟨hx.a0, hx.a1⟩ h)
    simp only [this, List.length_append, List.length_singleton]
    omega
def putAll (X : Cl) (l : List It) : Cl := l.foldl putP X
/-- What putting in a row of items comes to. -/
structure PutTo (X Y : Cl) (l : List It) : Prop where
  len : Y.all.length = 175
  beg : Y.begun = X.begun
  lt : (∀ s ∈ X.all, s < 18446744073709551616) → ∀ s ∈ Y.all, s < 18446744073709551616
  has : ∀ y, hasC Y.all y ↔ hasC X.all y ∨ y ∈ l
  opn : ∀ y ∈ Y.opn, y ∈ X.opn ∨ y ∈ l
  keep : ∀ y ∈ X.opn, y ∈ Y.opn
  new : ∀ y, hasC Y.all y → hasC X.all y ∨ y ∈ Y.opn
  cnt : cntC Y.all + X.opn.length = cntC X.all + Y.opn.length
  up : cntC X.all ≤ cntC Y.all
theorem PutTo.nil {X : Cl} (hl : X.all.length = 175) : PutTo X X [] :=
  ⟨hl, rfl, fun h => h, fun y => by simp, fun y h => .inl h, fun y h => h, fun y h => .inl h, rfl, Nat.le_refl _⟩
theorem PutTo.one {X Y : Cl} {l : List It} (h : PutTo X Y l) {x : It} (hx : InR x) : PutTo X (putP Y x) (l ++ [x]) where
  len := (cput_len Y x).1.trans h.len
  beg := (cput_len Y x).2.trans h.beg
  lt h0 := put_lt (h.lt h0) x
  has y := by rw [put_has h.len hx, h.has]; simp [or_assoc]
  opn y hy := by
    rcases put_open hy with h1 | h1
    · rcases h.opn y h1 with h2 | h2
      · exact .inl h2
      · right; simp [h2]
    · right; simp [h1]
  keep y hy := put_keep (h.keep y hy)
  new y hy := by
    rcases (put_has h.len hx y).1 hy with h1 | rfl
    · rcases h.new y h1 with h2 | h2
      · exact .inl h2
      · exact .inr (put_keep h2)
    · by_cases hc : shas (Y.all.getD (atC y) 0) y.2.2 = true
      · rcases h.new y ⟨hx, hc⟩ with h2 | h2
        · exact .inl h2
        · exact .inr (put_keep h2)
      · exact .inr (put_new hc)
  cnt := by have := (put_cnt h.len hx (X := Y)).1; have := h.cnt; omega
  up := Nat.le_trans h.up (put_cnt h.len hx).2
theorem putAll_to {X : Cl} (hl : X.all.length = 175) : ∀ (l m : List It) (Y : Cl), PutTo X Y m → (∀ x ∈ l, InR x) → PutTo X (putAll Y l) (m ++ l)
  | [], m, Y, h, _ => by rw [List.append_nil]; exact h
  | x :: l, m, Y, h, hx => by
    have := putAll_to hl l (m ++ [x]) (putP Y x) (h.one (hx x (List.mem_cons_self ..))) fun y hy => hx y (List.mem_cons_of_mem _ hy)
    rwa [List.append_assoc] at this
/-- A maker in plain terms: which items are right, what stands behind a dot, of each nonterminal its productions, what a rest and something behind it may begin with. -/
structure MkP where
  right : It → Bool
  rest : It → List Int
  of : List Nat
  ahd : List Int → Int → Nat
inductive Clo (K : MkP) (l : List It) : It → Prop
  | base {x : It} : x ∈ l → K.right x = true → Clo K l x
  | step {x : It} {s : Int} {r : List Int} {p a : Int} : Clo K l x → K.rest x = s :: r → 100 ≤ s → shas (K.of.getD (s - 100).toNat 0) p = true → shas (K.ahd r x.2.2) a = true → Clo K l (p, 0, a)
structure MkOk (K : MkP) : Prop where
  inr : ∀ x, K.right x = true → InR x
  non : ∀ x s r, K.right x = true → K.rest x = s :: r → 100 ≤ s → (s - 100).toNat < 8
  bring : ∀ x s r p a, K.right x = true → K.rest x = s :: r → 100 ≤ s → shas (K.of.getD (s - 100).toNat 0) p = true → shas (K.ahd r x.2.2) a = true → K.right (p, 0, a) = true
  ahd : ∀ r a, K.ahd r a < 18446744073709551616
theorem Clo.right {K : MkP} (hk : MkOk K) {l : List It} {x : It} (h : Clo K l x) : K.right x = true := by
  induction h with
  | base _ h => exact h
  | step _ h1 h2 h3 h4 ih => exact hk.bring _ _ _ _ _ ih h1 h2 h3 h4
def newI (P A : Nat) : List It := (bitsN P).flatMap fun (p : Nat) => (bitsN A).map fun (a : Nat) => ((p : Int), (0 : Int), (a : Int))
theorem shas_mem {s : Nat} {a : Int} : shas s a = true ↔ ∃ k : Nat, a = (k : Int) ∧ k ∈ bitsN s := by
  rw [has_eq, Bool.and_eq_true, decide_eq_true_iff]
  constructor
  · rintro ⟨h1, h2⟩
    exact ⟨a.toNat, by omega, mem_bitsN.2 ⟨by omega, h2⟩⟩
  · rintro ⟨k, rfl, h⟩
    obtain ⟨h1, h2⟩ := mem_bitsN.1 h
    exact ⟨by omega, by simpa using h2⟩
theorem mem_newI {P A : Nat} {y : It} : y ∈ newI P A ↔ ∃ p a : Int, y = (p, 0, a) ∧ shas P p = true ∧ shas A a = true := by
  unfold newI
  simp only [List.mem_flatMap, List.mem_map, shas_mem]
  constructor
  · rintro ⟨p, hp, a, ha, rfl⟩
    exact ⟨p, a, rfl, ⟨p, rfl, hp⟩, a, rfl, ha⟩
  · rintro ⟨_, _, rfl, ⟨p, rfl, hp⟩, a, rfl, ha⟩
    exact ⟨p, hp, a, ha, rfl⟩
/-- What one item brings is put in, but for what was begun. -/
def bringP (K : MkP) (X : Cl) (x : It) : Cl := match K.rest x with
  | [] => X
  | s :: r => if s < 100 then X else putAll { X with begun := X.begun.set (s - 100).toNat (X.begun.getD (s - 100).toNat 0 ||| sless (K.ahd r x.2.2) (X.begun.getD (s - 100).toNat 0)) } (newI (K.of.getD (s - 100).toNat 0) (sless (K.ahd r x.2.2) (X.begun.getD (s - 100).toNat 0)))
structure CInv (K : MkP) (l : List It) (X : Cl) : Prop where
  la : X.all.length = 175
  lb : X.begun.length = 8
  lt : ∀ s ∈ X.all, s < 18446744073709551616
  bt : ∀ s ∈ X.begun, s < 18446744073709551616
  sound : ∀ x, hasC X.all x → Clo K l x
  opn : ∀ x ∈ X.opn, hasC X.all x
  base : ∀ x ∈ l, K.right x = true → hasC X.all x
  cl : ∀ x, hasC X.all x → x ∈ X.opn ∨ ∀ s r p a, K.rest x = s :: r → 100 ≤ s → shas (K.of.getD (s - 100).toNat 0) p = true → shas (K.ahd r x.2.2) a = true → hasC X.all (p, 0, a)
  bg : ∀ (n : Nat) p a, shas (X.begun.getD n 0) a = true → shas (K.of.getD n 0) p = true → hasC X.all (p, 0, a)
  cnt : X.opn.length ≤ cntC X.all
theorem less_or {s b : Nat} {a : Int} (hs : s < 18446744073709551616) (hb : b < 18446744073709551616) : shas (b ||| sless s b) a = true ↔ shas b a = true ∨ shas s a = true := by
  rw [has_eq, has_eq, has_eq, Nat.testBit_or, bit_less _ _ _ hs hb]
  simp only [Bool.and_eq_true, Bool.or_eq_true, decide_eq_true_eq]
  cases b.testBit a.toNat <;> cases s.testBit a.toNat <;> simp
theorem less_has {s b : Nat} {a : Int} (hs : s < 18446744073709551616) (hb : b < 18446744073709551616) : shas (sless s b) a = true ↔ shas s a = true ∧ ¬ shas b a = true := by
  rw [has_eq, has_eq, has_eq, bit_less _ _ _ hs hb]
  simp only [Bool.and_eq_true, decide_eq_true_eq]
  cases b.testBit a.toNat <;> cases s.testBit a.toNat <;> simp
theorem cless_lt {s b : Nat} (hs : s < 18446744073709551616) : sless s b < 18446744073709551616 := Nat.lt_of_le_of_lt Nat.and_le_left hs
/-- One step of the closing: the item that was taken brings what it brings. -/
theorem CInv.bring {K : MkP} (hk : MkOk K) {l : List It} {X : Cl} (h : CInv K l X) {o : List It} {x : It} (ho : X.opn = o ++ [x]) :
    CInv K l (bringP K { X with opn := o } x) ∧ 22400 + (bringP K { X with opn := o } x).opn.length - 2 * cntC (bringP K { X with opn := o } x).all < 22400 + X.opn.length - 2 * cntC X.all := by
  have hxm : x ∈ X.opn := by rw [ho]; simp
  have hx := h.opn x hxm
  have hxr := (h.sound x hx).right hk
  have hcl := cntC_le X.all
  rw [h.la] at hcl
  have holen : X.opn.length = o.length + 1 := by rw [ho]; simp
  have hcnt := h.cnt
  have hopn : ∀ y ∈ o, y ∈ X.opn := fun y hy => by rw [ho]; simp [hy]
  have hopn2 : ∀ y ∈ X.opn, y ∈ o ∨ y = x := fun y hy => by rw [ho] at hy; simpa using hy
  have idle : (∀ s r, K.rest x = s :: r → ¬ 100 ≤ s) → CInv K l { X with opn := o } ∧ 22400 + o.length - 2 * cntC X.all < 22400 + X.opn.length - 2 * cntC X.all := fun hn => by
    refine ⟨⟨h.la, h.lb, h.lt, h.bt, h.sound, fun y hy => h.opn y (hopn y hy), h.base, fun y hy => ?_, h.bg, by show o.length ≤ cntC X.all; omega⟩, by omega⟩
    rcases h.cl y hy with h1 | h1
    · rcases hopn2 y h1 with h2 | h2
      · exact .inl h2
      · right
        intro s r p a h3 h4
        rw [h2] at h3
        exact absurd h4 (hn s r h3)
    · exact .inr h1
  unfold bringP
  split
  · rename_i hr
    exact idle fun s r e => by rw [hr] at e; cases e
  · rename_i s r hr
    split
    · rename_i hs
      exact idle fun s' r' e => by rw [hr] at e; cases e; omega
    · rename_i hs
      have hs : 100 ≤ s := by omega
      have hn8 := hk.non x s r hxr hr hs
      have ha := hk.ahd r x.2.2
      have hb : X.begun.getD (s - 100).toNat 0 < 18446744073709551616 := getD_lt h.bt (by omega) _
      generalize hB : X.begun.getD (s - 100).toNat 0 = B at *
      generalize hA : K.ahd r x.2.2 = A at *
      have hin : ∀ y ∈ newI (K.of.getD (s - 100).toNat 0) (sless A B), InR y ∧ Clo K l y := fun y hy => by
        obtain ⟨p, a, rfl, hp, hq⟩ := mem_newI.1 hy
        have hq := ((less_has ha hb).1 hq).1
        rw [← hA] at hq
        exact ⟨hk.inr _ (hk.bring x s r p a hxr hr hs hp hq), .step (h.sound x hx) hr hs hp hq⟩
      have T := putAll_to (X := { X with begun := X.begun.set (s - 100).toNat (B ||| sless A B), opn := o }) h.la (newI (K.of.getD (s - 100).toNat 0) (sless A B)) [] _ (.nil h.la) fun y hy => (hin y hy).1
      rw [List.nil_append] at T
      generalize putAll { X with begun := X.begun.set (s - 100).toNat (B ||| sless A B), opn := o } (newI (K.of.getD (s - 100).toNat 0) (sless A B)) = Y at *
      have hY := cntC_le Y.all
      rw [T.len] at hY
      have t1 := T.cnt
      have t2 := T.up
      simp only at t1 t2
      have hbg : ∀ (n : Nat) p a, shas (Y.begun.getD n 0) a = true → shas (K.of.getD n 0) p = true → hasC Y.all (p, 0, a) := fun n p a h1 h2 => by
        rw [T.beg] at h1
        simp only at h1
        rw [getD_set] at h1
        rw [T.has]
        split at h1
        · rename_i he
          rw [← he.1] at h2
          rcases (less_or ha hb).1 h1 with h3 | h3
          · left
            exact h.bg (s - 100).toNat p a (by rw [hB]; exact h3) h2
          · by_cases h4 : shas B a = true
            · left
              exact h.bg (s - 100).toNat p a (by rw [hB]; exact h4) h2
            · right
              exact mem_newI.2 ⟨p, a, rfl, h2, (less_has ha hb).2 ⟨h3, h4⟩⟩
        · exact .inl (h.bg n p a h1 h2)
      refine ⟨⟨T.len, by rw [T.beg]; simp [h.lb], T.lt h.lt, by rw [T.beg]; exact set_lt h.bt (or_lt _ _ hb (cless_lt ha)), fun y hy => ?_, fun y hy => ?_, fun y hy hr => (T.has y).2 (.inl (h.base y hy hr)), fun y hy => ?_, hbg, by omega⟩, by omega⟩
      · rcases (T.has y).1 hy with h1 | h1
        · exact h.sound y h1
        · exact (hin y h1).2
      · rw [T.has]
        rcases T.opn y hy with h1 | h1
        · exact .inl (h.opn y (hopn y h1))
        · exact .inr h1
      · rcases T.new y hy with h1 | h1
        · rcases h.cl y h1 with h2 | h2
          · rcases hopn2 y h2 with h3 | h3
            · exact .inl (T.keep y h3)
            · right
              intro s' r' p a e1 e2 e3 e4
              subst h3
              rw [hr] at e1
              cases e1
              refine hbg (s - 100).toNat p a ?_ e3
              rw [T.beg]
              simp only
              rw [getD_set, if_pos ⟨rfl, by rw [h.lb]; exact hn8⟩]
              exact (less_or ha hb).2 (.inr (by rw [← hA]; exact e4))
          · right
            intro s' r' p a e1 e2 e3 e4
            exact (T.has _).2 (.inl (h2 s' r' p a e1 e2 e3 e4))
        · exact .inl h1
/-- The closing as it begins. -/
def Cl0 : Cl := ⟨List.replicate 175 0, List.replicate 8 0, []⟩
def putR (K : MkP) (X : Cl) (x : It) : Cl := if K.right x = true then putP X x else X
theorem shas_zero (a : Int) : shas 0 a = false := by rw [has_eq]; simp
theorem rep_getD (n i : Nat) : (List.replicate n 0).getD i 0 = 0 := by
  rw [List.getD_eq_getElem?_getD, List.getElem?_replicate]
  split <;> rfl
theorem putR_to {K : MkP} (hk : MkOk K) : ∀ (l m : List It) (Y : Cl), PutTo Cl0 Y m → PutTo Cl0 (l.foldl (putR K) Y) (m ++ l.filter K.right)
  | [], m, Y, h => by simpa using h
  | x :: l, m, Y, h => by
    rw [List.foldl_cons, List.filter_cons]
    cases hr : K.right x with
    | true =>
      have := putR_to hk l (m ++ [x]) (putP Y x) (h.one (hk.inr x hr))
      rw [List.append_assoc] at this
      simpa only [putR, hr, if_true, List.singleton_append] using this
    | false =>
      have := putR_to hk l m Y h
      simpa only [putR, hr, Bool.false_eq_true, if_false] using this
theorem cinv_first {K : MkP} (hk : MkOk K) (l : List It) : CInv K l (l.foldl (putR K) Cl0) := by
  have T := putR_to hk l [] Cl0 (.nil (by rw [show Cl0.all = List.replicate 175 0 from rfl, List.length_replicate]))
  rw [List.nil_append] at T
  generalize l.foldl (putR K) Cl0 = Y at *
  have h0 : ∀ y, ¬ hasC Cl0.all y := fun y h => by
    have := h.2
    rw [show Cl0.all = List.replicate 175 0 from rfl, rep_getD, shas_zero] at this
    cases this
  have hall : ∀ y, hasC Y.all y → y ∈ Y.opn := fun y hy => (T.new y hy).resolve_left (h0 y)
  have hz : ∀ s ∈ Cl0.all, s < 18446744073709551616 := fun s hs => by rw [List.eq_of_mem_replicate hs]; omega
  refine ⟨T.len, by rw [T.beg, show Cl0.begun = List.replicate 8 0 from rfl, List.length_replicate], T.lt hz, fun s hs => ?_, fun y hy => ?_, fun y hy => ?_, fun y hy hr => ?_, fun y hy => .inl (hall y hy), fun n p a h1 _ => ?_, ?_⟩
  · rw [T.beg] at hs
    rw [List.eq_of_mem_replicate hs]; omega
  · have h1 := ((T.has y).1 hy).resolve_left (h0 y)
    rw [List.mem_filter] at h1
    exact .base h1.1 h1.2
  · rcases T.opn y hy with h1 | h1
    · cases h1
    · exact (T.has y).2 (.inr h1)
  · exact (T.has y).2 (.inr (List.mem_filter.2 ⟨hy, hr⟩))
  · rw [T.beg, show Cl0.begun = List.replicate 8 0 from rfl, rep_getD, shas_zero] at h1
    cases h1
  · have := T.cnt
    have e : Cl0.opn.length = 0 := rfl
    have := T.up
    have h2 : cntC Cl0.all = 0 := by
      have h3 : bitsN 0 = [] := by unfold bitsN; exact List.filter_eq_nil_iff.2 fun i _ => by simp
      rw [show Cl0.all = List.replicate 175 0 from rfl]
      unfold cntC
      rw [List.map_replicate, h3, List.sum_replicate_nat]; rfl
    omega
theorem CInv.done {K : MkP} {l : List It} {X : Cl} (h : CInv K l X) (ho : X.opn = []) (x : It) : hasC X.all x ↔ Clo K l x := by
  refine ⟨h.sound x, fun hx => ?_⟩
  induction hx with
  | base h1 h2 => exact h.base _ h1 h2
  | step _ h1 h2 h3 h4 ih =>
    rcases h.cl _ ih with h5 | h5
    · rw [ho] at h5; cases h5
    · exact h5 _ _ _ _ h1 h2 h3 h4
/-- Sorted: each ahead of all behind it. -/
def SortI (l : List It) : Prop := l.Pairwise fun a b => lessIt a b = true
theorem less_irr (a : It) : ¬ lessIt a a = true := by unfold lessIt; rw [decide_eq_true_iff]; omega
theorem less_asy {a b : It} (h : lessIt a b = true) : ¬ lessIt b a = true := by unfold lessIt at *; rw [decide_eq_true_iff] at *; omega
theorem less_trI {a b c : It} (h : lessIt a b = true) (k : lessIt b c = true) : lessIt a c = true := by unfold lessIt at *; rw [decide_eq_true_iff] at *; omega
theorem sort_uniq : ∀ {l m : List It}, SortI l → SortI m → (∀ x, x ∈ l ↔ x ∈ m) → l = m
  | [], [], _, _, _ => rfl
  | [], y :: m, _, _, h => absurd ((h y).2 (List.mem_cons_self ..)) (by simp)
  | x :: l, [], _, _, h => absurd ((h x).1 (List.mem_cons_self ..)) (by simp)
  | x :: l, y :: m, hl, hm, h => by
    have hl' := List.pairwise_cons.1 hl
    have hm' := List.pairwise_cons.1 hm
    have e : x = y := by
      rcases List.mem_cons.1 ((h x).1 (List.mem_cons_self ..)) with h1 | h1
      · exact h1
      · rcases List.mem_cons.1 ((h y).2 (List.mem_cons_self ..)) with h2 | h2
        · exact h2.symm
        · exact absurd (hl'.1 y h2) (less_asy (hm'.1 x h1))
    subst e
    rw [sort_uniq hl'.2 hm'.2 fun z => ?_]
    constructor
    · intro hz
      rcases List.mem_cons.1 ((h z).1 (List.mem_cons_of_mem _ hz)) with h1 | h1
      · subst h1; exact absurd (hl'.1 z hz) (less_irr z)
      · exact h1
    · intro hz
      rcases List.mem_cons.1 ((h z).2 (List.mem_cons_of_mem _ hz)) with h1 | h1
      · subst h1; exact absurd (hm'.1 z hz) (less_irr z)
      · exact h1
def rowIt (A : List Nat) (i d : Nat) : List It := (bitsN (A.getD (i * 7 + d) 0)).map fun (a : Nat) => ((i : Int) - 1, (d : Int), (a : Int))
def dotsP (A : List Nat) (i : Nat) : List It := (List.range 7).flatMap (rowIt A i)
def listP (A : List Nat) : List It := (List.range 25).flatMap (dotsP A)
theorem mem_listP {A : List Nat} {x : It} : x ∈ listP A ↔ hasC A x := by
  unfold listP dotsP rowIt hasC
  simp only [List.mem_flatMap, List.mem_map, List.mem_range, mem_bitsN]
  constructor
  · rintro ⟨i, hi, d, hd, a, ⟨ha, hb⟩, rfl⟩
    refine ⟨⟨by simp only; omega, by simp only; omega, by simp only; omega, by simp only; omega, by simp only; omega, by simp only; omega⟩, ?_⟩
    rw [has_eq, Bool.and_eq_true, decide_eq_true_iff]
    refine ⟨by simp only; omega, ?_⟩
    have e : atC ((i : Int) - 1, (d : Int), (a : Int)) = i * 7 + d := by unfold atC; simp only; omega
    rw [e]
    simpa using hb
  · rintro ⟨hr, hb⟩
    have := hr.p0; have := hr.p1; have := hr.d0; have := hr.d1; have := hr.a0; have := hr.a1
    rw [has_eq, Bool.and_eq_true] at hb
    refine ⟨(x.1 + 1).toNat, by omega, x.2.1.toNat, by omega, x.2.2.toNat, ⟨by omega, hb.2⟩, ?_⟩
    exact Prod.ext (by simp only; omega) (Prod.ext (by simp only; omega) (by simp only; omega))
theorem sort_listP (A : List Nat) : SortI (listP A) := by
  unfold SortI listP
  rw [List.pairwise_flatMap]
  refine ⟨fun i _ => ?_, ?_⟩
  · unfold dotsP
    rw [List.pairwise_flatMap]
    refine ⟨fun d _ => ?_, ?_⟩
    · unfold rowIt
      rw [List.pairwise_map]
      refine List.Pairwise.imp ?_ (List.pairwise_lt_range.filter _)
      intro a b hab
      refine decide_eq_true (Or.inr ⟨rfl, Or.inr ⟨rfl, ?_⟩⟩)
      show (a : Int) < (b : Int)
      omega
    · refine List.Pairwise.imp ?_ List.pairwise_lt_range
      intro d e hde x hx y hy
      unfold rowIt at hx hy
      obtain ⟨a, _, rfl⟩ := List.mem_map.1 hx
      obtain ⟨b, _, rfl⟩ := List.mem_map.1 hy
      refine decide_eq_true (Or.inr ⟨rfl, Or.inl ?_⟩)
      show (d : Int) < (e : Int)
      omega
  · refine List.Pairwise.imp ?_ List.pairwise_lt_range
    intro i j hij x hx y hy
    unfold dotsP rowIt at hx hy
    simp only [List.mem_flatMap, List.mem_map] at hx hy
    obtain ⟨d, _, a, _, rfl⟩ := hx
    obtain ⟨e, _, b, _, rfl⟩ := hy
    refine decide_eq_true (Or.inl ?_)
    show (i : Int) - 1 < (j : Int) - 1
    omega
/-- The closing of a row of items, sorted. -/
def CloseP (K : MkP) (l L : List It) : Prop := SortI L ∧ ∀ x, x ∈ L ↔ Clo K l x
theorem CloseP.uniq {K : MkP} {l L M : List It} (h : CloseP K l L) (k : CloseP K l M) : L = M := sort_uniq h.1 k.1 fun x => (h.2 x).trans (k.2 x).symm
theorem CInv.close {K : MkP} {l : List It} {X : Cl} (h : CInv K l X) (ho : X.opn = []) : CloseP K l (listP X.all) := ⟨sort_listP _, fun x => mem_listP.trans (h.done ho x)⟩
end Go.Proofs.YtejjdfmobiegdaaDoor

set_option linter.unusedVariables false
namespace Go.Proofs.YtejjdfmobiegdaaDoor
open Go.RowKit
open Doc

/-- A maker in memory as one in plain terms. -/
def mkP (M : MakR) (F : List Nat) : MkP := ⟨isIt M, restM M, M.of, fun r a => goOnF (ofF M.terms F r 1) (aheadS M.terms a)⟩
structure MakW (M : MakR) (F : List Nat) : Prop where
  ok : MakOk M
  r6 : ∀ r ∈ M.rights, r.row.length ≤ 6
  sy : ∀ r ∈ M.rights, ∀ s ∈ r.row, 0 ≤ s ∧ s < 100 + (M.of.length : Int)
  o1 : 1 ≤ M.of.length
  ofp : ∀ n p, shas (M.of.getD n 0) p = true → shas M.places p = true
  low : LowF M.terms F
theorem low_ahead (t : Nat) (y : Int) : LowB t (aheadS t y) := by
  unfold aheadS
  split
  · rename_i h; exact low_dig h.2
  · exact low_zero t
theorem low_has {t s : Nat} {a : Int} (h : LowB t s) (k : shas s a = true) : 0 ≤ a ∧ a ≤ (t : Int) := by
  rw [has_eq, Bool.and_eq_true, decide_eq_true_iff] at k
  have := h _ k.2
  omega
theorem right_some {M : MakR} {F : List Nat} (h : MakW M F) {p : Int} {l : List Int} (hr : rightM M p = some l) : -1 ≤ p ∧ p < 24 ∧ l.length ≤ 6 ∧ ∀ s ∈ l, 0 ≤ s ∧ s < 100 + (M.of.length : Int) := by
  unfold rightM at hr
  split at hr
  · cases hr; exact ⟨by omega, by omega, by simp, fun s hs => by rw [List.mem_singleton] at hs; have := h.o1; omega⟩
  · split at hr
    · rename_i hs
      cases hr
      have h1 := h.ok.pr p hs
      have h2 := h.ok.r24
      have hm : M.rights.getD p.toNat ⟨none, 0, []⟩ ∈ M.rights := by
        rw [List.getD_eq_getElem?_getD, List.getElem?_eq_getElem (by omega)]
        exact List.getElem_mem _
      exact ⟨by omega, by omega, h.r6 _ hm, h.sy _ hm⟩
    · cases hr
theorem isIt_parts {M : MakR} {x : It} (h : isIt M x = true) : ∃ l, rightM M x.1 = some l ∧ 0 ≤ x.2.1 ∧ x.2.1 ≤ (l.length : Int) ∧ followM M x.1 x.2.2 = true := by
  unfold isIt at h
  cases hr : rightM M x.1 with
  | none => rw [hr] at h; cases h
  | some l =>
    rw [hr] at h
    simp only [Bool.and_eq_true, decide_eq_true_eq] at h
    exact ⟨l, rfl, h.1.1, h.1.2, h.2⟩
theorem mkOk_of {M : MakR} {F : List Nat} (h : MakW M F) : MkOk (mkP M F) where
  inr x hx := by
    obtain ⟨l, h1, h2, h3, h4⟩ := isIt_parts (show isIt M x = true from hx)
    obtain ⟨h5, h6, h7, _⟩ := right_some h h1
    unfold followM at h4
    rw [decide_eq_true_iff] at h4
    have := h.ok.t8
    exact ⟨h5, h6, h2, by omega, by omega, by omega⟩
  non x s r hx hr hs := by
    obtain ⟨l, h1, h2, h3, h4⟩ := isIt_parts (show isIt M x = true from hx)
    have hr : restM M x = s :: r := hr
    unfold restM at hr
    rw [if_pos (show isIt M x = true from hx), h1] at hr
    have hm : s ∈ l := List.mem_of_mem_drop (i := x.2.1.toNat) (by
      have hr : l.drop x.2.1.toNat = s :: r := hr
      rw [hr]; simp)
    have := (right_some h h1).2.2.2 s hm
    have := h.ok.o8
    omega
  bring x s r p a hx hr hs hp ha := by
    have hp := h.ofp _ p hp
    have h1 := h.ok.pr p hp
    have h2 := low_has (low_goOn (by have := h.ok.t8; omega) (low_of (by have := h.ok.t8; omega) h.low r 1 (low_one _)) (low_ahead _ _)) ha
    show isIt M (p, 0, a) = true
    unfold isIt rightM followM
    rw [if_neg (by simp only; omega), if_pos hp]
    simp only [Bool.and_eq_true, decide_eq_true_eq]
    omega
  ahd r a := low_lt (low_goOn (by have := h.ok.t8; omega) (low_of (by have := h.ok.t8; omega) h.low r 1 (low_one _)) (low_ahead _ _)) (by have := h.ok.t8; omega)
theorem rest_nums {M : MakR} {F : List Nat} (h : MakW M F) {x : It} {s : Int} (hs : s ∈ restM M x) : 0 ≤ s ∧ s < 100 + (M.of.length : Int) := by
  unfold restM at hs
  split at hs
  · rename_i hx
    obtain ⟨l, h1, _⟩ := isIt_parts hx
    rw [h1] at hs
    exact (right_some h h1).2.2.2 s (List.mem_of_mem_drop hs)
  · cases hs
theorem Clo.mono {K : MkP} {l m : List It} (h : ∀ x ∈ l, x ∈ m) {x : It} (hx : Clo K l x) : Clo K m x := by
  induction hx with
  | base h1 h2 => exact .base (h _ h1) h2
  | step _ h1 h2 h3 h4 ih => exact .step ih h1 h2 h3 h4
theorem Clo.app {K : MkP} {l m : List It} {x : It} : Clo K (l ++ m) x ↔ Clo K l x ∨ Clo K m x := by
  constructor
  · intro h
    induction h with
    | base h1 h2 => exact (List.mem_append.1 h1).imp (fun h => .base h h2) (fun h => .base h h2)
    | step _ h1 h2 h3 h4 ih => exact ih.imp (fun h => .step h h1 h2 h3 h4) (fun h => .step h h1 h2 h3 h4)
  · rintro (h | h)
    · exact h.mono fun y hy => by simp [hy]
    · exact h.mono fun y hy => by simp [hy]
theorem Clo.of {K : MkP} {l m : List It} (h : ∀ x ∈ l, K.right x = true → Clo K m x) {x : It} (hx : Clo K l x) : Clo K m x := by
  induction hx with
  | base h1 h2 => exact h _ h1 h2
  | step _ h1 h2 h3 h4 ih => exact .step ih h1 h2 h3 h4
theorem CloseP.mem {K : MkP} (hk : MkOk K) {l L : List It} (h : CloseP K l L) {x : It} (hx : x ∈ L) : K.right x = true := ((h.2 x).1 hx).right hk
/-- What is closed stays as it is. -/
theorem CloseP.idem {K : MkP} (hk : MkOk K) {l L : List It} (h : CloseP K l L) : CloseP K L L :=
  ⟨h.1, fun x => ⟨fun hx => .base hx (h.mem hk hx), fun hx => (h.2 x).2 (hx.of fun y hy _ => (h.2 y).1 hy)⟩⟩
theorem CloseP.app {K : MkP} (hk : MkOk K) {l m A B : List It} (ha : CloseP K l A) (hb : CloseP K m B) {C : List It} (hc : CloseP K (l ++ m) C) : CloseP K (B ++ A) C :=
  ⟨hc.1, fun x => (hc.2 x).trans (by
    rw [Clo.app, Clo.app]
    constructor
    · rintro (h | h)
      · exact .inr (.base ((ha.2 x).2 h) (h.right hk))
      · exact .inl (.base ((hb.2 x).2 h) (h.right hk))
    · rintro (h | h)
      · exact .inr (h.of fun y hy _ => (hb.2 y).1 hy)
      · exact .inl (h.of fun y hy _ => (ha.2 y).1 hy))⟩
def stepI (x : It) : It := (x.1, x.2.1 + 1, x.2.2)
def goesB (K : MkP) (s : Int) (x : It) : Bool := (K.rest x).head? == some s
/-- The items behind a symbol. -/
def overP (K : MkP) (l : List It) (s : Int) : List It := (l.filter (goesB K s)).map stepI
theorem overP_app (K : MkP) (l m : List It) (s : Int) : overP K (l ++ m) s = overP K l s ++ overP K m s := by unfold overP; rw [List.filter_append, List.map_append]
theorem mem_overP {K : MkP} {l : List It} {s : Int} {y : It} : y ∈ overP K l s ↔ ∃ x ∈ l, goesB K s x = true ∧ stepI x = y := by
  unfold overP
  simp only [List.mem_map, List.mem_filter, and_assoc]
theorem CloseP.over {K : MkP} (hk : MkOk K) {l m A B C X Y : List It} (ha : CloseP K l A) (hb : CloseP K m B) (hc : CloseP K (l ++ m) C) {s : Int} {GA GB : List It} (ga : CloseP K (overP K A s) GA) (gb : CloseP K (overP K B s) GB) (hx : CloseP K (overP K C s) X) (hy : CloseP K (GA ++ GB) Y) : X = Y := by
  have hm : ∀ z, z ∈ C ↔ z ∈ A ∨ z ∈ B := fun z => by rw [hc.2, ha.2, hb.2, Clo.app]
  refine sort_uniq hx.1 hy.1 fun x => ?_
  rw [hx.2, hy.2, Clo.app]
  have e : Clo K (overP K C s) x ↔ Clo K (overP K A s) x ∨ Clo K (overP K B s) x := by
    rw [← Clo.app]
    constructor <;> refine fun h => h.mono fun y hy => ?_
    · obtain ⟨z, h1, h2, h3⟩ := mem_overP.1 hy
      rcases (hm z).1 h1 with h4 | h4
      · exact List.mem_append_left _ (mem_overP.2 ⟨z, h4, h2, h3⟩)
      · exact List.mem_append_right _ (mem_overP.2 ⟨z, h4, h2, h3⟩)
    · rcases List.mem_append.1 hy with h | h
      · obtain ⟨z, h1, h2, h3⟩ := mem_overP.1 h
        exact mem_overP.2 ⟨z, (hm z).2 (.inl h1), h2, h3⟩
      · obtain ⟨z, h1, h2, h3⟩ := mem_overP.1 h
        exact mem_overP.2 ⟨z, (hm z).2 (.inr h1), h2, h3⟩
  rw [e]
  constructor
  · exact Or.imp (fun h => .base ((ga.2 x).2 h) (h.right hk)) (fun h => .base ((gb.2 x).2 h) (h.right hk))
  · exact Or.imp (fun h => h.of fun y hy _ => (ga.2 y).1 hy) (fun h => h.of fun y hy _ => (gb.2 y).1 hy)
/-- The item that all begins with. -/
def ownI : It := (-1, 0, 0)
/-- Of the first items each begins, and, but for the first, is brought by another one. -/
theorem CloseP.begin {M : MakR} {F : List Nat} {L : List It} (hc : CloseP (mkP M F) [ownI] L) {y : It} (hy : y ∈ L) :
    y.2.1 = 0 ∧ (0 ≤ y.1 → ∃ z ∈ L, ∃ s, nextM M z = some s ∧ 100 ≤ s ∧ shas (M.of.getD (s - 100).toNat 0) y.1 = true) := by
  have hy' := (hc.2 y).1 hy
  cases hy' with
  | base h1 _ =>
    rw [List.mem_singleton] at h1
    subst h1
    exact ⟨rfl, fun h0 => absurd h0 (by decide)⟩
  | step h0 h1 h2 h3 h4 =>
    refine ⟨rfl, fun _ => ⟨_, (hc.2 _).2 h0, _, ?_, h2, h3⟩⟩
    unfold nextM
    rw [show restM M _ = _ from h1]; rfl
end Go.Proofs.YtejjdfmobiegdaaDoor
