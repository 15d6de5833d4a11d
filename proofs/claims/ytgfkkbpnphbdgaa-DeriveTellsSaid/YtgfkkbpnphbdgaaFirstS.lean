/- What a row may begin with: sets that grow, in plain words. No program here. -/
import Derived.Test.YtgfkkbpnphbdgaaReach
namespace Go.Proofs.Ytgfkkbpnphbdgaa
open Doc

def aloneF (t : Nat) (F : List Nat) (s : Int) : Nat := if 1 ≤ s ∧ s ≤ (t : Int) then sdig s else if 100 ≤ s ∧ s < 100 + (F.length : Int) then F.getD (s - 100).toNat 0 else 0
def goOnF (row behind : Nat) : Nat := if shas row 0 = true then sless row 1 ||| behind else row
def ofF (t : Nat) (F : List Nat) : List Int → Nat → Nat
  | [], row => row
  | s :: l, row => if aloneF t F s = 0 then 0 else ofF t F l (goOnF row (aloneF t F s))
def stepF (t : Nat) (ps : List (Int × List Int)) (F : List Nat) (k : Int) : List Nat :=
  match ps[k.toNat]? with
  | none => F
  | some p => F.set (p.1 - 100).toNat (F.getD (p.1 - 100).toNat 0 ||| ofF t F p.2 1)
def growF (t : Nat) (ps : List (Int × List Int)) (l : List Int) (F : List Nat) : List Nat := l.foldl (stepF t ps) F
/-- All of one are in the other. -/
def Sub (a b : Nat) : Prop := ∀ i, a.testBit i = true → b.testBit i = true
def SubF (F G : List Nat) : Prop := ∀ i, Sub (F.getD i 0) (G.getD i 0)
/-- No digit above t. -/
def LowB (t a : Nat) : Prop := ∀ i, a.testBit i = true → i ≤ t
theorem Sub.refl (a : Nat) : Sub a a := fun _ h => h
theorem Sub.trans {a b c : Nat} (h : Sub a b) (k : Sub b c) : Sub a c := fun i hi => k i (h i hi)
theorem Sub.zero (b : Nat) : Sub 0 b := fun i hi => by simp at hi
theorem Sub.anti {a b : Nat} (h : Sub a b) (k : Sub b a) : a = b := Nat.eq_of_testBit_eq fun i => Bool.eq_iff_iff.2 ⟨h i, k i⟩
theorem Sub.ne {a b : Nat} (h : Sub a b) (ha : a ≠ 0) : b ≠ 0 := by
  rintro rfl
  exact ha (h.anti (Sub.zero _))
theorem sub_or_left (a b : Nat) : Sub a (a ||| b) := fun i hi => by rw [Nat.testBit_or, hi]; rfl
theorem LowB.or {t a b : Nat} (h : LowB t a) (k : LowB t b) : LowB t (a ||| b) := fun i hi => by
  rw [Nat.testBit_or, Bool.or_eq_true] at hi
  exact hi.elim (h i) (k i)
theorem getD_set (F : List Nat) (i j v : Nat) : (F.set i v).getD j 0 = if i = j ∧ j < F.length then v else F.getD j 0 := by
  rw [List.getD_eq_getElem?_getD, List.getD_eq_getElem?_getD, List.getElem?_set]
  by_cases h : i = j
  · subst h
    by_cases h2 : i < F.length
    · simp [h2]
    · simp [h2]
  · simp [h]
theorem step_len (t : Nat) (ps : List (Int × List Int)) (F : List Nat) (k : Int) : (stepF t ps F k).length = F.length := by
  unfold stepF; split <;> simp
theorem grow_len (t : Nat) (ps : List (Int × List Int)) : ∀ (l : List Int) (F : List Nat), (growF t ps l F).length = F.length
  | [], _ => rfl
  | k :: l, F => (grow_len t ps l _).trans (step_len t ps F k)
theorem SubF.refl (F : List Nat) : SubF F F := fun _ => Sub.refl _
theorem SubF.trans {F G H : List Nat} (h : SubF F G) (k : SubF G H) : SubF F H := fun i => (h i).trans (k i)
theorem SubF.anti {F G : List Nat} (hl : F.length = G.length) (h : SubF F G) (k : SubF G F) : F = G := by
  apply List.ext_getElem? 
  intro i
  by_cases hi : i < F.length
  · have e := Sub.anti (h i) (k i)
    rw [List.getD_eq_getElem?_getD, List.getD_eq_getElem?_getD, List.getElem?_eq_getElem hi, List.getElem?_eq_getElem (by omega)] at e
    rw [List.getElem?_eq_getElem hi, List.getElem?_eq_getElem (by omega)]
    exact congrArg some e
  · rw [List.getElem?_eq_none (by omega), List.getElem?_eq_none (by omega)]
theorem step_ext (t : Nat) (ps : List (Int × List Int)) (F : List Nat) (k : Int) : SubF F (stepF t ps F k) := fun j => by
  unfold stepF
  split
  · exact Sub.refl _
  · rw [getD_set]
    split
    · rename_i h; rw [h.1]; exact sub_or_left _ _
    · exact Sub.refl _
theorem grow_ext (t : Nat) (ps : List (Int × List Int)) : ∀ (l : List Int) (F : List Nat), SubF F (growF t ps l F)
  | [], F => SubF.refl F
  | k :: l, F => (step_ext t ps F k).trans (grow_ext t ps l _)
end Go.Proofs.Ytgfkkbpnphbdgaa
