/- What items and states want of the texts of words, tracks and rows (cut out of them). -/
import Derived.Test.YtejjdfmobiegdaaDoorSpec
import Derived.Test.YtejjdfmobiegdaaDoorForm
import Derived.Test.YtejjdfmobiegdaaDoorWake
import Derived.Test.YtejjdfmobiegdaaDoorLeafs
import Derived.Test.YtejjdfmobiegdaaDoorSetO
import Derived.Test.YtejjdfmobiegdaaDoorRaw
import Derived.Lib.LaidTab
import Derived.Lib.TrailingZeros
import Derived.Laws.BitsAllLaws
import Derived.Deep.QuietTactic
import Derived.BigQuiet
import Derived.Test.YtejjdfmobiegdaaDoorFirstN
import Derived.StillTailTactics
import Derived.Deep.WholeRow
import Derived.Laws.CopyOwn
import Derived.Deep.CutRange
import Derived.Test.YtejjdfmobiegdaaDoorReach
import Derived.Laws.MakeOwn
import Derived.Lib.AppendZerosOnto
import Derived.Lib.AppendZeros
import Derived.Lib.SliceRun
namespace Go.Proofs.YtejjdfmobiegdaaDoor.Wd
open Doc

/-- Ahead by the first place where they differ. -/
def lexI : List Int → List Int → Bool
  | x :: a, y :: b => if x = y then lexI a b else decide (x < y)
  | _, _ => false
/-- Shorter, or as long and ahead. -/
def lessI (a b : List Int) : Bool := if a.length = b.length then lexI a b else decide (a.length < b.length)
theorem lex_irrefl : ∀ a, lexI a a = false
  | [] => rfl
  | x :: a => by simp [lexI, lex_irrefl a]
theorem less_irrefl (a : List Int) : lessI a a = false := by simp [lessI, lex_irrefl]
theorem lex_trans : ∀ a b c : List Int, lexI a b = true → lexI b c = true → lexI a c = true
  | [], _, _, h, _ => by simp [lexI] at h
  | _ :: _, [], _, h, _ => by simp [lexI] at h
  | _ :: _, _ :: _, [], _, h => by simp [lexI] at h
  | x :: a, y :: b, z :: c, h1, h2 => by
    have ih := lex_trans a b c
    simp only [lexI] at h1 h2 ⊢
    by_cases e1 : x = y
    · subst e1
      rw [if_pos rfl] at h1
      by_cases e2 : x = z
      · subst e2; rw [if_pos rfl] at h2 ⊢; exact ih h1 h2
      · rw [if_neg e2] at h2 ⊢; exact h2
    · rw [if_neg e1] at h1
      simp only [decide_eq_true_eq] at h1
      by_cases e2 : y = z
      · subst e2; rw [if_neg e1]; simpa using h1
      · rw [if_neg e2] at h2
        simp only [decide_eq_true_eq] at h2
        rw [if_neg (by omega)]; simp; omega
theorem lex_total : ∀ a b : List Int, a.length = b.length → lexI a b = true ∨ lexI b a = true ∨ a = b
  | [], [], _ => .inr (.inr rfl)
  | [], _ :: _, h => by simp at h
  | _ :: _, [], h => by simp at h
  | x :: a, y :: b, h => by
    simp only [lexI]
    by_cases e : x = y
    · subst e
      rw [if_pos rfl, if_pos rfl]
      rcases lex_total a b (by simpa using h) with h | h | h
      · exact .inl h
      · exact .inr (.inl h)
      · exact .inr (.inr (by rw [h]))
    · rw [if_neg e, if_neg (Ne.symm e)]
      simp only [decide_eq_true_eq]
      rcases Int.lt_trichotomy x y with h | h | h
      · exact .inl h
      · exact absurd h e
      · exact .inr (.inl h)
theorem less_iff (a b : List Int) : lessI a b = true ↔ a.length < b.length ∨ (a.length = b.length ∧ lexI a b = true) := by
  unfold lessI
  split
  · rename_i h; simp only [h, Nat.lt_irrefl, false_or, true_and]
  · rename_i h; simp only [decide_eq_true_eq, h, false_and, or_false]
theorem less_trans {a b c : List Int} (h1 : lessI a b = true) (h2 : lessI b c = true) : lessI a c = true := by
  rw [less_iff] at *
  rcases h1 with h1 | ⟨h1, h1'⟩ <;> rcases h2 with h2 | ⟨h2, h2'⟩
  · exact .inl (by omega)
  · exact .inl (by omega)
  · exact .inl (by omega)
  · exact .inr ⟨by omega, lex_trans _ _ _ h1' h2'⟩
theorem less_total (a b : List Int) : lessI a b = true ∨ lessI b a = true ∨ a = b := by
  rw [less_iff, less_iff]
  rcases Nat.lt_trichotomy a.length b.length with h | h | h
  · exact .inl (.inl h)
  · rcases lex_total a b h with h' | h' | h'
    · exact .inl (.inr ⟨h, h'⟩)
    · exact .inr (.inl (.inr ⟨h.symm, h'⟩))
    · exact .inr (.inr h')
  · exact .inr (.inl (.inl h))
theorem less_asymm {a b : List Int} (h : lessI a b = true) : lessI b a = false := by
  cases h' : lessI b a with
  | false => rfl
  | true => have := less_trans h h'; rw [less_irrefl] at this; cases this
/-- Not behind. -/
def leI (a b : List Int) : Prop := lessI b a = false
theorem le_refl (a : List Int) : leI a a := less_irrefl a
theorem le_cases {a b : List Int} (h : leI a b) : lessI a b = true ∨ a = b := by
  rcases less_total a b with h' | h' | h'
  · exact .inl h'
  · rw [h] at h'; cases h'
  · exact .inr h'
theorem le_trans {a b c : List Int} (h1 : leI a b) (h2 : leI b c) : leI a c := by
  rcases le_cases h1 with h1 | rfl
  · rcases le_cases h2 with h2 | rfl
    · exact less_asymm (less_trans h1 h2)
    · exact less_asymm h1
  · exact h2
theorem antisymm {a b : List Int} (h1 : leI a b) (h2 : leI b a) : a = b := by
  rcases le_cases h1 with h | h
  · rw [h2] at h; cases h
  · exact h

abbrev Kn := List (Option (List Int))
def known (L : Kn) (k : Nat) : Option (List Int) := (L[k]?).join
end Go.Proofs.YtejjdfmobiegdaaDoor.Wd

set_option linter.unusedVariables false
namespace Go.Proofs.YtejjdfmobiegdaaDoor
open Go.RowKit
open Doc

/-! ### A row's least word -/
/-- A least word as it lies. -/
structure WL where
  word : List Int
  known : Bool
  addr : Option Addr
  cap : Nat
/-- Each that is known lies as it is, and is not too long. -/
def WRows (w : World) (ls : List WL) : Prop := ∀ p ∈ ls, p.known = true → Cells w p.addr (nums p.word) ∧ p.word.length ≤ 100000000
theorem WRows.below {w w' : World} {ls : List WL} (h : WRows w ls) (hb : Below w.heap.size w w') : WRows w' ls := fun p hp hk => ⟨(h p hp hk).1.below hb, (h p hp hk).2⟩

end Go.Proofs.YtejjdfmobiegdaaDoor

set_option linter.unusedVariables false
namespace Go.Proofs.YtejjdfmobiegdaaDoor
open Go.RowKit
open Doc

theorem nums_app (a b : List Int) : nums (a ++ b) = nums a ++ nums b := by simp [nums]
theorem own_news0 {W : World} {b : Nat} {a : Option Addr} {l : List Int} (h : Cells W a (nums l)) (hl : l ≠ []) : ∃ g o, a = some ⟨g, o, none⟩ ∧ ∀ j u, (nums l)[j]? = some u → W.cell? ((⟨g, o, none⟩ : Addr).add j) = some u := by
  obtain ⟨g, o, rfl, _, hc⟩ := h.get (by unfold nums; intro e; rw [List.map_eq_nil_iff] at e; exact hl e)
  refine ⟨g, o, rfl, fun j u hu => ?_⟩
  have e : (⟨g, o, none⟩ : Addr).add j = ⟨g, o + j, none⟩ := by unfold Addr.add; split <;> simp_all
  rw [e]; exact hc j u hu

section
variable {P : Program} {w : World}
/-- Nothing is appended. -/
theorem run_nothing (t ty e : TypeId) (i : TypeInfo) (ht : P.underlying t = some (.slice e)) (hi : P.info? e = some i) (va : Option Addr) (n cap : Nat) (hle : n ≤ cap) (xa : Option Addr) (c : Nat) :
    (Builtin.append_ #[t, t] ty #[.slice va n cap, .slice xa 0 c]).run P w = .ok (.slice va n cap) w := by
  cases xa <;> cases va <;> simp [Builtin.append_, run_underlying ht, sizeOf, typeInfo, hi, Builtin.lenOf, Builtin.firstCells, hle, storeCells, loadCells, loadCellsFrom]
theorem wpList_nothing {ops : Array Oper} {rest : List Oper} {o : Oper} {a : Act} {Q : Exit → Act → World → Prop} (hgd : o.guard = none) (s x : Operand) (t : TypeId)
    (ho : o.op = .call { callee := .builtin .append, args := #[s, x], argTypes := #[t, t] })
    (e : TypeId) (i : TypeInfo) (ht : P.underlying t = some (.slice e)) (hi : P.info? e = some i)
    (va : Option Addr) (n cap : Nat) (hs : a.eval s = .slice va n cap) (hle : n ≤ cap) (xa : Option Addr) (c : Nat) (hx : a.eval x = .slice xa 0 c)
    (h : wpList P ops Q rest (a.put o.dst (.slice va n cap)) w) : wpList P ops Q (o :: rest) a w :=
  wpList_plain hgd fun _ hK => by
    have hr := run_nothing (P := P) (w := w) t o.type e i ht hi va n cap hle xa c
    unfold Oper.wp execOp
    simp only [ho, resolve, invoke, builtin, Sem.run_bind, Sem.run_pure, Result.andThen_ok, List.map_toArray, List.map_cons, List.map_nil, hs, hx, hr]
    exact hK _ _ h
end

end Go.Proofs.YtejjdfmobiegdaaDoor

set_option linter.unusedVariables false
namespace Go.Proofs.YtejjdfmobiegdaaDoor
open Go.RowKit
open Doc

theorem wpList_app {w : World} {ops : Array Oper} {rest : List Oper} {o : Oper} {a : Act} {Q : Exit → Act → World → Prop} (hgd : o.guard = none) (s x : Operand)
    (ho : o.op = .call { callee := .builtin .append, args := #[s, x], argTypes := #[25, 25] })
    (base : Nat) (va : Option Addr) (n vc : Nat) (xs : List Int) (hs : a.eval s = .slice va n vc) (hown : w.ownsRow base 3 1 (.slice va n vc) n (nums xs)) (hb : base ≤ w.heap.size)
    (xa : Option Addr) (l : List Int) (xc : Nat) (hx : a.eval x = .slice xa l.length xc) (hc : Cells w xa (nums l)) (hn : n + l.length ≤ 1000000000000)
    (h : ∀ va' vc' w', w'.ownsRow base 3 1 (.slice va' (n + l.length) vc') (n + l.length) (nums (xs ++ l)) → w.grownBy w' (Value.slice va n vc).ownBlock → wpList Tryd.prog ops Q rest (a.put o.dst (.slice va' (n + l.length) vc')) w') : wpList Tryd.prog ops Q (o :: rest) a w := by
  obtain ⟨i0, hi0, hz0, hz1, hz2⟩ := info_of infoI
  by_cases hl : l = []
  · subst hl
    have hnc := (own_cells hown).2
    refine wpList_nothing hgd s x 25 ho 3 i0 Tryd.underlying25 hi0 va n vc hs hnc xa xc hx ?_
    have := h va vc w (by simpa using hown) ⟨rfl, rfl, rfl, Nat.le_refl _, fun _ _ _ => rfl⟩
    simpa using this
  · obtain ⟨g, off, rfl, hn5⟩ := own_news0 (b := 0) hc hl
    have hm1 : 0 < l.length := List.length_pos_iff.2 hl
    refine wpList_append_lies _ hgd s x 25 ho base 3 i0 (.int .i64 0) 1 8 Tryd.underlying25 hi0 hz0 hz1 hz2 rfl (by decide) _ n (nums xs) hs hown ⟨g, off, none⟩ l.length xc (nums l) hx (by simp [nums]) hn5 (fun u hu => by obtain ⟨z, _, rfl⟩ := List.mem_map.1 hu; rfl) hm1 (by unfold maxLen; omega) (by omega) hb _ rfl ?_
    intro g4 cap4 w4 hown4 hgrow4 _ _
    exact h _ _ _ (by rw [nums_app]; exact hown4) hgrow4

end Go.Proofs.YtejjdfmobiegdaaDoor

set_option linter.unusedVariables false
namespace Go.Proofs.YtejjdfmobiegdaaDoor

def orL (l : List Nat) : Nat := l.foldl (fun a b => a ||| b) 0
theorem orL_go (l : List Nat) : ∀ a q, ((l.foldl (fun a b => a ||| b) a).testBit q = true) ↔ (a.testBit q = true ∨ ∃ x ∈ l, x.testBit q = true) := by
  induction l with
  | nil => intro a q; simp
  | cons y l ih => intro a q; rw [List.foldl_cons, ih]; simp [Nat.testBit_or, or_assoc]
theorem orL_bit (l : List Nat) (q : Nat) : (orL l).testBit q = true ↔ ∃ x ∈ l, x.testBit q = true := by
  unfold orL; rw [orL_go]; simp
/-- Where words of a nonterminal lead to from these places. -/
def onT (en : List Nat) (A f : Nat) : Nat := orL ((List.range 13).map fun p => if f.testBit p then en.getD (A * 13 + p) 0 else 0)
theorem onT_bit (en : List Nat) (A f q : Nat) : (onT en A f).testBit q = true ↔ ∃ p, p < 13 ∧ f.testBit p = true ∧ (en.getD (A * 13 + p) 0).testBit q = true := by
  unfold onT
  rw [orL_bit]
  constructor
  · rintro ⟨x, hx, hq⟩
    obtain ⟨p, hp, rfl⟩ := List.mem_map.1 hx
    rw [List.mem_range] at hp
    by_cases h : f.testBit p = true
    · rw [if_pos h] at hq; exact ⟨p, hp, h, hq⟩
    · rw [if_neg h] at hq; simp at hq
  · rintro ⟨p, hp, hf, hq⟩
    exact ⟨_, List.mem_map.2 ⟨p, List.mem_range.2 hp, rfl⟩, by rw [if_pos hf]; exact hq⟩
theorem bits_lt {x n : Nat} (h : ∀ q, x.testBit q = true → q < n) : x < 2 ^ n := by
  apply Nat.lt_pow_two_of_testBit
  intro i hi
  cases hx : x.testBit i with
  | false => rfl
  | true => have := h i hx; omega
theorem bit_lt {x n q : Nat} (h : x < 2 ^ n) (hq : x.testBit q = true) : q < n := by
  by_cases hn : q < n
  · exact hn
  · rw [Nat.testBit_lt_two_pow (Nat.lt_of_lt_of_le h (Nat.pow_le_pow_right (by omega) (by omega)))] at hq; cases hq
theorem onT_lt {n : Nat} {en : List Nat} (he : ∀ x ∈ en, x < 2 ^ n) (A f : Nat) : onT en A f < 2 ^ n := by
  apply bits_lt
  intro q hq
  obtain ⟨p, _, _, h⟩ := (onT_bit ..).1 hq
  by_cases hl : A * 13 + p < en.length
  · rw [List.getD_eq_getElem?_getD, List.getElem?_eq_getElem hl] at h
    exact bit_lt (he _ (List.getElem_mem hl)) h
  · rw [List.getD_eq_getElem?_getD, List.getElem?_eq_none (by omega)] at h; simp at h

end Go.Proofs.YtejjdfmobiegdaaDoor

set_option linter.unusedVariables false
namespace Go.Proofs.YtejjdfmobiegdaaDoor
open Go.RowKit

/-! ### The table of 32 -/
theorem gTab32 : Tryd.prog.globalNamed "math/bits.deBruijn32tab" = some 1 := by kernel_rfl
/-- The table of the lowest digits of a number of 32 is as its initialiser lays it. -/
def Tab32 (w : World) : Prop := Lib.TabIs Tryd.prog w "math/bits.deBruijn32tab" .u8 (Lib.deBruijn32tab.map Int.ofNat)
theorem Tab32.cell {w : World} (h : Tab32 w) (i : Nat) (hi : i < 32) : w.cell? ⟨1, i, none⟩ = some (.int .u8 (Lib.deBruijn32tab.getD i 0 : Nat)) := by
  have hl : Lib.deBruijn32tab.length = 32 := by decide
  rw [Lib.TabIs.cell h gTab32 i (by rw [List.length_map, hl]; exact hi)]
  simp [List.getD, hl, hi]
theorem Tab32.below {w w' : World} (h : Tab32 w) (hb : Below w.heap.size w w') : Tab32 w' := by
  have hc : w.cell? ⟨1, 0, none⟩ = some _ := h.cell 0 (by decide)
  have hlt : 1 < w.heap.size := by
    rcases Nat.lt_or_ge 1 w.heap.size with h1 | h1
    · exact h1
    · have : w.heap[1]? = none := Array.getElem?_eq_none h1
      simp [World.cell?, this] at hc
  exact var?_below hb gTab32 hlt h
end Go.Proofs.YtejjdfmobiegdaaDoor

set_option linter.unusedVariables false
namespace Go.Proofs.YtejjdfmobiegdaaDoor
open Go.RowKit

/-- A track, in plain terms. -/
structure Trk where
  ap : Option Addr
  cp : Nat
  ls : List Lay
  terms : Nat
  last : Nat
  st : List Nat
  stays : Nat
  en : List Nat
def u16s (l : List Nat) : List Value := l.map fun (x : Nat) => Value.int .u16 (x : Int)
def trkL (X : Trk) : List Value := [.slice X.ap X.ls.length X.cp, .int .i64 X.terms, .int .i64 X.last] ++ u16s X.st ++ [.int .u16 X.stays] ++ u16s X.en
/-- A track as it lies: block B; its rows. -/
structure TrkAt (w : World) (B : Nat) (X : Trk) : Prop where
  q : w.heap[B]? = some (.cells (trkL X).toArray 81)
  rows : Cells w X.ap (lays X.ls)
  row : ∀ p ∈ X.ls, Cells w p.addr (nums p.right)
  s9 : X.st.length = 9
  e104 : X.en.length = 104
theorem trk_en {X : Trk} (h9 : X.st.length = 9) (h104 : X.en.length = 104) {j : Nat} (hj : j < 104) : (trkL X)[13 + j]? = some (.int .u16 ((X.en.getD j 0 : Nat) : Int)) := by
  unfold trkL
  rw [List.getElem?_append_right (by simp [u16s, h9])]
  simp only [u16s, List.length_append, List.length_cons, List.length_nil, List.length_map, h9]
  rw [show 13 + j - (0 + 1 + 1 + 1 + 9 + (0 + 1)) = j by omega, List.getElem?_map, List.getElem?_eq_getElem (by omega), List.getD_eq_getElem?_getD, List.getElem?_eq_getElem (by omega)]
  rfl
theorem TrkAt.drew {w : World} {B : Nat} {X : Trk} (h : TrkAt w B X) (n : Nat) : TrkAt (w.drewN n) B X := ⟨h.q, h.rows, h.row, h.s9, h.e104⟩
theorem TrkAt.below {w w' : World} {B : Nat} {X : Trk} (h : TrkAt w B X) (hb : Below w.heap.size w w') : TrkAt w' B X := ⟨(hb.block _ (heap_lt h.q)).trans h.q, h.rows.below hb, fun p hp => (h.row p hp).below hb, h.s9, h.e104⟩

end Go.Proofs.YtejjdfmobiegdaaDoor

set_option linter.unusedVariables false
namespace Go.Proofs.YtejjdfmobiegdaaDoor
open Go.RowKit

/-- One symbol more. -/
def symT (X : Trk) (l : Nat) (s : Int) : Nat := if s < 100 then (l &&& X.st.getD s.toNat 0) * 2 ||| l &&& X.stays else onT X.en (s - 100).toNat l
/-- Where words of these symbols lead to. -/
def rowT (X : Trk) (r : List Int) (at_ : Nat) : Nat := r.foldl (symT X) (2 ^ at_)
/-- A track's numbers are small. -/
structure TrkOk (X : Trk) : Prop where
  st : ∀ x ∈ X.st, x < 4096
  sy : X.stays < 8192
  en : ∀ x ∈ X.en, x < 8192
theorem getD_lt {l : List Nat} {b : Nat} (h : ∀ x ∈ l, x < b) (hb : 0 < b) (j : Nat) : l.getD j 0 < b := by
  rw [List.getD_eq_getElem?_getD]
  cases hx : l[j]? with
  | none => simpa using hb
  | some x => exact h x (List.mem_of_getElem? hx)
theorem symT_lt {X : Trk} (h : TrkOk X) (l : Nat) (hl : l < 8192) (s : Int) : symT X l s < 8192 := by
  unfold symT
  split
  · have h1 : l &&& X.st.getD s.toNat 0 < 4096 := Nat.lt_of_le_of_lt Nat.and_le_right (getD_lt h.st (by omega) _)
    have h2 : l &&& X.stays < 8192 := Nat.lt_of_le_of_lt Nat.and_le_right h.sy
    exact Nat.or_lt_two_pow (n := 13) (by omega) h2
  · exact onT_lt (n := 13) h.en _ _
end Go.Proofs.YtejjdfmobiegdaaDoor

set_option linter.unusedVariables false
namespace Go.Proofs.YtejjdfmobiegdaaDoor
open Go.RowKit

def Trk.wen (X : Trk) (E : List Nat) : Trk := { X with en := E }
/-- One production's. -/
def gsT (X : Trk) (at_ : Nat) (E : List Nat) (p : Lay) : List Nat := E.set ((p.left - 100).toNat * 13 + at_) (E.getD ((p.left - 100).toNat * 13 + at_) 0 ||| rowT (X.wen E) p.right at_)
def growE (X : Trk) (at_ : Nat) (l : List Lay) (E : List Nat) : List Nat := l.foldl (gsT X at_) E
theorem gsT_len (X : Trk) (at_ : Nat) (E : List Nat) (p : Lay) : (gsT X at_ E p).length = E.length := by unfold gsT; rw [List.length_set]
theorem growE_len (X : Trk) (at_ : Nat) : ∀ (l : List Lay) (E : List Nat), (growE X at_ l E).length = E.length
  | [], _ => rfl
  | p :: l, E => (growE_len X at_ l _).trans (gsT_len X at_ E p)
theorem gsT_ext (X : Trk) (at_ : Nat) (E : List Nat) (p : Lay) : SubF E (gsT X at_ E p) := fun j => by
  unfold gsT
  rw [getD_set]
  split
  · rename_i h; rw [h.1]; exact sub_or_left _ _
  · exact Sub.refl _
theorem growE_ext (X : Trk) (at_ : Nat) : ∀ (l : List Lay) (E : List Nat), SubF E (growE X at_ l E)
  | [], E => SubF.refl E
  | p :: l, E => (gsT_ext X at_ E p).trans (growE_ext X at_ l _)
theorem TrkOk.wen {X : Trk} (h : TrkOk X) {E : List Nat} (hE : ∀ x ∈ E, x < 8192) : TrkOk (X.wen E) := ⟨h.st, h.sy, hE⟩
theorem set_lt {E : List Nat} {b : Nat} (h : ∀ x ∈ E, x < b) {j v : Nat} (hv : v < b) : ∀ x ∈ E.set j v, x < b := fun x hx => by
  rcases List.mem_or_eq_of_mem_set hx with h1 | h1
  · exact h x h1
  · rw [h1]; exact hv
structure GrowT (X : Trk) (at_ : Nat) (F : List Nat) (k : Nat) (gb : Bool) (E : List Nat) : Prop where
  e : E = growE X at_ (X.ls.take k) F
  g : gb = true ↔ E ≠ F
theorem GrowT.step {X : Trk} {at_ : Nat} {F : List Nat} {k : Nat} {gb : Bool} {E : List Nat} (h : GrowT X at_ F k gb E) {p : Lay} (hp : X.ls[k]? = some p) {i : Nat} (hi : (p.left - 100).toNat * 13 + at_ = i) (hil : i < E.length) {x : Nat} (hx : E.getD i 0 = x) (gb' : Bool) (hg : gb' = true ↔ (gb = true ∨ (x ||| rowT (X.wen E) p.right at_) ≠ x)) :
    GrowT X at_ F (k + 1) gb' (E.set i (x ||| rowT (X.wen E) p.right at_)) := by
  have e1 : E.set i (x ||| rowT (X.wen E) p.right at_) = gsT X at_ E p := by unfold gsT; rw [hi, hx]
  have hext : SubF F E := by rw [h.e]; exact growE_ext X at_ _ F
  have hE : E.length = F.length := by rw [h.e]; exact growE_len X at_ _ F
  have hstep : SubF E (E.set i (x ||| rowT (X.wen E) p.right at_)) := by rw [e1]; exact gsT_ext X at_ E p
  have hxx : E[i]? = some x := by rw [List.getD_eq_getElem?_getD, List.getElem?_eq_getElem hil] at hx; rw [List.getElem?_eq_getElem hil]; exact congrArg some hx
  refine ⟨?_, ?_⟩
  · rw [e1, h.e]; unfold growE; rw [List.take_add_one, hp]; simp
  · rw [hg, h.g]
    have hsame : (x ||| rowT (X.wen E) p.right at_) = x ↔ E.set i (x ||| rowT (X.wen E) p.right at_) = E := by
      constructor
      · intro e
        rw [e]
        exact List.ext_getElem? fun m => by
          rw [List.getElem?_set]
          split
          · rename_i hm; subst hm; first | rw [hxx] | rw [if_pos hil, hxx]
          · rfl
      · intro e
        have : (E.set i (x ||| rowT (X.wen E) p.right at_))[i]? = E[i]? := by rw [e]
        rw [List.getElem?_set, if_pos rfl, if_pos hil, hxx] at this
        exact Option.some.inj this
    constructor
    · rintro (h1 | h1)
      · intro e
        rw [e] at hstep
        exact h1 (SubF.anti hE hstep hext)
      · intro e
        rw [e] at hstep
        have := SubF.anti hE hstep hext
        exact h1 (hsame.2 (e.trans this.symm))
    · intro h1
      by_cases h2 : E = F
      · right
        intro h3
        exact h1 ((hsame.1 h3).trans h2)
      · exact .inl h2
theorem u16s_set (F : List Nat) (i v : Nat) : u16s (F.set i v) = (u16s F).set i (.int .u16 (v : Int)) := by unfold u16s; rw [List.map_set]
theorem trkL_set {X : Trk} {E : List Nat} (h9 : X.st.length = 9) {j : Nat} (v : Nat) : trkL (X.wen (E.set j v)) = (trkL (X.wen E)).set (13 + j) (.int .u16 (v : Int)) := by
  have key : ∀ hd : List Value, hd.length = 13 → hd ++ u16s (E.set j v) = (hd ++ u16s E).set (13 + j) (.int .u16 (v : Int)) := by
    intro hd hl
    rw [u16s_set, List.set_append_right _ _ (by rw [hl]; omega), hl, show 13 + j - 13 = j by omega]
  exact key _ (by simp [u16s, Trk.wen, h9])
/-- A track's block alone. -/
structure TrkQ (w : World) (B : Nat) (X : Trk) (E : List Nat) : Prop where
  q : w.heap[B]? = some (.cells (trkL (X.wen E)).toArray 81)
  s9 : X.st.length = 9
  e104 : E.length = 104
theorem TrkQ.at {w w0 : World} {B : Nat} {X : Trk} {E : List Nat} (h : TrkQ w B X E) (h0 : Below w0.heap.size w0 w) (hr : Cells w0 X.ap (lays X.ls)) (hrow : ∀ p ∈ X.ls, Cells w0 p.addr (nums p.right)) : TrkAt w B (X.wen E) :=
  ⟨h.q, hr.below h0, fun p hp => (hrow p hp).below h0, h.s9, h.e104⟩
theorem TrkQ.below {w w' : World} {B : Nat} {X : Trk} {E : List Nat} (h : TrkQ w B X E) (hb : Below w.heap.size w w') : TrkQ w' B X E := ⟨(hb.block _ (heap_lt h.q)).trans h.q, h.s9, h.e104⟩
theorem TrkQ.set {w : World} {B : Nat} {X : Trk} {E : List Nat} (h : TrkQ w B X E) {j : Nat} (v : Nat) (hj : j < 104) : TrkQ (w.setCell ⟨B, 13 + j, none⟩ (.int .u16 (v : Int))) B X (E.set j v) := by
  refine ⟨?_, h.s9, by rw [List.length_set]; exact h.e104⟩
  rw [heap_set w B (13 + j) _ _ _ h.q (by
    show 13 + j < (trkL (X.wen E)).toArray.size
    simp [trkL, Trk.wen, u16s, h.s9, h.e104]; omega)]
  simp only [Array.set!_eq_setIfInBounds]
  rw [trkL_set h.s9, List.setIfInBounds_toArray]
theorem TrkQ.en {w : World} {B : Nat} {X : Trk} {E : List Nat} (h : TrkQ w B X E) {j : Nat} (hj : j < 104) : w.cell? ⟨B, 13 + j, none⟩ = some (.int .u16 ((E.getD j 0 : Nat) : Int)) :=
  (blk_cell (w := w) (i := 13 + j) (u := .int .u16 ((E.getD j 0 : Nat) : Int)) h.q (by rw [List.getElem?_toArray]; exact trk_en (X := X.wen E) h.s9 h.e104 hj)).1
theorem TrkQ.fz {w : World} {B : Nat} {X : Trk} {E : List Nat} (h : TrkQ w B X E) {j : Nat} (hj : j < 104) : w.frozen? ⟨B, 13 + j, none⟩ = false :=
  (blk_cell (w := w) (i := 13 + j) (u := .int .u16 ((E.getD j 0 : Nat) : Int)) h.q (by rw [List.getElem?_toArray]; exact trk_en (X := X.wen E) h.s9 h.e104 hj)).2
theorem TrkQ.pr {w : World} {B : Nat} {X : Trk} {E : List Nat} (h : TrkQ w B X E) : w.cell? ⟨B, 0, none⟩ = some (.slice X.ap X.ls.length X.cp) := (blk_cell (i := 0) (u := .slice X.ap X.ls.length X.cp) h.q rfl).1
end Go.Proofs.YtejjdfmobiegdaaDoor

set_option linter.unusedVariables false
namespace Go.Proofs.YtejjdfmobiegdaaDoor
open Go.RowKit

end Go.Proofs.YtejjdfmobiegdaaDoor

set_option linter.unusedVariables false
namespace Go.Proofs.YtejjdfmobiegdaaDoor
open Go.RowKit

/-- But for one block all is as it was. -/
structure KeptB (B : Nat) (w w' : World) : Prop where
  size : w.heap.size ≤ w'.heap.size
  block : ∀ k, k < w.heap.size → k ≠ B → w'.heap[k]? = w.heap[k]?
theorem KeptB.refl (B : Nat) (w : World) : KeptB B w w := ⟨Nat.le_refl _, fun _ _ _ => rfl⟩
theorem KeptB.trans {B : Nat} {a b c : World} (h : KeptB B a b) (k : KeptB B b c) : KeptB B a c := ⟨Nat.le_trans h.size k.size, fun i hi hB => (k.block i (Nat.lt_of_lt_of_le hi h.size) hB).trans (h.block i hi hB)⟩
theorem KeptB.alloc {B : Nat} {a w : World} (h : KeptB B a w) (o : Obj) : KeptB B a (w.alloc o) := h.trans ⟨by simp, fun k hk _ => Below.heap_alloc _ _ _ hk⟩
theorem KeptB.setCell {B : Nat} {a w : World} (h : KeptB B a w) {p : Addr} (hp : p.block = B) (u : Value) : KeptB B a (w.setCell p u) := h.trans ⟨by simp [World.setCell], fun k hk hB => Below.heap_setCell _ _ _ _ (by rw [hp]; exact hB)⟩
theorem KeptB.drew {B : Nat} {a w : World} (h : KeptB B a w) : KeptB B a w.drew := ⟨h.size, h.block⟩
theorem KeptB.drewN {B : Nat} {a w : World} (h : KeptB B a w) (n : Nat) : KeptB B a (w.drewN n) := ⟨h.size, h.block⟩

end Go.Proofs.YtejjdfmobiegdaaDoor

namespace Go.Proofs.YtejjdfmobiegdaaDoor.Fl
open Ieee

/-- The rung of infinity of a double. -/
def inf : Nat := 9218868437227405312
def bin : Nat := 4503599627370496
/-- The value of a rung in units of 2^-1074. -/
def V (r : Nat) : Nat := if r < bin then r else (bin + r % bin) * 2 ^ (r / bin - 1)

def up (r : Nat) : Nat := if r < bin then 0 else r / bin - 1
/-- Rounding of a number of units of 2^-1074. -/
def R (v : Nat) : Nat := double.nearest false v (-1074)
/-- A whole number as a float. -/
def ofNat (n : Nat) : Nat := double.nearest false n 0
/-- Is the word a cost's? -/
def right (b : Nat) : Bool := decide (b ≤ inf)

/-- The least so far: its place, itself (-1 and endless: none). -/
def pick (l : List Nat) : Int × Nat := (l.zipIdx).foldl (fun a x => if right x.1 && decide (x.1 < a.2) then ((x.2 : Int), x.1) else a) (-1, inf)
def far : Nat := 4816244402031689728
theorem getD_at (l : List Nat) (k : Nat) (hk : k < l.length) : l.getD k 0 = l[k] := by simp [List.getD, hk]
theorem take_snoc (l : List Nat) (k : Nat) (hk : k < l.length) : l.take (k + 1) = l.take k ++ [l.getD k 0] := by
  rw [List.take_succ_eq_append_getElem hk, getD_at _ _ hk]
end Go.Proofs.YtejjdfmobiegdaaDoor.Fl

set_option linter.unusedVariables false
namespace Go.Proofs.YtejjdfmobiegdaaDoor.Wd
open Doc

/-- A word of terminals comes of a row of symbols. -/
inductive Der (ps : List (Int × List Int)) : List Int → List Int → Prop where
  | nil : Der ps [] []
  | term (s : Int) (r w : List Int) : s < 100 → Der ps r w → Der ps (s :: r) (s :: w)
  | non (p : Int × List Int) (r v w : List Int) : p ∈ ps → 100 ≤ p.1 → Der ps p.2 v → Der ps r w → Der ps (p.1 :: r) (v ++ w)

variable {ps : List (Int × List Int)}
/-- What is known is right. -/
def Inv (ps : List (Int × List Int)) (L : Kn) : Prop := ∀ k w, known L k = some w → Der ps [100 + (k : Int)] w ∧ ∀ v, Der ps [100 + (k : Int)] v → leI w v

/-- The least words: of each the least that comes, of one of which none comes none. -/
structure LeastIs (ps : List (Int × List Int)) (n : Nat) (L : Kn) : Prop where
  len : L.length = n
  inv : Inv ps L
  no : ∀ k, known L k = none → ∀ v, ¬ Der ps [100 + (k : Int)] v
theorem LeastIs.uniq {n : Nat} {L M : Kn} (h : LeastIs ps n L) (h' : LeastIs ps n M) : L = M := by
  apply List.ext_getElem?
  intro k
  by_cases hk : k < n
  · have e : known L k = known M k := by
      cases h1 : known L k with
      | none =>
        cases h2 : known M k with
        | none => rfl
        | some w => exact absurd (h'.inv k w h2).1 (h.no k h1 w)
      | some w =>
        cases h2 : known M k with
        | none => exact absurd (h.inv k w h1).1 (h'.no k h2 w)
        | some v => rw [antisymm ((h.inv k w h1).2 v (h'.inv k v h2).1) ((h'.inv k v h2).2 w (h.inv k w h1).1)]
    unfold known at e
    rw [List.getElem?_eq_getElem (by rw [h.len]; exact hk), List.getElem?_eq_getElem (by rw [h'.len]; exact hk)] at e ⊢
    exact congrArg some e
  · rw [List.getElem?_eq_none (by rw [h.len]; omega), List.getElem?_eq_none (by rw [h'.len]; omega)]

/-! ### What they cost -/
abbrev Co := List (Option Nat)
/-- How many are finite, and how great they are. -/
def fin (C : Co) : Nat := C.countP (·.isSome)
end Go.Proofs.YtejjdfmobiegdaaDoor.Wd

set_option linter.unusedVariables false
namespace Go.Proofs.YtejjdfmobiegdaaDoor
open Doc

/-- A step by a terminal. -/
def Stp (X : Trk) (p : Nat) (t : Int) (q : Nat) : Prop := (q = p + 1 ∧ (X.st.getD t.toNat 0).testBit p = true) ∨ (q = p ∧ X.stays.testBit p = true)
/-- A word leads from a place to a place. -/
inductive Wlk (X : Trk) : List Int → Nat → Nat → Prop where
  | nil (p : Nat) : Wlk X [] p p
  | cons {p m q : Nat} {t : Int} {v : List Int} : Stp X p t m → Wlk X v m q → Wlk X (t :: v) p q
theorem Wlk.split {X : Trk} : ∀ {v w : List Int} {p q : Nat}, Wlk X (v ++ w) p q → ∃ m, Wlk X v p m ∧ Wlk X w m q
  | [], w, p, q, h => ⟨p, .nil p, h⟩
  | t :: v, w, p, q, h => by
    cases h with
    | cons hs h =>
      obtain ⟨m, h1, h2⟩ := Wlk.split h
      exact ⟨m, .cons hs h1, h2⟩
theorem Wlk.app {X : Trk} : ∀ {v w : List Int} {p m q : Nat}, Wlk X v p m → Wlk X w m q → Wlk X (v ++ w) p q
  | [], _, _, _, _, h, k => by cases h; exact k
  | t :: v, w, p, m, q, h, k => by
    cases h with
    | cons hs h => exact .cons hs (Wlk.app h k)
/-- A symbol leads from a place to a place, as the track's ends say. -/
def Sy (X : Trk) (s : Int) (p q : Nat) : Prop := (s < 100 ∧ Stp X p s q) ∨ (¬ s < 100 ∧ (X.en.getD ((s - 100).toNat * 13 + p) 0).testBit q = true)
def Pth (X : Trk) : List Int → Nat → Nat → Prop
  | [], p, q => p = q
  | s :: r, p, q => ∃ m, Sy X s p m ∧ Pth X r m q
theorem dbl_bit (x q : Nat) : (x * 2).testBit q = (decide (1 ≤ q) && x.testBit (q - 1)) := by
  rw [show x * 2 = 2 ^ 1 * x by omega, Nat.testBit_two_pow_mul]
theorem symT_bit {X : Trk} {l : Nat} (hl : l < 8192) (s : Int) (q : Nat) : (symT X l s).testBit q = true ↔ ∃ p, l.testBit p = true ∧ Sy X s p q := by
  unfold symT Sy Stp
  by_cases hs : s < 100
  · rw [if_pos hs, Nat.testBit_or, dbl_bit, Nat.testBit_and, Nat.testBit_and, Bool.or_eq_true, Bool.and_eq_true, Bool.and_eq_true, Bool.and_eq_true, decide_eq_true_eq]
    constructor
    · rintro (⟨h1, h2, h3⟩ | ⟨h1, h2⟩)
      · exact ⟨q - 1, h2, .inl ⟨hs, .inl ⟨by omega, h3⟩⟩⟩
      · exact ⟨q, h1, .inl ⟨hs, .inr ⟨rfl, h2⟩⟩⟩
    · rintro ⟨p, hp, ⟨_, (⟨rfl, h⟩ | ⟨rfl, h⟩)⟩ | ⟨hn, _⟩⟩
      · left; exact ⟨by omega, by rw [Nat.add_sub_cancel]; exact hp, by rw [Nat.add_sub_cancel]; exact h⟩
      · right; exact ⟨hp, h⟩
      · exact absurd hs hn
  · rw [if_neg hs, onT_bit]
    constructor
    · rintro ⟨p, _, h1, h2⟩; exact ⟨p, h1, .inr ⟨hs, h2⟩⟩
    · rintro ⟨p, hp, ⟨h, _⟩ | ⟨_, h⟩⟩
      · exact absurd h hs
      · exact ⟨p, bit_lt (n := 13) hl hp, hp, h⟩
theorem fold_bit {X : Trk} (hk : TrkOk X) : ∀ (r : List Int) (l : Nat), l < 8192 → ∀ q, (r.foldl (symT X) l).testBit q = true ↔ ∃ p, l.testBit p = true ∧ Pth X r p q
  | [], l, hl, q => by
    constructor
    · intro h; exact ⟨q, h, rfl⟩
    · rintro ⟨p, hp, rfl⟩; exact hp
  | s :: r, l, hl, q => by
    rw [List.foldl_cons, fold_bit hk r _ (symT_lt hk l hl s)]
    constructor
    · rintro ⟨m, h1, h2⟩
      obtain ⟨p, hp, hs⟩ := (symT_bit hl s m).1 h1
      exact ⟨p, hp, m, hs, h2⟩
    · rintro ⟨p, hp, m, hs, h2⟩
      exact ⟨m, (symT_bit hl s m).2 ⟨p, hp, hs⟩, h2⟩
theorem rowT_bit {X : Trk} (hk : TrkOk X) (r : List Int) {at_ : Nat} (ha : at_ < 13) (q : Nat) : (rowT X r at_).testBit q = true ↔ Pth X r at_ q := by
  unfold rowT
  rw [fold_bit hk r _ (show 2 ^ at_ < 2 ^ 13 from Nat.pow_lt_pow_right (by omega) ha)]
  constructor
  · rintro ⟨p, hp, h⟩
    rw [Nat.testBit_two_pow] at hp
    have := of_decide_eq_true hp
    subst this; exact h
  · intro h; exact ⟨at_, by rw [Nat.testBit_two_pow]; simp, h⟩

/-- All productions' words are told, at the places up to the last. -/
def ClosedT (X : Trk) (E : List Nat) : Prop := ∀ at_, at_ ≤ X.last → ∀ p ∈ X.ls, Sub (rowT (X.wen E) p.right at_) (E.getD ((p.left - 100).toNat * 13 + at_) 0)
/-- No step leads behind the last place. -/
def StepsIn (X : Trk) : Prop := ∀ p t q, p ≤ X.last → Stp X p t q → q ≤ X.last
theorem Wlk.le {X : Trk} (hs : StepsIn X) : ∀ {v : List Int} {p q : Nat}, Wlk X v p q → p ≤ X.last → q ≤ X.last
  | _, _, _, .nil _, h => h
  | _, _, _, .cons hst hw, h => Wlk.le hs hw (hs _ _ _ h hst)
theorem pth_of {X : Trk} {E : List Nat} (hk : TrkOk (X.wen E)) (hc : ClosedT X E) (hs : StepsIn X) (h13 : X.last < 13) {r v : List Int} (h : Wd.Der (X.ls.map Lay.plain) r v) : ∀ {p q : Nat}, p ≤ X.last → Wlk X v p q → Pth (X.wen E) r p q := by
  induction h with
  | nil => intro p q _ hw; cases hw; rfl
  | term s r w h100 _ ih =>
    intro p q hp hw
    cases hw with
    | cons hst hw => exact ⟨_, .inl ⟨h100, hst⟩, ih (hs _ _ _ hp hst) hw⟩
  | non pr r v w hpr h100 _ _ ih1 ih2 =>
    intro p q hp hw
    obtain ⟨m, h1, h2⟩ := hw.split
    obtain ⟨l, hl, rfl⟩ := List.mem_map.1 hpr
    have hpth := ih1 hp h1
    have hb := hc p hp l hl m ((rowT_bit hk l.right (by omega) m).2 hpth)
    exact ⟨m, .inr ⟨by show ¬ l.left < 100; have : (100 : Int) ≤ l.left := h100; omega, hb⟩, ih2 (h1.le hs hp) h2⟩
/-- Where words lead is told. -/
theorem leads_of {X : Trk} {E : List Nat} (hk : TrkOk (X.wen E)) (hc : ClosedT X E) (hs : StepsIn X) (h13 : X.last < 13) {v : List Int} (h : Wd.Der (X.ls.map Lay.plain) [100] v) (hw : Wlk X v 0 X.last) : (E.getD 0 0).testBit X.last = true := by
  obtain ⟨m, hsy, rfl⟩ := pth_of hk hc hs h13 h (Nat.zero_le _) hw
  rcases hsy with ⟨h1, _⟩ | ⟨_, h2⟩
  · omega
  · exact h2
end Go.Proofs.YtejjdfmobiegdaaDoor

set_option linter.unusedVariables false
namespace Go.Proofs.YtejjdfmobiegdaaDoor
open Doc

/-- No end lies ahead of its place. -/
def Asc (E : List Nat) : Prop := ∀ A p q, p < 13 → (E.getD (A * 13 + p) 0).testBit q = true → p ≤ q
theorem Stp.asc {X : Trk} {p q : Nat} {t : Int} (h : Stp X p t q) : p ≤ q := by
  rcases h with ⟨rfl, _⟩ | ⟨rfl, _⟩ <;> omega
theorem Sy.asc {X : Trk} (h : Asc X.en) {s : Int} {p q : Nat} (hp : p < 13) (k : Sy X s p q) : p ≤ q := by
  rcases k with ⟨_, k⟩ | ⟨_, k⟩
  · exact k.asc
  · exact h _ _ _ hp k
theorem Sy.lt {X : Trk} (hk : TrkOk X) {s : Int} {p q : Nat} (hp : p < 13) (k : Sy X s p q) : q < 13 := by
  rcases k with ⟨_, ⟨rfl, k⟩ | ⟨rfl, k⟩⟩ | ⟨_, k⟩
  · have := bit_lt (n := 12) (getD_lt hk.st (by omega) _) k; omega
  · exact hp
  · exact bit_lt (n := 13) (getD_lt hk.en (by omega) _) k
/-- Two tables are one, from a place on. -/
def SameC (m : Nat) (E G : List Nat) : Prop := ∀ A p, m ≤ p → p < 13 → E.getD (A * 13 + p) 0 = G.getD (A * 13 + p) 0
theorem SameC.trans {m : Nat} {E G H : List Nat} (h : SameC m E G) (k : SameC m G H) : SameC m E H := fun A p h1 h2 => (h A p h1 h2).trans (k A p h1 h2)
theorem SameC.symm {m : Nat} {E G : List Nat} (h : SameC m E G) : SameC m G E := fun A p h1 h2 => (h A p h1 h2).symm
/-- One place's productions' words are told. -/
def ClosedC (X : Trk) (E : List Nat) (c : Nat) : Prop := ∀ p ∈ X.ls, Sub (rowT (X.wen E) p.right c) (E.getD ((p.left - 100).toNat * 13 + c) 0)
end Go.Proofs.YtejjdfmobiegdaaDoor

set_option linter.unusedVariables false
namespace Go.Proofs.YtejjdfmobiegdaaDoor.Al

def ext (t : Nat) (w : List Int) : List (List Int) := (List.range t).map fun i => w ++ [((i + 1 : Nat) : Int)]
def lev (t : Nat) : Nat → List (List Int)
  | 0 => [[]]
  | k + 1 => (lev t k).flatMap (ext t)
def levs (t : Nat) : Nat → List (List Int)
  | 0 => [[]]
  | k + 1 => levs t k ++ lev t (k + 1)
theorem lev_word {t : Nat} : ∀ {k : Nat} {w : List Int}, w ∈ lev t k ↔ w.length = k ∧ ∀ s ∈ w, 1 ≤ s ∧ s ≤ (t : Int)
  | 0, w => by
    simp only [lev, List.mem_singleton]
    constructor
    · rintro rfl; simp
    · rintro ⟨h, _⟩; exact List.length_eq_zero_iff.1 h
  | k + 1, w => by
    simp only [lev, List.mem_flatMap, ext, List.mem_map, List.mem_range]
    constructor
    · rintro ⟨v, hv, i, hi, rfl⟩
      obtain ⟨h1, h2⟩ := lev_word.1 hv
      refine ⟨by simp [h1], fun s hs => ?_⟩
      rcases List.mem_append.1 hs with hs | hs
      · exact h2 s hs
      · simp only [List.mem_singleton] at hs; subst hs; omega
    · rintro ⟨h1, h2⟩
      have hne : w ≠ [] := by intro e; rw [e] at h1; simp at h1
      refine ⟨w.dropLast, lev_word.2 ⟨by simp [h1], fun s hs => h2 s (List.dropLast_subset _ hs)⟩, (w.getLast hne - 1).toNat, ?_, ?_⟩
      · have := h2 _ (List.getLast_mem hne); omega
      · have := h2 _ (List.getLast_mem hne)
        have e : (((w.getLast hne - 1).toNat + 1 : Nat) : Int) = w.getLast hne := by omega
        rw [e]
        exact List.dropLast_concat_getLast hne
/-- How many there are ahead of a level. -/
def off (t : Nat) : Nat → Nat
  | 0 => 0
  | k + 1 => off t k + (lev t k).length
/-- The words that there are when all of the levels ahead, and m of this one, were made longer. -/
def made (t k m : Nat) : List (List Int) := levs t k ++ ((lev t k).take m).flatMap (ext t)
end Go.Proofs.YtejjdfmobiegdaaDoor.Al

set_option linter.unusedVariables false
namespace Go.Proofs.YtejjdfmobiegdaaDoor.Al
open Wd

/-- The words of a length that begin so. -/
def tl (t k : Nat) (b : List Int) : List (List Int) := (lev t k).map (b ++ ·)
theorem tl_mem {t k : Nat} {b v : List Int} : v ∈ tl t k b ↔ ∃ z, v = b ++ z ∧ z.length = k ∧ ∀ s ∈ z, 1 ≤ s ∧ s ≤ (t : Int) := by
  unfold tl
  rw [List.mem_map]
  constructor
  · rintro ⟨z, hz, rfl⟩
    exact ⟨z, rfl, lev_word.1 hz⟩
  · rintro ⟨z, rfl, hz⟩
    exact ⟨z, lev_word.2 hz, rfl⟩
/-- What is put behind a list, until there are so many. -/
def put (most : Nat) (l A : List (List Int)) : List (List Int) := l ++ A.take (most - l.length)
end Go.Proofs.YtejjdfmobiegdaaDoor.Al

set_option linter.unusedVariables false
namespace Go.Proofs.YtejjdfmobiegdaaDoor
open Doc

end Go.Proofs.YtejjdfmobiegdaaDoor

set_option linter.unusedVariables false
namespace Go.Proofs.YtejjdfmobiegdaaDoor
open Doc

end Go.Proofs.YtejjdfmobiegdaaDoor

set_option linter.unusedVariables false
namespace Go.Proofs.YtejjdfmobiegdaaDoor
open Doc

/-! ### What ends tell from a place on -/
/-- From this place on all ends that are told are led to by words. -/
def SoundG (X : Trk) (m : Nat) (E : List Nat) : Prop := ∀ A p q, m ≤ p → p < 13 → (E.getD (A * 13 + p) 0).testBit q = true → ∃ v, Wd.Der (X.ls.map Lay.plain) [100 + (A : Int)] v ∧ Wlk X v p q
/-- What a settled track is: closed, sound, and no end ahead of its place. -/
structure TrkFull (X : Trk) (E : List Nat) : Prop where
  len : E.length = 104
  lt : ∀ x ∈ E, x < 8192
  asc : Asc E
  closed : ∀ c, c ≤ X.last → ClosedC X E c
  sound : SoundG X 0 E
/-! ### Steps changed ahead of a place -/
/-- Two tracks are alike from a place on. -/
structure AlikeT (X Y : Trk) (m : Nat) : Prop where
  ls : X.ls = Y.ls
  last : X.last = Y.last
  step : ∀ p t q, m ≤ p → (Stp X p t q ↔ Stp Y p t q)
theorem AlikeT.symm {X Y : Trk} {m : Nat} (h : AlikeT X Y m) : AlikeT Y X m := ⟨h.ls.symm, h.last.symm, fun p t q hp => (h.step p t q hp).symm⟩
theorem AlikeT.wlk {X Y : Trk} {m : Nat} (h : AlikeT X Y m) {v : List Int} {p q : Nat} (k : Wlk X v p q) : m ≤ p → Wlk Y v p q := by
  induction k with
  | nil p => intro _; exact .nil p
  | cons hst _ ih => intro hm; exact .cons ((h.step _ _ _ hm).1 hst) (ih (Nat.le_trans hm hst.asc))
theorem AlikeT.sy {X Y : Trk} {m : Nat} (h : AlikeT X Y m) {E : List Nat} {s : Int} {p q : Nat} (hm : m ≤ p) (k : Sy (X.wen E) s p q) : Sy (Y.wen E) s p q := by
  rcases k with ⟨h1, h2⟩ | k
  · exact .inl ⟨h1, (h.step p s q hm).1 h2⟩
  · exact .inr k
theorem AlikeT.pth {X Y : Trk} {m : Nat} (h : AlikeT X Y m) {E : List Nat} (hk : TrkOk (X.wen E)) (ha : Asc E) : ∀ {r : List Int} {p q : Nat}, m ≤ p → p < 13 → Pth (X.wen E) r p q → Pth (Y.wen E) r p q
  | [], _, _, _, _, k => k
  | s :: r, p, q, hm, hp, ⟨x, h1, h2⟩ => ⟨x, h.sy hm h1, h.pth hk ha (Nat.le_trans hm (Sy.asc (X := X.wen E) ha hp h1)) (h1.lt hk hp) h2⟩
theorem AlikeT.closed {X Y : Trk} {m : Nat} (h : AlikeT X Y m) {E : List Nat} (hX : TrkOk (X.wen E)) (hY : TrkOk (Y.wen E)) (ha : Asc E) {c : Nat} (hm : m ≤ c) (hc : c < 13) (k : ClosedC X E c) : ClosedC Y E c := fun p hp q hq => by
  rw [← h.ls] at hp
  exact k p hp q ((rowT_bit hX _ hc q).2 (h.symm.pth hY ha hm hc ((rowT_bit hY _ hc q).1 hq)))
theorem AlikeT.sound {X Y : Trk} {m : Nat} (h : AlikeT X Y m) {E : List Nat} (k : SoundG X 0 E) : SoundG Y m E := fun A p q hm hp hb => by
  obtain ⟨v, h1, h2⟩ := k A p q (Nat.zero_le _) hp hb
  exact ⟨v, by rw [← h.ls]; exact h1, h.wlk h2 hm⟩

/-! ### The steps of all words of a length that begin so -/
structure StFix (X : Trk) (t n : Nat) (b : List Int) : Prop where
  s9 : X.st.length = 9
  bit : ∀ x p : Nat, (X.st.getD x 0).testBit p = true ↔ (1 ≤ x ∧ x ≤ t ∧ p < n ∧ ∀ s, b[p]? = some s → s = (x : Int))
  stays : X.stays = 0
  last : X.last = n
  terms : X.terms = t
theorem StFix.stp {X : Trk} {t n : Nat} {b : List Int} (h : StFix X t n b) (p : Nat) (s : Int) (q : Nat) : Stp X p s q ↔ (q = p + 1 ∧ p < n ∧ 1 ≤ s ∧ s ≤ (t : Int) ∧ ∀ c, b[p]? = some c → c = s) := by
  unfold Stp
  rw [h.stays, h.bit]
  constructor
  · rintro (⟨rfl, h1, h2, h3, h4⟩ | ⟨_, h1⟩)
    · refine ⟨rfl, h3, by omega, by omega, fun c hc => ?_⟩
      have := h4 c hc
      omega
    · simp at h1
  · rintro ⟨rfl, h1, h2, h3, h4⟩
    refine .inl ⟨rfl, by omega, by omega, h1, fun c hc => ?_⟩
    have := h4 c hc
    omega
theorem StFix.wlk {X : Trk} {t n : Nat} {b : List Int} (h : StFix X t n b) : ∀ {v : List Int} {p : Nat}, p ≤ n → (Wlk X v p n ↔ (p + v.length = n ∧ (∀ s ∈ v, 1 ≤ s ∧ s ≤ (t : Int)) ∧ ∀ j c s, b[p + j]? = some c → v[j]? = some s → c = s))
  | [], p, hp => by
    constructor
    · intro k; cases k; exact ⟨rfl, (fun s hs => by cases hs), fun j c s _ hs => by simp at hs⟩
    · rintro ⟨h1, _⟩
      obtain rfl : p = n := by simpa using h1
      exact .nil p
  | s :: v, p, hp => by
    constructor
    · intro k
      cases k with
      | cons hst k =>
        obtain ⟨rfl, h1, h2, h3, h4⟩ := (h.stp p s _).1 hst
        obtain ⟨k1, k2, k3⟩ := (h.wlk (by omega)).1 k
        refine ⟨by simp only [List.length_cons]; omega, fun x hx => ?_, fun j c x hc hx => ?_⟩
        · rcases List.mem_cons.1 hx with rfl | hx
          · exact ⟨h2, h3⟩
          · exact k2 x hx
        · cases j with
          | zero =>
            rw [List.getElem?_cons_zero] at hx
            cases hx
            exact h4 c hc
          | succ j =>
            rw [List.getElem?_cons_succ] at hx
            exact k3 j c x (by rw [← hc]; congr 1; omega) hx
    · rintro ⟨k1, k2, k3⟩
      simp only [List.length_cons] at k1
      refine .cons (m := p + 1) ((h.stp p s _).2 ⟨rfl, by omega, (k2 s List.mem_cons_self).1, (k2 s List.mem_cons_self).2, fun c hc => k3 0 c s (by simpa using hc) rfl⟩) ((h.wlk (by omega)).2 ⟨by omega, fun x hx => k2 x (List.mem_cons_of_mem _ hx), fun j c x hc hx => k3 (j + 1) c x (by rw [← hc]; congr 1; omega) (by rw [List.getElem?_cons_succ]; exact hx)⟩)
theorem StFix.words {X : Trk} {t n : Nat} {b v : List Int} (h : StFix X t n b) (hb : b.length ≤ n) (hbs : ∀ s ∈ b, 1 ≤ s ∧ s ≤ (t : Int)) : Wlk X v 0 n ↔ v ∈ Al.tl t (n - b.length) b := by
  rw [h.wlk (Nat.zero_le _), Al.tl_mem]
  constructor
  · rintro ⟨h1, h2, h3⟩
    have hv : v.take b.length = b := by
      apply List.ext_getElem?
      intro j
      rw [List.getElem?_take]
      by_cases hj : j < b.length
      · rw [if_pos hj]
        have e1 : v[j]? = some (v[j]'(by omega)) := List.getElem?_eq_getElem _
        have e2 : b[j]? = some b[j] := List.getElem?_eq_getElem _
        rw [e1, e2]
        exact congrArg some (h3 j _ _ (by rw [Nat.zero_add]; exact e2) e1).symm
      · rw [if_neg hj, List.getElem?_eq_none (by omega)]
    refine ⟨v.drop b.length, ?_, by rw [List.length_drop]; omega, fun s hs => h2 s (List.mem_of_mem_drop hs)⟩
    conv => lhs; rw [← List.take_append_drop b.length v, hv]
  · rintro ⟨z, rfl, h1, h2⟩
    refine ⟨by rw [List.length_append]; omega, fun s hs => ?_, fun j c s hc hs => ?_⟩
    · rcases List.mem_append.1 hs with hs | hs
      · exact hbs s hs
      · exact h2 s hs
    · rw [Nat.zero_add] at hc
      rw [List.getElem?_append_left (List.getElem?_eq_some_iff.1 hc).1, hc] at hs
      exact Option.some.inj hs
theorem StFix.ok {X : Trk} {t n : Nat} {b : List Int} (h : StFix X t n b) (hn : n ≤ 12) : ∀ x ∈ X.st, x < 4096 := fun x hx => by
  obtain ⟨j, hj⟩ := List.mem_iff_getElem?.1 hx
  refine bits_lt (n := 12) fun q hq => ?_
  have e : X.st.getD j 0 = x := by rw [List.getD_eq_getElem?_getD, hj]; rfl
  have := (h.bit j q).1 (by rw [e]; exact hq)
  omega
theorem StFix.alike {X Y : Trk} {t n : Nat} {b : List Int} {s : Int} (h : StFix X t n b) (k : StFix Y t n (b ++ [s])) (hl : X.ls = Y.ls) : AlikeT X Y (b.length + 1) :=
  ⟨hl, by rw [h.last, k.last], fun p x q hp => by
    rw [h.stp, k.stp]
    have e1 : b[p]? = none := List.getElem?_eq_none (by omega)
    have e2 : (b ++ [s])[p]? = none := List.getElem?_eq_none (by simp; omega)
    rw [e1, e2]⟩
/-- What a track is whose first steps are fixed. -/
structure TrkB (X : Trk) (E : List Nat) (t n : Nat) (b : List Int) : Prop where
  st : StFix X t n b
  full : TrkFull X E
theorem TrkB.ok {X : Trk} {E : List Nat} {t n : Nat} {b : List Int} (h : TrkB X E t n b) (hn : n ≤ 12) : TrkOk (X.wen E) := ⟨h.st.ok hn, by show X.stays < 8192; rw [h.st.stays]; omega, h.full.lt⟩
/-- It leads to the last place just if there is a word. -/
theorem TrkB.leads {X : Trk} {E : List Nat} {t n : Nat} {b : List Int} (h : TrkB X E t n b) (hn : n ≤ 12) (hb : b.length ≤ n) (hbs : ∀ s ∈ b, 1 ≤ s ∧ s ≤ (t : Int)) : (E.getD 0 0).testBit X.last = true ↔ ∃ v ∈ Al.tl t (n - b.length) b, Wd.Der (X.ls.map Lay.plain) [100] v := by
  have hin : StepsIn X := fun p s q hp hst => by
    have := (h.st.stp p s q).1 hst
    rw [h.st.last]; omega
  constructor
  · intro hbit
    obtain ⟨v, h1, h2⟩ := h.full.sound 0 0 X.last (Nat.le_refl _) (by omega) hbit
    rw [h.st.last] at h2
    exact ⟨v, (h.st.words hb hbs).1 h2, by simpa using h1⟩
  · rintro ⟨v, hv, hd⟩
    have hw := (h.st.words hb hbs).2 hv
    rw [← h.st.last] at hw
    exact leads_of (h.ok hn) (fun c hc => h.full.closed c hc) hin (by rw [h.st.last]; omega) hd hw
end Go.Proofs.YtejjdfmobiegdaaDoor

set_option linter.unusedVariables false
namespace Go.Proofs.YtejjdfmobiegdaaDoor
open Go.RowKit
open Doc

def slV (p : WL) : Value := .slice p.addr p.word.length p.cap
/-- Rows of words, as they are handed out. -/
structure OutAt (w : World) (b : Nat) (ls : List WL) : Prop where
  q : w.heap[b]? = some (.cells (ls.map slV).toArray 25)
  r : ∀ p ∈ ls, Cells w p.addr (nums p.word)
  z : ∀ p ∈ ls, p.known = false → p.word = []
theorem OutAt.below {w w' : World} {b : Nat} {ls : List WL} (h : OutAt w b ls) (hb : Below w.heap.size w w') : OutAt w' b ls :=
  ⟨(hb.block b (heap_lt h.q)).trans h.q, fun p hp => (h.r p hp).below hb, h.z⟩
end Go.Proofs.YtejjdfmobiegdaaDoor

set_option linter.unusedVariables false
namespace Go.Proofs.YtejjdfmobiegdaaDoor
open Go.RowKit
open Doc

/-- Rows of numbers as they lie in a slice that grows. -/
structure AllAt (w : World) (base g cap : Nat) (rs : List RowL) : Prop where
  own : w.ownsRow base 25 1 (.slice (some ⟨g, 0, none⟩) rs.length cap) rs.length (rowVs rs)
  rows : ∀ r ∈ rs, Cells w r.addr (nums r.row)
  apart : ∀ r ∈ rs, ∀ a, r.addr = some a → a.block ≠ g ∧ a.block < w.heap.size
theorem AllAt.lt {w : World} {base g cap : Nat} {rs : List RowL} (h : AllAt w base g cap rs) : g < w.heap.size := (h.own.lt g rfl).2
theorem AllAt.below {w w' : World} {base g cap : Nat} {rs : List RowL} (h : AllAt w base g cap rs) (hb : Below w.heap.size w w') : AllAt w' base g cap rs :=
  ⟨own_same h.own fun k _ hk => hb.block k hk, fun r hr => (h.rows r hr).below hb, fun r hr a ha => ⟨(h.apart r hr a ha).1, Nat.lt_of_lt_of_le (h.apart r hr a ha).2 hb.size⟩⟩
theorem cells_grown {w w' : World} {a : Option Addr} {xs : List Value} {o : Option Nat} (h : Cells w a xs) (hg : w.grownBy w' o) (hn : ∀ x, a = some x → some x.block ≠ o) : Cells w' a xs := by
  rcases h with h | ⟨b, off, e, hl, hc⟩
  · exact .inl h
  · exact .inr ⟨b, off, e, Nat.lt_of_lt_of_le hl hg.size, fun j v hj => (World.cell?_of_block (hg.block b hl (hn _ e))).trans (hc j v hj)⟩
theorem AllAt.push {w w1 w2 : World} {base g cap : Nat} {rs : List RowL} (h : AllAt w base g cap rs) (h1 : Below w.heap.size w w1) {r : RowL} (hc : Cells w1 r.addr (nums r.row)) (ha : ∀ a, r.addr = some a → w.heap.size ≤ a.block ∧ a.block < w1.heap.size)
    {g' cap' : Nat} (ho : w2.ownsRow base 25 1 (.slice (some ⟨g', 0, none⟩) (rs.length + 1) cap') (rs.length + 1) (rowVs rs ++ [.slice r.addr r.row.length r.cap])) (hg : w1.grownBy w2 (some g)) (hl : some g = some g' ∨ g' = w1.heap.size) : AllAt w2 base g' cap' (rs ++ [r]) := by
  have hgl := h.lt
  have hgg : g' = g ∨ g' = w1.heap.size := by
    rcases hl with e | e
    · cases e; exact .inl rfl
    · exact .inr e
  have h1s := h1.size
  refine ⟨?_, fun q hq => ?_, fun q hq a hqa => ?_⟩
  · rw [show rowVs (rs ++ [r]) = rowVs rs ++ [.slice r.addr r.row.length r.cap] by simp [rowVs], List.length_append, List.length_singleton]
    exact ho
  · rcases List.mem_append.1 hq with hq | hq
    · refine cells_grown ((h.rows q hq).below h1) hg fun x hx => ?_
      have := (h.apart q hq x hx).1
      simpa using this
    · obtain rfl := List.mem_singleton.1 hq
      refine cells_grown hc hg fun x hx => ?_
      have := (ha x hx).1
      simp; omega
  · have hs2 := hg.size
    rcases List.mem_append.1 hq with hq | hq
    · have := h.apart q hq a hqa
      omega
    · obtain rfl := List.mem_singleton.1 hq
      have := ha a hqa
      omega
end Go.Proofs.YtejjdfmobiegdaaDoor

set_option linter.unusedVariables false
set_option linter.unusedSimpArgs false
namespace Go.Proofs.YtejjdfmobiegdaaDoor
open Go.RowKit
open Doc

end Go.Proofs.YtejjdfmobiegdaaDoor

set_option linter.unusedVariables false
namespace Go.Proofs.YtejjdfmobiegdaaDoor
open Go.RowKit
open Doc

/-- Rows of numbers as they lie in a slice that may be nil, and grows. -/
structure RowsG (w : World) (base : Nat) (a : Option Addr) (cap : Nat) (rs : List RowL) : Prop where
  own : w.ownsRow base 25 1 (.slice a rs.length cap) rs.length (rowVs rs)
  rows : ∀ r ∈ rs, Cells w r.addr (nums r.row)
  apart : ∀ r ∈ rs, ∀ x, r.addr = some x → (∀ y, a = some y → x.block ≠ y.block) ∧ base ≤ x.block ∧ x.block < w.heap.size
theorem RowsG.below {w w' : World} {base cap : Nat} {a : Option Addr} {rs : List RowL} (h : RowsG w base a cap rs) (hb : Below w.heap.size w w') : RowsG w' base a cap rs :=
  ⟨own_same h.own fun k _ hk => hb.block k hk, fun r hr => (h.rows r hr).below hb, fun r hr x hx => ⟨(h.apart r hr x hx).1, (h.apart r hr x hx).2.1, Nat.lt_of_lt_of_le (h.apart r hr x hx).2.2 hb.size⟩⟩
theorem RowsG.nil (w : World) (base : Nat) : RowsG w base none 0 [] := ⟨World.ownsRow_nil _ _ _ _, fun r hr => (by cases hr), fun r hr => (by cases hr)⟩
theorem ownBlock_eq {a : Option Addr} {n c x : Nat} (h : (Value.slice a n c).ownBlock = some x) : ∃ y, a = some y ∧ y.block = x := by
  cases a with
  | none => cases h
  | some y => cases h; exact ⟨y, rfl, rfl⟩
theorem RowsG.push {w w1 w2 : World} {base cap : Nat} {a : Option Addr} {rs : List RowL} (h : RowsG w base a cap rs) (hbs : base ≤ w.heap.size) (h1 : Below w.heap.size w w1) {r : RowL} (hc : Cells w1 r.addr (nums r.row)) (ha : ∀ x, r.addr = some x → w.heap.size ≤ x.block ∧ x.block < w1.heap.size)
    {g' cap' : Nat} (ho : w2.ownsRow base 25 1 (.slice (some ⟨g', 0, none⟩) (rs.length + 1) cap') (rs.length + 1) (rowVs rs ++ [.slice r.addr r.row.length r.cap])) (hg : w1.grownBy w2 (Value.slice a rs.length cap).ownBlock) (hl : (Value.slice a rs.length cap).ownBlock = some g' ∨ g' = w1.heap.size) : RowsG w2 base (some ⟨g', 0, none⟩) cap' (rs ++ [r]) := by
  have h1s := h1.size
  have hs2 := hg.size
  have hall : ∀ q ∈ rs, ∀ x, q.addr = some x → x.block ≠ g' ∧ some x.block ≠ (Value.slice a rs.length cap).ownBlock := fun q hq x hx => by
    have h3 := h.apart q hq x hx
    have hne : some x.block ≠ (Value.slice a rs.length cap).ownBlock := fun e => by
      obtain ⟨y, hy, hyb⟩ := ownBlock_eq e.symm
      exact h3.1 y hy hyb.symm
    refine ⟨fun e => ?_, hne⟩
    rcases hl with hl | hl
    · exact hne (by rw [hl, e])
    · omega
  refine ⟨?_, fun q hq => ?_, fun q hq x hx => ?_⟩
  · rw [show rowVs (rs ++ [r]) = rowVs rs ++ [.slice r.addr r.row.length r.cap] by simp [rowVs], List.length_append, List.length_singleton]
    exact ho
  · rcases List.mem_append.1 hq with hq | hq
    · exact cells_grown ((h.rows q hq).below h1) hg fun x hx => (hall q hq x hx).2
    · obtain rfl := List.mem_singleton.1 hq
      refine cells_grown hc hg fun x hx e => ?_
      have h3 := (ha x hx).1
      have := (h.own.lt x.block e.symm).2
      omega
  · rcases List.mem_append.1 hq with hq | hq
    · have h3 := h.apart q hq x hx
      refine ⟨fun y hy => ?_, h3.2.1, by omega⟩
      cases hy
      exact (hall q hq x hx).1
    · obtain rfl := List.mem_singleton.1 hq
      have h3 := ha x hx
      refine ⟨fun y hy => ?_, by omega, by omega⟩
      cases hy
      show x.block ≠ g'
      rcases hl with hl | hl
      · have := (h.own.lt g' hl).2; omega
      · omega

end Go.Proofs.YtejjdfmobiegdaaDoor

set_option linter.unusedVariables false
namespace Go.Proofs.YtejjdfmobiegdaaDoor
open Go.RowKit
open Doc

theorem rowVs_app (l m : List RowL) : rowVs (l ++ m) = rowVs l ++ rowVs m := by simp [rowVs]
/-- Rows that were made later, put behind. -/
theorem RowsG.app {w0 w1 w2 : World} {base cap ca : Nat} {a aa : Option Addr} {L A : List RowL} (h : RowsG w0 base a cap L) (hbs : base ≤ w0.heap.size) (h1 : Below w0.heap.size w0 w1) (hA : RowsG w1 w0.heap.size aa ca A) {g' cap' : Nat} (ho : w2.ownsRow base 25 1 (.slice (some ⟨g', 0, none⟩) (L.length + A.length) cap') (L.length + A.length) (rowVs L ++ rowVs A)) (hg : w1.grownBy w2 (Value.slice a L.length cap).ownBlock) (hl : (Value.slice a L.length cap).ownBlock = some g' ∨ g' = w1.heap.size) :
    RowsG w2 base (some ⟨g', 0, none⟩) cap' (L ++ A) ∧ Cells w2 aa (rowVs A) := by
  have h1s := h1.size
  have hs2 := hg.size
  have hown : ∀ x, (Value.slice a L.length cap).ownBlock = some x → x < w0.heap.size := fun x hx => (h.own.lt x hx).2
  have hnew : ∀ b, w0.heap.size ≤ b → some b ≠ (Value.slice a L.length cap).ownBlock := fun b hb e => by have := hown b e.symm; omega
  refine ⟨⟨?_, fun q hq => ?_, fun q hq x hx => ?_⟩, ?_⟩
  · rw [rowVs_app, List.length_append]; exact ho
  · rcases List.mem_append.1 hq with hq | hq
    · refine cells_grown ((h.rows q hq).below h1) hg fun x hx e => ?_
      obtain ⟨y, hy, hyb⟩ := ownBlock_eq e.symm
      exact (h.apart q hq x hx).1 y hy hyb.symm
    · exact cells_grown (hA.rows q hq) hg fun x hx => hnew _ (hA.apart q hq x hx).2.1
  · rcases List.mem_append.1 hq with hq | hq
    · have h3 := h.apart q hq x hx
      refine ⟨fun y hy => ?_, h3.2.1, by omega⟩
      cases hy
      rcases hl with hl | hl
      · obtain ⟨y, hy, hyb⟩ := ownBlock_eq hl
        have := h3.1 y hy
        show x.block ≠ g'
        omega
      · show x.block ≠ g'; omega
    · have h3 := hA.apart q hq x hx
      refine ⟨fun y hy => ?_, by omega, by omega⟩
      cases hy
      rcases hl with hl | hl
      · have := hown g' hl
        show x.block ≠ g'; omega
      · show x.block ≠ g'; omega
  · exact cells_grown (own_cells hA.own).1 hg fun x hx => hnew _ (hA.own.lt x.block (by rw [hx]; rfl)).1
end Go.Proofs.YtejjdfmobiegdaaDoor

set_option linter.unusedVariables false
namespace Go.Proofs.YtejjdfmobiegdaaDoor
open Go.RowKit
open Doc

end Go.Proofs.YtejjdfmobiegdaaDoor

set_option linter.unusedVariables false
namespace Go.Proofs.YtejjdfmobiegdaaDoor
open Go.RowKit
open Doc

end Go.Proofs.YtejjdfmobiegdaaDoor

set_option linter.unusedVariables false
namespace Go.Proofs.YtejjdfmobiegdaaDoor
open Go.RowKit
open Doc

set_option maxRecDepth 100000 in
set_option maxHeartbeats 2000000 in
theorem cloneI_any (a : Option Addr) (c : Nat) (l : List Int) (w : World) (hc : Cells w a (nums l)) (hl : l.length ≤ 1000000) (hn : a = none → l = []) :
    Calls Tryd.prog 74 #[.slice a l.length c] w fun e w' => ∃ (a' : Option Addr) (c' : Nat), e = .returned (.slice a' l.length c') ∧ w'.ownsRow w.heap.size 3 1 (.slice a' l.length c') l.length (nums l) ∧ Below w.heap.size w w' := by
  have HC := Lib.hid hc
  clear hc
  cases a with
  | none =>
    obtain rfl := hn rfl
    have hEQ : ∀ W, (binOp .eql 25 (.slice none 0 c) (.slice none 0 0)).run Tryd.prog W = .ok (.bool true) W := fun _ => rfl
    go_enter Tryd.func74, Tryd.ntmps74
    go_wp2
    go_ret
    exact ⟨none, 0, rfl, World.ownsRow_nil _ _ _ _, Below.refl _ _⟩
  | some x =>
    clear hn
    have hA : Below w.heap.size w (w.alloc (.cells #[] 3)) := (Below.refl _ _).alloc (Nat.le_refl _) _
    have HO := Lib.hid (World.ownsRow_made (e := 3) (size := 1) (base := w.heap.size) w #[] 0 (Nat.le_refl _) (by unfold maxLen; omega) (by simp))
    have HA := Lib.hid hA
    have HCA := Lib.hid (HC.out.below hA)
    clear hA
    have hEQ : ∀ W, (binOp .eql 25 (.slice (some x) l.length c) (.slice none 0 0)).run Tryd.prog W = .ok (.bool false) W := fun _ => rfl
    go_enter Tryd.func74, Tryd.ntmps74
    go_wp2_with (at_builtin; refine wpList_app rfl (.tmp 5) (.tmp 6) rfl w.heap.size (some ⟨w.heap.size, 0, none⟩) 0 0 [] rfl HO.out HA.out.size (some x) l c rfl HCA.out (by omega) ?_; intro va vc w4 ho4 hg4)
    go_ret
    have hB := HA.out.grown hg4 HA.out.size (fun k hk => by cases hk; exact Nat.le_refl _)
    simp only [Nat.zero_add, List.nil_append] at ho4 ⊢
    exact ⟨va, vc, rfl, ho4, hB⟩

/-- What lies while words are looked for: the words found, in a row of their own; the beginning, in its own. -/
structure WSt (base : Nat) (w0 w : World) (la : Option Addr) (lc : Nat) (R : List RowL) (ba : Option Addr) (bc : Nat) (b : List Int) : Prop where
  below : Below base w0 w
  rows : RowsG w base la lc R
  own : w.ownsRow base 3 1 (.slice ba b.length bc) b.length (nums b)
  apart : ∀ r ∈ R, ∀ x, r.addr = some x → ∀ y, ba = some y → x.block ≠ y.block
/-- From one world to a later one: the two rows alone are turned, the words that are new lie in new memory. -/
structure WTo (w w' : World) (la la' : Option Addr) (ba : Option Addr) (N : List RowL) : Prop where
  size : w.heap.size ≤ w'.heap.size
  keep : ∀ k, k < w.heap.size → (∀ y, la = some y → y.block ≠ k) → (∀ y, ba = some y → y.block ≠ k) → w'.heap[k]? = w.heap[k]?
  loc : ∀ x, la' = some x → (∃ y, la = some y ∧ y.block = x.block) ∨ w.heap.size ≤ x.block
  new : ∀ r ∈ N, ∀ x, r.addr = some x → w.heap.size ≤ x.block
theorem WTo.refl (w : World) (la ba : Option Addr) : WTo w w la la ba [] := ⟨Nat.le_refl _, fun _ _ _ _ => rfl, fun x hx => .inl ⟨x, hx, rfl⟩, fun r hr => by cases hr⟩
theorem WTo.trans {w w1 w2 : World} {la la1 la2 ba : Option Addr} {M N : List RowL} (h : WTo w w1 la la1 ba M) (k : WTo w1 w2 la1 la2 ba N) : WTo w w2 la la2 ba (M ++ N) := by
  refine ⟨Nat.le_trans h.size k.size, fun i hi h1 h2 => ?_, fun x hx => ?_, fun r hr x hx => ?_⟩
  · refine (k.keep i (Nat.lt_of_lt_of_le hi h.size) (fun y hy e => ?_) h2).trans (h.keep i hi h1 h2)
    rcases h.loc y hy with ⟨z, hz, hzy⟩ | hz
    · exact h1 z hz (hzy.trans e)
    · omega
  · rcases k.loc x hx with ⟨y, hy, hyx⟩ | hy
    · rcases h.loc y hy with ⟨z, hz, hzy⟩ | hz
      · exact .inl ⟨z, hz, hzy.trans hyx⟩
      · exact .inr (by omega)
    · exact .inr (Nat.le_trans h.size hy)
  · rcases List.mem_append.1 hr with hr | hr
    · exact h.new r hr x hx
    · exact Nat.le_trans h.size (k.new r hr x hx)
theorem WSt.base {base : Nat} {w0 w : World} {la ba : Option Addr} {lc bc : Nat} {R : List RowL} {b : List Int} (h : WSt base w0 w la lc R ba bc b) (h0 : w0.heap.size = base) : base ≤ w.heap.size := by have := h.below.size; omega
/-- A call that turns nothing of old. -/
theorem WSt.later {base : Nat} {w0 w w' : World} {la ba : Option Addr} {lc bc : Nat} {R : List RowL} {b : List Int} (h : WSt base w0 w la lc R ba bc b) (h0 : base ≤ w.heap.size) (hb : Below w.heap.size w w') : WSt base w0 w' la lc R ba bc b :=
  ⟨h.below.trans (hb.mono h0), h.rows.below hb, own_same h.own fun k _ hk => hb.block k hk, h.apart⟩
theorem WTo.later (w w' : World) (la ba : Option Addr) (hb : Below w.heap.size w w') : WTo w w' la la ba [] := ⟨hb.size, fun k hk _ _ => hb.block k hk, fun x hx => .inl ⟨x, hx, rfl⟩, fun r hr => by cases hr⟩
/-- The two rows lie in blocks of their own. -/
theorem WSt.two {base : Nat} {w0 w : World} {la ba : Option Addr} {lc bc : Nat} {R : List RowL} {b : List Int} (h : WSt base w0 w la lc R ba bc b) {x y : Addr} (hx : la = some x) (hy : ba = some y) : x.block ≠ y.block := by
  intro e
  obtain ⟨_, _, c1, h1⟩ := own_block h.rows.own (g := x.block) (by rw [hx]; rfl)
  obtain ⟨_, _, c2, h2⟩ := own_block h.own (g := y.block) (by rw [hy]; rfl)
  rw [e, h2] at h1
  injection h1 with h1
  injection h1 with _ h1 _
  exact absurd h1 (by decide)
/-- A beginning made longer by an append, in its own row or a new one. -/
theorem WSt.longer {base : Nat} {w0 w w1 : World} {la ba ca : Option Addr} {lc bc cc : Nat} {R : List RowL} {b : List Int} {s : Int} (h : WSt base w0 w la lc R ba bc b) (h0 : base ≤ w.heap.size) (ho : w1.ownsRow base 3 1 (.slice ca (b.length + 1) cc) (b.length + 1) (nums (b ++ [s]))) (hg : w.grownBy w1 (Value.slice ba b.length bc).ownBlock) (hl : (ca = ba ∧ cc = bc) ∨ ∃ g, ca = some ⟨g, 0, none⟩ ∧ w.heap.size ≤ g ∧ w.grownBy w1 none) :
    WSt base w0 w1 la lc R ca cc (b ++ [s]) := by
  have hlow : ∀ k, (Value.slice ba b.length bc).ownBlock = some k → base ≤ k := fun k hk => (own_block h.own hk).1
  have hra : ∀ r ∈ R, ∀ x, r.addr = some x → some x.block ≠ (Value.slice ba b.length bc).ownBlock := fun r hr x hx e => by
    obtain ⟨y, hy, hyx⟩ := ownBlock_eq e.symm
    exact h.apart r hr x hx y hy hyx.symm
  have hla : ∀ x, la = some x → some x.block ≠ (Value.slice ba b.length bc).ownBlock := fun x hx e => by
    obtain ⟨y, hy, hyx⟩ := ownBlock_eq e.symm
    exact h.two hx hy hyx.symm
  refine ⟨h.below.grown hg h0 hlow, ⟨own_same h.rows.own fun k hk hk2 => ?_, fun r hr => cells_grown (h.rows.rows r hr) hg fun x hx => hra r hr x hx, fun r hr x hx => ?_⟩, by rw [List.length_append]; exact ho, fun r hr x hx y hy => ?_⟩
  · obtain ⟨x, hx, rfl⟩ := ownBlock_eq hk
    exact hg.block _ hk2 (hla x hx)
  · have h3 := h.rows.apart r hr x hx
    exact ⟨h3.1, h3.2.1, Nat.lt_of_lt_of_le h3.2.2 hg.size⟩
  · have h3 := h.rows.apart r hr x hx
    rcases hl with ⟨rfl, _⟩ | ⟨g, rfl, hg2, _⟩
    · exact h.apart r hr x hx y hy
    · cases hy
      show x.block ≠ g
      omega
end Go.Proofs.YtejjdfmobiegdaaDoor
