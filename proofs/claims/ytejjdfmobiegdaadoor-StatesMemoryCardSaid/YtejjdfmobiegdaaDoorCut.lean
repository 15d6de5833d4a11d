/- What strings.Cut gives at a line's end, and strings.Clone: whatever the world. addLine and Tokens: over any world, any text up to a bound of this text's own: the tokens that the plain functions tell. What lists of tokens hold in memory; the document's example; two lists compared. The machine of the document's own answers, step by step, is the plain functions' answer. No program here. -/
import Derived.Test.YtejjdfmobiegdaaDoorLeafs
import Derived.Test.YtejjdfmobiegdaaDoorShelf
import Derived.Shelf.RegionOpenPlain
import Derived.Deep.AppendLies
import Derived.Laws.OwnMore
import Derived.Deep.QuietTactic
import Derived.BigQuiet
namespace Go.Proofs.YtejjdfmobiegdaaDoor
open Go.RowKit
open Doc

theorem byte_ten : ∀ l : List UInt8, (Lib.indexByte l 10 = -1 ∧ head l = l ∧ rest l = []) ∨ (∃ i : Nat, Lib.indexByte l 10 = i ∧ i < l.length ∧ head l = l.take i ∧ rest l = l.drop (i + 1))
  | [] => .inl ⟨rfl, rfl, rfl⟩
  | b :: l => by
    by_cases hb : b = 10
    · subst hb
      exact .inr ⟨0, rfl, by simp, by simp [head], by simp [rest]⟩
    · have hh : head (b :: l) = b :: head l := by simp [head, hb]
      have hr : rest (b :: l) = rest l := by simp [rest, hb]
      have hq : (b == 10) = false := by simpa using hb
      rcases byte_ten l with ⟨h1, h2, h3⟩ | ⟨i, h1, hi, h2, h3⟩
      · left
        refine ⟨?_, by rw [hh, h2], by rw [hr, h3]⟩
        unfold Lib.indexByte
        rw [hq, h1]; rfl
      · right
        refine ⟨i + 1, ?_, by simpa using hi, by rw [hh, h2]; rfl, by rw [hr, h3]; rfl⟩
        unfold Lib.indexByte
        rw [hq, h1]
        have : ((i : Int) == -1) = false := by rw [beq_eq_false_iff_ne]; omega
        simp [this]

theorem ext_take (s : ByteArray) (n : Nat) (l : List UInt8) (h : l = s.data.toList.take n) : (⟨l.toArray⟩ : ByteArray) = s.extract 0 n := by
  subst h; rw [Lib.extract_eq]; simp
theorem ext_drop (s : ByteArray) (n : Nat) (l : List UInt8) (h : l = s.data.toList.drop n) : (⟨l.toArray⟩ : ByteArray) = s.extract n s.size := by
  subst h; rw [Lib.extract_eq, List.take_of_length_le (by rw [List.length_drop, ← Lib.size_eq]; exact Nat.le_refl _)]

end Go.Proofs.YtejjdfmobiegdaaDoor

namespace Go.Proofs.YtejjdfmobiegdaaDoor
open Go.RowKit
open Doc

/-- A token's cells. -/
def tcells (t : Tok) : List Value := [.int .i64 t.kind, .string ⟨t.text.toArray⟩, .int .i64 t.line, .int .i64 t.col]
def tall (l : List Tok) : List Value := l.flatMap tcells

theorem tall_nil : tall [] = [] := rfl
theorem tall_cons (t : Tok) (l : List Tok) : tall (t :: l) = tcells t ++ tall l := rfl
theorem tall_append (a b : List Tok) : tall (a ++ b) = tall a ++ tall b := by simp [tall]
theorem tall_length (l : List Tok) : (tall l).length = l.length * 4 := by
  induction l with
  | nil => rfl
  | cons t l ih => rw [tall_cons, List.length_append, ih]; simp [tcells]; omega

theorem own_below {w w' : World} {B e size n : Nat} {v : Value} {xs : List Value} (h : w.ownsRow B e size v n xs) (hb : Below w.heap.size w w') : w'.ownsRow B e size v n xs := by
  refine ⟨h.1, ?_⟩
  rcases h.2 with h0 | ⟨g, cap, cur, hv, hB, hg, rest⟩
  · exact .inl h0
  · refine .inr ⟨g, cap, cur, hv, hB, ?_, rest⟩
    have hlt : g < w.heap.size := by
      rcases Nat.lt_or_ge g w.heap.size with h | h
      · exact h
      · rw [Array.getElem?_eq_none h] at hg; cases hg
    rw [hb.block g hlt, hg]

/-- v is the list l of tokens, in memory that stands at B or behind it. -/
def Owns (B : Nat) (w : World) (e : TypeId) (v : Value) (l : List Tok) : Prop := w.ownsRow B e 4 v l.length (tall l)

theorem Owns.nil (B : Nat) (w : World) (e : TypeId) : Owns B w e (.slice none 0 0) [] := World.ownsRow_nil w B e 4

theorem own_grows {B : Nat} {w w' : World} {e : TypeId} {v : Value} {n : Nat} {xs : List Value} {a : World} (h : w.ownsRow B e 4 v n xs) (hb : Below B a w) (hB : B ≤ w.heap.size) (hg : w.grownBy w' v.ownBlock) : Below B a w' :=
  hb.grown hg hB fun k hk => (h.lt k hk).1

theorem owns_snoc {B : Nat} {w : World} {e : TypeId} {v : Value} {a b : List Tok} {n : Nat} {cs : List Value} (t : Tok) (h : w.ownsRow B e 4 v n (tall (a ++ b) ++ cs)) (hn : n = (a ++ b).length + 1) (hc : cs = tcells t) : Owns B w e v (a ++ (b ++ [t])) := by
  unfold Owns
  subst hn hc
  rw [← List.append_assoc, tall_append (a ++ b), List.length_append]
  exact h

theorem kint0 : kint 0 = 0 := rfl
theorem kint9 : kint 9 = -1 := rfl

theorem ext_at (s : ByteArray) (k : Nat) : (s.extract k s.size).data.toList = s.data.toList.drop k := by
  rw [Lib.extract_eq]
  show List.take _ _ = _
  rw [List.take_of_length_le (by rw [List.length_drop, ← Lib.size_eq]; exact Nat.le_refl _)]
theorem ext_mid (s : ByteArray) (k n : Nat) : s.extract k (k + n) = ⟨((s.data.toList.drop k).take n).toArray⟩ := by
  rw [Lib.extract_eq, Nat.add_sub_cancel_left]

theorem lin_len : ∀ (n : Nat) (l : List UInt8) (line col : Nat), l.length ≤ n → (lin l line col).1.length ≤ l.length
  | _, [], _, _, _ => by simp [lin_nil]
  | 0, c :: l, _, _, h => by simp at h
  | n + 1, c :: l, line, col, h => by
    rw [lin_cons]
    split
    · simp
    · rename_i h0
      have hp := piece_pos c l h0
      have hd : ((c :: l).drop (piece c l).2).length + 1 ≤ (c :: l).length := by rw [List.length_drop]; simp only [List.length_cons]; omega
      have ih := lin_len n ((c :: l).drop (piece c l).2) line (col + (piece c l).2) (by simp only [List.length_cons] at h hd; omega)
      split
      · omega
      · simp only [List.length_cons] at hd ih ⊢; omega

theorem kint_else {k : Nat} (h : k ≠ 9) : kint k = k := by unfold kint; rw [if_neg h]

theorem below_draws' {B : Nat} {a w : World} (h : Below B a w) (n : Nat) : Below B a (w.drewN n) := ⟨h.os, h.tape, h.output, h.size, h.block⟩

theorem line_len (c : UInt8) (l : List UInt8) : (head (c :: l)).length + 1 + 2 * (rest (c :: l)).length ≤ 2 * (l.length + 1) ∧ (rest (c :: l)).length ≤ l.length ∧ (head (c :: l)).length ≤ l.length + 1 := by
  rcases byte_ten (c :: l) with ⟨_, h2, h3⟩ | ⟨i, _, hi, h2, h3⟩
  · rw [h2, h3]; simp only [List.length_cons, List.length_nil]; omega
  · rw [h2, h3, List.length_take, List.length_drop]
    simp only [List.length_cons] at hi ⊢
    omega

theorem results_tmp4 {fn : Func} {t u v x : Tmp} (h : fn.results = #[.tmp t, .tmp u, .tmp v, .tmp x]) (tmps : Array Value) (P : Program) (w : World) :
    (results fn tmps).run P w = .ok (.tuple #[tmps.getD t undef, tmps.getD u undef, tmps.getD v undef, tmps.getD x undef]) w := by
  simp [results, h]

def strLen : Value → Nat
  | .string s => s.size
  | _ => 0

end Go.Proofs.YtejjdfmobiegdaaDoor

namespace Go.Proofs.YtejjdfmobiegdaaDoor
open Go.RowKit
open Doc

/-- Block g holds the tokens l. -/
def Toks (w : World) (g : Nat) (l : List Tok) : Prop := ∀ j t, l[j]? = some t →
  w.cell? ⟨g, j * 4, none⟩ = some (.int .i64 t.kind) ∧ w.cell? ⟨g, j * 4 + 1, none⟩ = some (.string ⟨t.text.toArray⟩) ∧
  w.cell? ⟨g, j * 4 + 2, none⟩ = some (.int .i64 t.line) ∧ w.cell? ⟨g, j * 4 + 3, none⟩ = some (.int .i64 t.col)

theorem tall_at : ∀ (l : List Tok) (j : Nat) (t : Tok), l[j]? = some t →
    (tall l)[j * 4]? = some (.int .i64 t.kind) ∧ (tall l)[j * 4 + 1]? = some (.string ⟨t.text.toArray⟩) ∧ (tall l)[j * 4 + 2]? = some (.int .i64 t.line) ∧ (tall l)[j * 4 + 3]? = some (.int .i64 t.col)
  | [], j, t, h => by simp at h
  | u :: l, 0, t, h => by
    simp at h; subst h
    simp [tall_cons, tcells]
  | u :: l, j + 1, t, h => by
    have ih := tall_at l j t (by simpa using h)
    have e : ∀ i, (tall (u :: l))[(j + 1) * 4 + i]? = (tall l)[j * 4 + i]? := fun i => by
      rw [tall_cons, show (j + 1) * 4 + i = (tcells u).length + (j * 4 + i) by simp [tcells]; omega, List.getElem?_append_right (by omega)]
      congr 1; omega
    exact ⟨(e 0).trans ih.1, (e 1).trans ih.2.1, (e 2).trans ih.2.2.1, (e 3).trans ih.2.2.2⟩

theorem Owns.toks {B : Nat} {w : World} {e : TypeId} {v : Value} {l : List Tok} (h : Owns B w e v l) (hl : 0 < l.length) :
    ∃ g cap, v = .slice (some ⟨g, 0, none⟩) l.length cap ∧ l.length ≤ cap ∧ B ≤ g ∧ g < w.heap.size ∧ Toks w g l := by
  unfold Owns at h
  obtain ⟨g, cap, hv, hB, hg⟩ := h.form hl
  subst hv
  have hcap : l.length ≤ cap := by
    rcases h.2 with ⟨_, h0⟩ | ⟨g', cap', cur, hv, _, _, hc, _⟩
    · omega
    · simp only [Value.slice.injEq] at hv; omega
  refine ⟨g, cap, rfl, hcap, hB, hg, fun j t hj => ?_⟩
  have hlt : j < l.length := (List.getElem?_eq_some_iff.1 hj).1
  have ta := tall_at l j t hj
  exact ⟨(h.cellAt _ (by omega)).trans ta.1, (h.cellAt _ (by omega)).trans ta.2.1, (h.cellAt _ (by omega)).trans ta.2.2.1, (h.cellAt _ (by omega)).trans ta.2.2.2⟩

theorem Toks.below {w w' : World} {g : Nat} {l : List Tok} {B : Nat} (h : Toks w g l) (hg : g < B) (hb : Below B w w') : Toks w' g l := fun j t hj => by
  obtain ⟨h1, h2, h3, h4⟩ := h j t hj
  exact ⟨(hb.cell (p := ⟨g, _, none⟩) hg).trans h1, (hb.cell (p := ⟨g, _, none⟩) hg).trans h2, (hb.cell (p := ⟨g, _, none⟩) hg).trans h3, (hb.cell (p := ⟨g, _, none⟩) hg).trans h4⟩

theorem toks_new (w : World) (e : TypeId) (l : List Tok) (cs : Array Value) (hc : cs = (tall l).toArray) : Toks (w.alloc (.cells cs e)) w.heap.size l := fun j t hj => by
  subst hc
  have ta := tall_at l j t hj
  have hn := World.news_of_block (w := w.alloc (.cells (tall l).toArray e)) (heap_alloc_new w (.cells (tall l).toArray e))
  have hadd : ∀ i, (⟨w.heap.size, 0, none⟩ : Addr).add i = ⟨w.heap.size, i, none⟩ := fun i => by unfold Addr.add; split <;> simp_all
  exact ⟨(hadd _) ▸ hn _ _ ta.1, (hadd _) ▸ hn _ _ ta.2.1, (hadd _) ▸ hn _ _ ta.2.2.1, (hadd _) ▸ hn _ _ ta.2.2.2⟩

end Go.Proofs.YtejjdfmobiegdaaDoor

namespace Go.Proofs.YtejjdfmobiegdaaDoor
open Doc

/-- A text as it is read: its last line ended. -/
def nl (t : List UInt8) : List UInt8 := if t = [] ∨ t.getLast? = some 10 then t else t ++ [10]

theorem nl_nil : nl [] = [] := by simp [nl]

theorem nl_cons (c : UInt8) (l : List UInt8) : nl (c :: l) = head (c :: l) ++ 10 :: nl (rest (c :: l)) := by
  rcases byte_ten (c :: l) with ⟨hix, h2, h3⟩ | ⟨i, hix, hi, h2, h3⟩
  · rw [h2, h3, nl_nil]
    have hno : (c :: l).getLast? ≠ some 10 := by
      intro h
      have hm : (10 : UInt8) ∈ c :: l := List.mem_of_getLast? h
      rw [← h2] at hm
      exact head_no _ _ hm rfl
    unfold nl
    rw [if_neg (by simp only [reduceCtorEq, false_or]; exact hno)]
  · have hc := (Lib.indexByte_some hix).1
    have hsp : c :: l = (c :: l).take i ++ 10 :: (c :: l).drop (i + 1) := by
      conv => lhs; rw [← List.take_append_drop i (c :: l)]
      congr 1
      obtain ⟨h, hh⟩ := List.getElem?_eq_some_iff.1 hc
      rw [List.drop_eq_getElem_cons h, hh]
    rw [h2, h3]
    generalize (c :: l).take i = a at hsp
    generalize (c :: l).drop (i + 1) = b at hsp
    rw [hsp]
    unfold nl
    have hl : (a ++ 10 :: b).getLast? = if b = [] then some 10 else b.getLast? := by
      rw [List.getLast?_append]
      cases b with
      | nil => simp
      | cons d b => simp [List.getLast?_cons]
    rw [hl]
    by_cases hb : b = []
    · subst hb; simp
    · by_cases h10 : b.getLast? = some 10
      · simp [hb, h10]
      · simp [hb, h10]

/-- What is told, once ts are, with the line's rest bs and the lines r still to come. -/
def after (ts : List Tok) (bs r : List UInt8) (line col : Nat) : List Tok × Nat × Nat :=
  if (lin bs line col).2 = 0 then (ts ++ ((lin bs line col).1 ++ ⟨5, [], line, col + bs.length⟩ :: (txt r (line + 1)).1), (txt r (line + 1)).2)
  else ([], line, (lin bs line col).2)

/-- The same answer: the same place; the same tokens where it is none. -/
def Told (x y : List Tok × Nat × Nat) : Prop := x.2 = y.2 ∧ (y.2 = (0, 0) → x.1 = y.1)

theorem Told.rfl' (x : List Tok × Nat × Nat) : Told x x := ⟨rfl, fun _ => rfl⟩
theorem Told.trans {x y z : List Tok × Nat × Nat} (h : Told x y) (k : Told y z) : Told x z :=
  ⟨h.1.trans k.1, fun h0 => (h.2 (k.1.trans h0)).trans (k.2 h0)⟩

theorem after_start (ts : List Tok) (c : UInt8) (l : List UInt8) (line : Nat) : Told (ts ++ (txt (c :: l) line).1, (txt (c :: l) line).2) (after ts (head (c :: l)) (rest (c :: l)) line 1) := by
  rw [txt_cons]
  unfold after
  by_cases h : (lin (head (c :: l)) line 1).2 = 0
  · rw [if_pos h, if_pos h]
    refine ⟨rfl, fun _ => ?_⟩
    simp [Nat.add_comm]
  · rw [if_neg h, if_neg h]
    refine ⟨rfl, fun h0 => ?_⟩
    simp at h0
    exact absurd h0.2 h

theorem after_wrong (ts : List Tok) (c : UInt8) (l r : List UInt8) (line col : Nat) (hc : col ≠ 0) (h : (piece c l).1 = 0) : after ts (c :: l) r line col = ([], line, col) := by
  unfold after
  rw [lin_cons, if_pos h, if_neg hc]

theorem after_pass (ts : List Tok) (c : UInt8) (l r : List UInt8) (line col n : Nat) (h : piece c l = (9, n)) : after ts (c :: l) r line col = after ts ((c :: l).drop n) r line (col + n) := by
  have hs := piece_size c l
  rw [h] at hs
  have he : col + (c :: l).length = col + n + ((c :: l).drop n).length := by rw [List.length_drop]; simp only [List.length_cons] at *; omega
  unfold after
  rw [lin_cons, h, he]
  rfl

theorem after_tok (ts : List Tok) (c : UInt8) (l r : List UInt8) (line col k n : Nat) (h : piece c l = (k, n)) (h0 : k ≠ 0) (h9 : k ≠ 9) :
    after ts (c :: l) r line col = after (ts ++ [⟨k, (c :: l).take n, line, col⟩]) ((c :: l).drop n) r line (col + n) := by
  have hs := piece_size c l
  rw [h] at hs
  have he : col + (c :: l).length = col + n + ((c :: l).drop n).length := by rw [List.length_drop]; simp only [List.length_cons] at *; omega
  unfold after
  rw [lin_cons, h, he]
  simp only [if_neg h0, if_neg h9]
  split
  · simp
  · rfl

theorem after_end (ts : List Tok) (r : List UInt8) (line col : Nat) : after ts [] r line col = ((ts ++ [⟨5, [], line, col⟩]) ++ (txt r (line + 1)).1, (txt r (line + 1)).2) := by
  unfold after
  rw [lin_nil]
  simp

/-- Where the machine stands: D is what it has not read. -/
def Stand (T : List UInt8) (ts : List Tok) (line col : Nat) (D : List UInt8) : Prop :=
  (D = [] ∧ Told (txt T 1) (ts, 0, 0)) ∨ ∃ bs r, D = bs ++ 10 :: nl r ∧ (∀ c ∈ bs, c ≠ 10) ∧ Told (txt T 1) (after ts bs r line col)

theorem stand_next (T : List UInt8) (ts : List Tok) (line : Nat) (r : List UInt8) (h : Told (txt T 1) (ts ++ (txt r line).1, (txt r line).2)) : Stand T ts line 1 (nl r) := by
  rcases r with _ | ⟨c, l⟩
  · left
    rw [nl_nil]
    refine ⟨rfl, ?_⟩
    simpa [txt_nil] using h
  · right
    exact ⟨head (c :: l), rest (c :: l), nl_cons c l, head_no _, h.trans (after_start ts c l line)⟩

theorem stand_start (T : List UInt8) : Stand T [] 1 1 (nl T) := stand_next T [] 1 T (by simpa using Told.rfl' _)

/-- The end of a line. -/
theorem stand_line {T : List UInt8} {ts : List Tok} {line col : Nat} {D : List UInt8} (h : Stand T ts line col (10 :: D)) : Stand T (ts ++ [⟨5, [], line, col⟩]) (line + 1) 1 D := by
  rcases h with ⟨h, _⟩ | ⟨bs, r, hD, hno, ht⟩
  · cases h
  · rcases bs with _ | ⟨b, bs⟩
    · simp only [List.nil_append, List.cons.injEq, true_and] at hD
      subst hD
      rw [after_end] at ht
      exact stand_next T _ (line + 1) r ht
    · simp only [List.cons_append, List.cons.injEq] at hD
      exact absurd hD.1.symm (hno b List.mem_cons_self)

/-- Not the end of one: what is there. -/
theorem stand_in {T : List UInt8} {ts : List Tok} {line col : Nat} {c : UInt8} {D : List UInt8} (h : Stand T ts line col (c :: D)) (hc : c ≠ 10) :
    ∃ l r, D = l ++ 10 :: nl r ∧ (∀ d ∈ c :: l, d ≠ 10) ∧ Told (txt T 1) (after ts (c :: l) r line col) := by
  rcases h with ⟨h, _⟩ | ⟨bs, r, hD, hno, ht⟩
  · cases h
  · rcases bs with _ | ⟨b, bs⟩
    · simp only [List.nil_append, List.cons.injEq] at hD
      exact absurd hD.1 hc
    · simp only [List.cons_append, List.cons.injEq] at hD
      obtain ⟨rfl, hD⟩ := hD
      exact ⟨bs, r, hD, hno, ht⟩

theorem drop_stand {T : List UInt8} {ts : List Tok} {line col n : Nat} {c : UInt8} {l r : List UInt8} (hno : ∀ d ∈ c :: l, d ≠ 10) (hn : n ≤ l.length + 1) (ht : Told (txt T 1) (after ts ((c :: l).drop n) r line col)) :
    Stand T ts line col ((c :: (l ++ 10 :: nl r)).drop n) := by
  refine .inr ⟨(c :: l).drop n, r, ?_, fun d hd => hno d (List.mem_of_mem_drop hd), ht⟩
  rw [show c :: (l ++ 10 :: nl r) = (c :: l) ++ 10 :: nl r from rfl, List.drop_append_of_le_length (by simpa using hn)]

theorem stand_pass {T : List UInt8} {ts : List Tok} {line col n : Nat} {c : UInt8} {l r : List UInt8} (hno : ∀ d ∈ c :: l, d ≠ 10) (ht : Told (txt T 1) (after ts (c :: l) r line col)) (h : piece c l = (9, n)) :
    Stand T ts line (col + n) ((c :: (l ++ 10 :: nl r)).drop n) := by
  have hs := piece_size c l
  rw [h] at hs
  rw [after_pass ts c l r line col n h] at ht
  exact drop_stand hno hs ht

theorem stand_tok {T : List UInt8} {ts : List Tok} {line col k n : Nat} {c : UInt8} {l r : List UInt8} (hno : ∀ d ∈ c :: l, d ≠ 10) (ht : Told (txt T 1) (after ts (c :: l) r line col)) (h : piece c l = (k, n)) (h0 : k ≠ 0) (h9 : k ≠ 9) :
    Stand T (ts ++ [⟨k, (c :: l).take n, line, col⟩]) line (col + n) ((c :: (l ++ 10 :: nl r)).drop n) := by
  have hs := piece_size c l
  rw [h] at hs
  rw [after_tok ts c l r line col k n h h0 h9] at ht
  exact drop_stand hno hs ht

theorem stand_wrong {T : List UInt8} {ts : List Tok} {line col : Nat} {c : UInt8} {l r : List UInt8} (hc : col ≠ 0) (ht : Told (txt T 1) (after ts (c :: l) r line col)) (h : (piece c l).1 = 0) : (txt T 1).2 = (line, col) := by
  rw [after_wrong ts c l r line col hc h] at ht
  exact ht.1

/-- A row ends at the line's end at last. -/
theorem rowLen_line : ∀ (l r : List UInt8), rowLen (l ++ 10 :: r) = rowLen l
  | [], r => by
    have h : word 10 = false := by decide
    simp [rowLen, h]
  | c :: l, r => by
    have ih := rowLen_line l r
    simp only [List.cons_append, rowLen, ih]

end Go.Proofs.YtejjdfmobiegdaaDoor
