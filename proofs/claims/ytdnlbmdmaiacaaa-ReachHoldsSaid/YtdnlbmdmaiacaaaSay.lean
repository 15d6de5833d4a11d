/- What lists of tokens hold in memory; the document's example; two lists compared. -/
import Derived.Test.YtdnlbmdmaiacaaaTok
import Derived.Laws.OwnMore
import Derived.Deep.QuietTactic
import Derived.BigQuiet
namespace Go.Proofs.Ytdnlbmdmaiacaaa
open Go.RowKit
open Doc

/-- Block g holds the tokens l. -/
def Toks (w : World) (g : Nat) (l : List Tok) : Prop := ∀ j t, l[j]? = some t →
  w.cell? ⟨g, j * 4, none⟩ = some (.int .i64 t.kind) ∧ w.cell? ⟨g, j * 4 + 1, none⟩ = some (.string ⟨t.text.toArray⟩) ∧
  w.cell? ⟨g, j * 4 + 2, none⟩ = some (.int .i64 t.line) ∧ w.cell? ⟨g, j * 4 + 3, none⟩ = some (.int .i64 t.col)

theorem tall_at : ∀ (l : List Tok) (j : Nat) (t : Tok), l[j]? = some t →
    (tall l)[j * 4]? = some (.int .i64 t.kind) ∧ (tall l)[j * 4 + 1]? = some (.string ⟨t.text.toArray⟩) ∧ (tall l)[j * 4 + 2]? = some (.int .i64 t.line) ∧ (tall l)[j * 4 + 3]? = some (.int .i64 t.col)
  | [], j, t, h => by simp at h
  | u :: l, 0, t, h => by
    simp at h; subst h
    simp [tall_cons, tcells]
  | u :: l, j + 1, t, h => by
    have ih := tall_at l j t (by simpa using h)
    have e : ∀ i, (tall (u :: l))[(j + 1) * 4 + i]? = (tall l)[j * 4 + i]? := fun i => by
      rw [tall_cons, show (j + 1) * 4 + i = (tcells u).length + (j * 4 + i) by simp [tcells]; omega, List.getElem?_append_right (by omega)]
      congr 1; omega
    exact ⟨(e 0).trans ih.1, (e 1).trans ih.2.1, (e 2).trans ih.2.2.1, (e 3).trans ih.2.2.2⟩

theorem Owns.toks {B : Nat} {w : World} {e : TypeId} {v : Value} {l : List Tok} (h : Owns B w e v l) (hl : 0 < l.length) :
    ∃ g cap, v = .slice (some ⟨g, 0, none⟩) l.length cap ∧ l.length ≤ cap ∧ B ≤ g ∧ g < w.heap.size ∧ Toks w g l := by
  unfold Owns at h
  obtain ⟨g, cap, hv, hB, hg⟩ := h.form hl
  subst hv
  have hcap : l.length ≤ cap := by
    rcases h.2 with ⟨_, h0⟩ | ⟨g', cap', cur, hv, _, _, hc, _⟩
    · omega
    · simp only [Value.slice.injEq] at hv; omega
  refine ⟨g, cap, rfl, hcap, hB, hg, fun j t hj => ?_⟩
  have hlt : j < l.length := (List.getElem?_eq_some_iff.1 hj).1
  have ta := tall_at l j t hj
  exact ⟨(h.cellAt _ (by omega)).trans ta.1, (h.cellAt _ (by omega)).trans ta.2.1, (h.cellAt _ (by omega)).trans ta.2.2.1, (h.cellAt _ (by omega)).trans ta.2.2.2⟩

theorem Toks.below {w w' : World} {g : Nat} {l : List Tok} {B : Nat} (h : Toks w g l) (hg : g < B) (hb : Below B w w') : Toks w' g l := fun j t hj => by
  obtain ⟨h1, h2, h3, h4⟩ := h j t hj
  exact ⟨(hb.cell (p := ⟨g, _, none⟩) hg).trans h1, (hb.cell (p := ⟨g, _, none⟩) hg).trans h2, (hb.cell (p := ⟨g, _, none⟩) hg).trans h3, (hb.cell (p := ⟨g, _, none⟩) hg).trans h4⟩

/-- Tokens of a text that is one. -/
theorem tokens_ok (s : ByteArray) (w : World) (l : List Tok) (hs : s.size ≤ 1000000) (h : txt s.data.toList 1 = (l, 0, 0)) :
    Calls Try.prog 88 #[.string s] w fun e w' => ∃ v', e = .returned (.tuple #[v', .int .i64 0, .int .i64 0, .int .i64 0]) ∧ Below w.heap.size w w' ∧ Owns w.heap.size w' 124 v' l := by
  refine (tokens_any s w hs).mono fun e w' ⟨hb, he⟩ => ?_
  unfold TokEnd at he
  rw [h, if_pos rfl] at he
  obtain ⟨v', h1, h2⟩ := he
  exact ⟨v', h1, hb, h2⟩
theorem tokens_bad (s : ByteArray) (w : World) (l : List Tok) (a b : Nat) (hs : s.size ≤ 1000000) (h : txt s.data.toList 1 = (l, a, b)) (hab : a ≠ 0 ∨ b ≠ 0) :
    Calls Try.prog 88 #[.string s] w fun e w' => e = .returned (.tuple #[.slice none 0 0, .int .i64 a, .int .i64 b, .int .i64 2]) ∧ Below w.heap.size w w' := by
  refine (tokens_any s w hs).mono fun e w' ⟨hb, he⟩ => ?_
  unfold TokEnd at he
  rw [h, if_neg (by simp; omega)] at he
  exact ⟨he, hb⟩

theorem toks_new (w : World) (e : TypeId) (l : List Tok) (cs : Array Value) (hc : cs = (tall l).toArray) : Toks (w.alloc (.cells cs e)) w.heap.size l := fun j t hj => by
  subst hc
  have ta := tall_at l j t hj
  have hn := World.news_of_block (w := w.alloc (.cells (tall l).toArray e)) (heap_alloc_new w (.cells (tall l).toArray e))
  have hadd : ∀ i, (⟨w.heap.size, 0, none⟩ : Addr).add i = ⟨w.heap.size, i, none⟩ := fun i => by unfold Addr.add; split <;> simp_all
  exact ⟨(hadd _) ▸ hn _ _ ta.1, (hadd _) ▸ hn _ _ ta.2.1, (hadd _) ▸ hn _ _ ta.2.2.1, (hadd _) ▸ hn _ _ ta.2.2.2⟩

end Go.Proofs.Ytdnlbmdmaiacaaa
