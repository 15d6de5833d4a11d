/- Texts that are no grammars, by hand: where they end. -/
import Derived.Test.YtamifbgegmbbaaaWake
import Derived.Laws.Concat
namespace Go.Proofs.Ytamifbgegmbbaaa
open Go.RowKit
open Doc

/-- A text, and where it ends first, and why. -/
structure Bad4 where
  s : List UInt8
  l : Nat
  c : Nat
  e : Nat
def errs : List Bad4 := [⟨[83, 58, 32, 97, 32, 59], 1, 6, 2⟩, ⟨[97, 58, 32, 98, 10], 1, 1, 2⟩, ⟨[83, 32, 97, 10], 1, 3, 2⟩, ⟨[83, 58, 32, 97, 32, 58, 32, 98, 10], 1, 6, 2⟩, ⟨[83, 10], 1, 2, 2⟩, ⟨[124, 32, 97, 10], 1, 1, 2⟩,
  ⟨[83, 58, 32, 84, 10, 83, 58, 32, 97, 10], 2, 1, 4⟩, ⟨[83, 58, 32, 84, 32, 97, 10], 1, 4, 3⟩, ⟨[83, 58, 32, 97, 32, 124, 32, 98, 32, 124, 32, 97, 10], 1, 12, 4⟩, ⟨[83, 58, 32, 124, 32, 97, 32, 124, 10], 1, 9, 4⟩, ⟨[83, 58, 32, 124, 32, 124, 10], 1, 6, 4⟩,
  ⟨[83, 58, 32, 97, 32, 98, 32, 99, 32, 100, 32, 101, 32, 102, 32, 97, 10], 1, 16, 5⟩, ⟨[83, 58, 32, 97, 32, 98, 32, 99, 32, 100, 32, 101, 32, 102, 32, 84, 10], 1, 16, 5⟩,
  ⟨[83, 58, 32, 97, 32, 98, 32, 99, 32, 100, 10, 84, 58, 32, 101, 32, 102, 32, 103, 32, 104, 32, 105, 10], 2, 12, 5⟩, ⟨[83, 58, 32, 84, 10, 84, 58, 32, 83, 10, 85, 58, 32, 59, 10], 3, 4, 2⟩]
def more : List (List UInt8) := [[], [10], [35, 32, 97, 10], [83, 58, 32, 83, 10], [83, 58, 10], [83, 58, 32, 84, 32, 124, 10, 84, 58, 32, 83, 10]]

def pads (n : Nat) : List UInt8 := List.replicate n 10

theorem errs_parse : ∀ n, n < 4 → ∀ x ∈ errs, parse (pads n ++ x.s) = .bad (x.l + n) x.c x.e := by decide +kernel
theorem more_parse : ∀ n, n < 4 → ∀ x ∈ more, parse (pads n ++ x) = .bad 0 0 2 := by decide +kernel
theorem errs_len : ∀ x ∈ errs, x.s.length ≤ 30 ∧ x.l ≤ 3 := by decide
theorem more_len : ∀ x ∈ more, x.length ≤ 30 := by decide

def bcells (x : Bad4) : List Value := [.string ⟨x.s.toArray⟩, .int .i64 x.l, .int .i64 x.c, .int .i64 x.e]
theorem ball_at : ∀ (l : List Bad4) (j : Nat) (x : Bad4), l[j]? = some x → (l.flatMap bcells)[j * 4]? = some (.string ⟨x.s.toArray⟩) ∧ (l.flatMap bcells)[j * 4 + 1]? = some (.int .i64 x.l) ∧ (l.flatMap bcells)[j * 4 + 2]? = some (.int .i64 x.c) ∧ (l.flatMap bcells)[j * 4 + 3]? = some (.int .i64 x.e)
  | [], j, t, h => by simp at h
  | u :: l, 0, t, h => by
    simp at h; subst h
    simp [bcells]
  | u :: l, j + 1, t, h => by
    have ih := ball_at l j t (by simpa using h)
    have e : ∀ i, ((u :: l).flatMap bcells)[(j + 1) * 4 + i]? = (l.flatMap bcells)[j * 4 + i]? := fun i => by
      rw [List.flatMap_cons, show (j + 1) * 4 + i = (bcells u).length + (j * 4 + i) by simp [bcells]; omega, List.getElem?_append_right (by omega)]
      congr 1; omega
    exact ⟨(e 0).trans ih.1, (e 1).trans ih.2.1, (e 2).trans ih.2.2.1, (e 3).trans ih.2.2.2⟩

theorem gram_nil (w : World) : GramAt w (.agg #[.slice none 0 0, .slice none 0 0, .slice none 0 0]) ⟨[], [], []⟩ :=
  ⟨none, none, none, 0, 0, 0, [], rfl, rfl, .inl rfl, .inl rfl, .inl rfl, by simp, by simp, by simp, by simp⟩
theorem fits_nil : Fits ⟨[], [], []⟩ := ⟨by simp, by simp, by simp, by simp⟩
theorem same_nil (w : World) : Calls Try.prog 14 #[.agg #[.slice none 0 0, .slice none 0 0, .slice none 0 0], .agg #[.slice none 0 0, .slice none 0 0, .slice none 0 0]] w fun e w' => e = .returned (.bool true) ∧ Below w.heap.size w w' :=
  (same_any _ _ _ _ w (gram_nil w) (gram_nil w) fits_nil fits_nil).mono fun e w' ⟨h, hb⟩ => ⟨h.trans (by simp), hb⟩

theorem cat_run (a b : List UInt8) (w : World) (h : a.length + b.length ≤ 1000000) : (Op.stringOp .add ⟨a.toArray⟩ ⟨b.toArray⟩).run Try.prog w = .ok (.string ⟨(a ++ b).toArray⟩) w := by
  rw [run_string_add_sum w _ _ (by show a.length + b.length ≤ _; omega)]
  have e : (⟨a.toArray⟩ : ByteArray) ++ ⟨b.toArray⟩ = ⟨(a ++ b).toArray⟩ := ByteArray.ext (by simp)
  rw [e]

theorem pads_ext : ∀ n, n < 4 → (⟨#[10, 10, 10, 10]⟩ : ByteArray).extract 0 n = ⟨(pads n).toArray⟩
  | 0, _ => rfl
  | 1, _ => rfl
  | 2, _ => rfl
  | 3, _ => rfl
  | n + 4, h => by omega

end Go.Proofs.Ytamifbgegmbbaaa
