/- The document's own Parse, its two ends; grammars that are nothing. -/
import Derived.Test.YtejjdfmobiegdaaDoorRParse
import Derived.Test.YtejjdfmobiegdaaDoorWake
import Derived.Test.YtejjdfmobiegdaaDoorGS
import Derived.Test.YtejjdfmobiegdaaDoorReach
import Derived.Test.YtejjdfmobiegdaaDoorFind
set_option linter.unusedVariables false
namespace Go.Proofs.YtejjdfmobiegdaaDoor
open Go.RowKit
open Doc

theorem rparse_any (s : ByteArray) (w : World) (hs : s.size ≤ 400000) :
    Calls Tryd.prog 25 #[.string s] w fun e w' => Below w.heap.size w w' ∧ ParseEnd w.heap.size s.data.toList e w' := by
  refine (rparse_own s w hs).mono fun e w' ⟨hb, he⟩ => ⟨hb, ?_⟩
  unfold ParseEndR at he
  unfold ParseEnd
  cases hp : parse s.data.toList with
  | ok g =>
    rw [hp] at he
    obtain ⟨F, ts, ns, ls, at_, an, ap, ct, cn, cp, rfl, hF, hr, rfl⟩ := he
    exact ⟨_, rfl, fun W hW => hr.from_ W fun k h1 h2 => hW k (by omega) h2⟩
  | bad l c x => rw [hp] at he; exact he
theorem rparse_ok (s : ByteArray) (g : Gr) (w : World) (hs : s.size ≤ 400000) (h : parse s.data.toList = .ok g) :
    Calls Tryd.prog 25 #[.string s] w fun e w' => ∃ v, e = .returned (.tuple #[v, .int .i64 0, .int .i64 0, .int .i64 0]) ∧ Below w.heap.size w w' ∧ GramFrom w.heap.size w' v g := by
  refine (rparse_any s w hs).mono fun e w' ⟨hb, he⟩ => ?_
  unfold ParseEnd at he
  rw [h] at he
  obtain ⟨v, h1, h2⟩ := he
  exact ⟨v, h1, hb, h2⟩
theorem rparse_no (s : ByteArray) (l c x : Nat) (w : World) (hs : s.size ≤ 400000) (h : parse s.data.toList = .bad l c x) :
    Calls Tryd.prog 25 #[.string s] w fun e w' => e = .returned (.tuple #[.agg #[.slice none 0 0, .slice none 0 0, .slice none 0 0], .int .i64 l, .int .i64 c, .int .i64 x]) ∧ Below w.heap.size w w' := by
  refine (rparse_any s w hs).mono fun e w' ⟨hb, he⟩ => ?_
  unfold ParseEnd at he
  rw [h] at he
  exact ⟨he, hb⟩
theorem parse_check {t : List UInt8} {g : Gr} (h : parse t = .ok g) : CheckG g := good_check g (read_good _ _ h)
theorem gram_nil (w : World) : GramAt w (.agg #[.slice none 0 0, .slice none 0 0, .slice none 0 0]) ⟨[], [], []⟩ :=
  ⟨none, none, none, 0, 0, 0, [], rfl, rfl, .inl rfl, .inl rfl, .inl rfl, by simp, by simp, by simp, by simp⟩
theorem fits_nil : Fits ⟨[], [], []⟩ := ⟨by simp, by simp, by simp, by simp⟩
/-- A grammar's value, its slices named. -/
theorem gram_form {w : World} {v : Value} {g : Gr} (h : GramAt w v g) : ∃ a1 a2 a3 c1 c2 c3, v = .agg #[.slice a1 g.terms.length c1, .slice a2 g.nons.length c2, .slice a3 g.prods.length c3] := by
  obtain ⟨a1, a2, a3, c1, c2, c3, ls, rfl, hp, _⟩ := h
  exact ⟨a1, a2, a3, c1, c2, c3, by rw [← hp, List.length_map]⟩

end Go.Proofs.YtejjdfmobiegdaaDoor
