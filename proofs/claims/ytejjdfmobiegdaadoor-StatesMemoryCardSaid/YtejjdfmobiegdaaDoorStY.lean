/- states: New of any grammar, case by case. -/
import Derived.Test.YtejjdfmobiegdaaDoorStE
set_option linter.unusedVariables false
namespace Go.Proofs.YtejjdfmobiegdaaDoor
open Go.RowKit
open Doc

open Classical in
noncomputable def kOf (g : Gr) : MkP := if h : ∃ K, MkOf g K then h.choose else kC g
theorem kOf_eq {g : Gr} {K : MkP} (h : MkOf g K) : K = kOf g := by
  have h2 : ∃ K, MkOf g K := ⟨K, h⟩
  unfold kOf
  rw [dif_pos h2]
  exact h.uniq h2.choose_spec
def NilTo (k : Int) (W : World) (e : Ending) (w' : World) : Prop := e = .returned (.tuple #[.pointer none, .int .i64 k]) ∧ Below W.heap.size W w'
def OkTo (g : Gr) (all : List StP) (W : World) (e : Ending) (w' : World) : Prop := ∃ (B : Nat) (G : GrL) (sa : Option Addr) (sc : Nat) (ss : List StL), e = .returned (.tuple #[.pointer (some ⟨B, 0, none⟩), .int .i64 0]) ∧ Below W.heap.size W w' ∧ plS ss = all ∧ MkOf g (kOf g) ∧ MacAt w' B W.heap.size g G sa sc ss
theorem snew_empty {v : Value} {g : Gr} {b : Int} {w : World} (hg : GramAt w v g) (hck : CheckG g) (HT : Sl.Tab w) (hf : ¬ Fru g 100) : Calls Tryd.prog 26 #[v, .int .i64 b] w (NilTo 6 w) :=
  (snew_any v g b w hg hck HT).mono fun e w' ⟨hb, he⟩ => by
    rcases he with ⟨_, he⟩ | ⟨hn, _⟩ | ⟨hn, _⟩
    · exact ⟨he, hb⟩
    · exact absurd hn hf
    · exact absurd hn hf
theorem snew_arg {v : Value} {g : Gr} {b : Int} {w : World} (hg : GramAt w v g) (hck : CheckG g) (HT : Sl.Tab w) (hf : Fru g 100) (hr : ¬ (1 ≤ b ∧ b ≤ 600)) : Calls Tryd.prog 26 #[v, .int .i64 b] w (NilTo 1 w) :=
  (snew_any v g b w hg hck HT).mono fun e w' ⟨hb, he⟩ => by
    rcases he with ⟨hn, _⟩ | ⟨_, _, he⟩ | ⟨_, hn, _⟩
    · exact absurd hf hn
    · exact ⟨he, hb⟩
    · exact absurd hn hr
theorem snew_few {v : Value} {g : Gr} {b : Int} {w : World} (hg : GramAt w v g) (hck : CheckG g) (HT : Sl.Tab w) (hf : Fru g 100) (hr : 1 ≤ b ∧ b ≤ 600) (hm : machS (kOf g) g b.toNat = none) : Calls Tryd.prog 26 #[v, .int .i64 b] w (NilTo 7 w) :=
  (snew_any v g b w hg hck HT).mono fun e w' ⟨hb, he⟩ => by
    rcases he with ⟨hn, _⟩ | ⟨_, hn, _⟩ | ⟨_, _, K, hK, ⟨h1, h2⟩ | ⟨B, G, sa, sc, ss, h1, h2, h3⟩⟩
    · exact absurd hf hn
    · exact absurd hr hn
    · exact ⟨h2, hb⟩
    · rw [kOf_eq hK, hm] at h1
      cases h1
theorem snew_ok {v : Value} {g : Gr} {b : Int} {w : World} {all : List StP} (hg : GramAt w v g) (hck : CheckG g) (HT : Sl.Tab w) (hf : Fru g 100) (hr : 1 ≤ b ∧ b ≤ 600) (hm : machS (kOf g) g b.toNat = some all) : Calls Tryd.prog 26 #[v, .int .i64 b] w (OkTo g all w) :=
  (snew_any v g b w hg hck HT).mono fun e w' ⟨hb, he⟩ => by
    rcases he with ⟨hn, _⟩ | ⟨_, hn, _⟩ | ⟨_, _, K, hK, ⟨h1, h2⟩ | ⟨B, G, sa, sc, ss, h1, h2, h3⟩⟩
    · exact absurd hf hn
    · exact absurd hr hn
    · rw [kOf_eq hK, hm] at h1
      cases h1
    · rw [kOf_eq hK, hm] at h1
      exact ⟨B, G, sa, sc, ss, h2, hb, (Option.some.inj h1).symm, by rw [← kOf_eq hK]; exact hK, h3⟩
end Go.Proofs.YtejjdfmobiegdaaDoor
