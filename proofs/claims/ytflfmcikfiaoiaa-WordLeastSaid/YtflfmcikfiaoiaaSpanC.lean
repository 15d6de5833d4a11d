/- The document's spans of a form: whether a symbol can derive a part. -/
import Derived.Test.YtflfmcikfiaoiaaMapK
import Derived.Test.YtflfmcikfiaoiaaSpanS
import Derived.Test.YtflfmcikfiaoiaaForm
set_option linter.unusedVariables false
namespace Go.Proofs.Ytflfmcikfiaoiaa
open Go.RowKit
open Doc

structure SpanAt (W : World) (BS BH : Nat) (wa : Option Addr) (wc : Nat) (u : List Int) (H : Sp.Key → Prop) : Prop where
  q : ∃ c0 c1 c2, W.heap[BS]? = some (.cells #[c0, c1, c2, .slice wa u.length wc, .map (some BH)] 100)
  m : SetM W Try.prog 102 code3 BH H
  row : Cells W wa (nums u)
theorem SpanAt.below {W W' : World} {BS BH : Nat} {wa : Option Addr} {wc : Nat} {u : List Int} {H : Sp.Key → Prop} (h : SpanAt W BS BH wa wc u H) (hb : Below W.heap.size W W') : SpanAt W' BS BH wa wc u H := by
  obtain ⟨⟨c0, c1, c2, hq⟩, hm, hr⟩ := h
  exact ⟨⟨c0, c1, c2, (hb.block BS (heap_lt hq)).trans hq⟩, hm.below hb hm.lt, hr.below hb⟩

theorem SpanAt.left {W : World} {BS BH : Nat} {wa : Option Addr} {wc : Nat} {u : List Int} {H : Sp.Key → Prop} (h : SpanAt W BS BH wa wc u H) (U : List Sp.Key) : Sp.left U (HasW code3 BH W) = Sp.left U H := by
  rw [show HasW code3 BH W = H from funext fun q => propext (h.m.hasW code3_inj q)]
/-- What a round of the spans has done. -/
structure RoundIs (U : List Sp.Key) (H H1 : Sp.Key → Prop) (c : Bool) : Prop where
  more : ∀ q, H q → H1 q
  some_ : c = true → ∃ q ∈ U, ¬ H q ∧ H1 q
  none_ : c = false → H1 = H
theorem RoundIs.add {U : List Sp.Key} {H H1 : Sp.Key → Prop} {c : Bool} (h : RoundIs U H H1 c) {q : Sp.Key} (hq : q ∈ U) (hn : ¬ H1 q) : RoundIs U H (fun q' => q' = q ∨ H1 q') true where
  more := fun q' hq' => .inr (h.more q' hq')
  some_ := fun _ => ⟨q, hq, fun hh => hn (h.more q hh), .inl rfl⟩
  none_ := fun h => by cases h
theorem SpanAt.grown {W W' : World} {BS BH : Nat} {o : Option Nat} {wa : Option Addr} {wc : Nat} {u : List Int} {H : Sp.Key → Prop} (h : SpanAt W BS BH wa wc u H) (hb : W.grownBy W' o) (h1 : some BS ≠ o) (h2 : some BH ≠ o) (h3 : ∀ b off, wa = some ⟨b, off, none⟩ → nums u ≠ [] → some b ≠ o) : SpanAt W' BS BH wa wc u H := by
  obtain ⟨⟨c0, c1, c2, hq⟩, hm, hr⟩ := h
  refine ⟨⟨c0, c1, c2, (hb.block BS (heap_lt hq) h1).trans hq⟩, hm.kept hb h2, ?_⟩
  by_cases hne : nums u = []
  · exact .inl hne
  · obtain ⟨b, off, e, hl, hc⟩ := hr.get hne
    exact .inr ⟨b, off, e, Nat.lt_of_lt_of_le hl hb.size, fun j v hj => (World.cell?_of_block (hb.block b hl (h3 b off e hne))).trans (hc j v hj)⟩

set_option maxHeartbeats 1000000 in
theorem can_any (BS BH : Nat) (wa : Option Addr) (wc : Nat) (u : List Int) (H : Sp.Key → Prop) (x : Int) (i j : Nat) (w : World) (h : SpanAt w BS BH wa wc u H) (hx1 : -9223372036854775808 ≤ x) (hx2 : x ≤ 9223372036854775807) (hij : i ≤ j) (hj : j ≤ u.length) (hu : u.length ≤ 1000000) :
    Calls Try.prog 15 #[.pointer (some ⟨BS, 0, none⟩), .int .i64 x, .int .i64 i, .int .i64 j] w fun e w' => (∃ b : Bool, e = .returned (.bool b) ∧ (b = true ↔ Sp.canP u H x i j)) ∧ w' = w := by
  obtain ⟨⟨c0, c1, c2, hq⟩, hm, hrow⟩ := h
  obtain ⟨l, hl⟩ := code3_key (x := x) (i := i) (j := j) hx1 hx2 (by omega) (by omega)
  obtain ⟨v, hv, hrun⟩ := SetM.look hm key_three code3_inj Try.underlying98 (zeroBool w) hl
  have z3 := (blk_cell (i := 3) (u := .slice wa u.length wc) hq rfl).1
  have z4 := (blk_cell (i := 4) (u := .map (some BH)) hq rfl).1
  have hlt := heap_lt hq
  unfold code3 at hrun
  simp only at hrun
  have HV := Lib.hid hv
  clear hl hm hq hv
  by_cases hji : j = i + 1
  · have e1 : ((j : Int) == (i : Int) + 1) = true := by simp; omega
    obtain ⟨s, hs⟩ : ∃ s, u[i]? = some s := ⟨_, List.getElem?_eq_getElem (by omega)⟩
    obtain ⟨b, o, rfl, hb, hc⟩ := hrow.get (by unfold nums; intro e; rw [List.map_eq_nil_iff] at e; rw [e] at hs; simp at hs)
    have u0 := hc i _ (nums_at hs)
    have e2 : (i : Int) < u.length := by omega
    have HS := Lib.hid hs
    have HJ := Lib.hid hji
    clear hs hc hji hrow
    by_cases hx : s = x
    · have e3 : (s == x) = true := by simpa using hx
      have HX := Lib.hid hx
      clear hx
      go_enter Try.func15, Try.ntmps15
      go_wp2
      go_ret
      exact ⟨⟨true, rfl, by simp only [true_iff]; exact .inl ⟨HJ.out, by rw [HS.out, HX.out]⟩⟩, rfl⟩
    · have e3 : (s == x) = false := by simpa using hx
      have HX := Lib.hid hx
      clear hx
      go_enter Try.func15, Try.ntmps15
      go_wp2
      go_ret
      refine ⟨⟨v, rfl, HV.out.trans ⟨.inr, fun h => ?_⟩⟩, rfl⟩
      rcases h with ⟨_, h⟩ | h
      · rw [HS.out] at h; exact absurd (Option.some.inj h) HX.out
      · exact h
  · have e1 : ((j : Int) == (i : Int) + 1) = false := by simp; omega
    have HJ := Lib.hid hji
    clear hji hrow
    go_enter Try.func15, Try.ntmps15
    go_wp2
    go_ret
    refine ⟨⟨v, rfl, HV.out.trans ⟨.inr, fun h => ?_⟩⟩, rfl⟩
    rcases h with ⟨h, _⟩ | h
    · exact absurd h HJ.out
    · exact h
end Go.Proofs.Ytflfmcikfiaoiaa
