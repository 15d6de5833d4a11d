/- rules: the lines of tokens. The lines of tokens are the rules. No program here. read: a text as a grammar, or the panic that tells where it ends. Parse: what read throws is caught, and told. -/
import Derived.Test.YtejjdfmobiegdaaDoorForm
import Derived.Laws.Rows
import Derived.Test.YtejjdfmobiegdaaDoorAddProd
import Derived.Defers
import Derived.Recover
import Derived.Laws.Pointers
namespace Go.Proofs.YtejjdfmobiegdaaDoor
open Go.RowKit
open Doc

/-- The lines of tokens: where each begins, how long it is: from place i on, the line's start being st. -/
def cutF : List Tok → Nat → Nat → List (Nat × Nat)
  | [], _, _ => []
  | t :: l, i, st => if t.kind = 5 then (if st < i then (st, i + 1 - st) :: cutF l (i + 1) (i + 1) else cutF l (i + 1) (i + 1)) else cutF l (i + 1) st

/-- A line's value. -/
def ruV (a : Option Addr) (cap : Nat) (p : Nat × Nat) : Value := .slice (a.map fun x => ⟨x.block, x.off + p.1 * 4, none⟩) p.2 (cap - p.1)

theorem info_of' {i : Option TypeInfo} {z : Option Value} {a b : Nat} (h : i.map (fun i => (i.zero, i.size, i.bytes)) = some (z, a, b)) : ∃ j, i = some j ∧ j.zero = z ∧ j.size = a ∧ j.bytes = b := by
  cases i with
  | none => cases h
  | some j => simp only [Option.map_some, Option.some.injEq, Prod.mk.injEq] at h; exact ⟨j, rfl, h.1, h.2.1, h.2.2⟩

theorem own_block' {w : World} {B e size n : Nat} {v : Value} {xs : List Value} (h : w.ownsRow B e size v n xs) {g : Nat} (hg : v.ownBlock = some g) : B ≤ g := by
  rcases h.2 with ⟨hv, _⟩ | ⟨g', cap, cur, hv, hB, hgg, rest⟩
  · rw [hv] at hg; cases hg
  · rw [hv] at hg
    have : g' = g := by simpa [Value.ownBlock] using hg
    omega

end Go.Proofs.YtejjdfmobiegdaaDoor

namespace Go.Proofs.YtejjdfmobiegdaaDoor
open Doc

/-- The rule that lies at these places. -/
def ruOf (L : List Tok) (p : Nat × Nat) : Ru := ⟨(L.drop p.1).headD ⟨0, [], 0, 0⟩, (L.drop (p.1 + 2)).take (p.2 - 2)⟩

def standsAt (L : List Tok) (i st : Nat) : At → Prop
  | .start => st = i
  | .named n => st + 1 = i ∧ L[st]? = some n
  | .parts n r => i = st + 2 + r.length ∧ L[st]? = some n ∧ (L.drop (st + 2)).take r.length = r

/-- What is known of a line. -/
structure LineOk (L : List Tok) (p : Nat × Nat) : Prop where
  len : p.1 + p.2 ≤ L.length
  three : 3 ≤ p.2
  last : ∀ t, ((L.drop (p.1 + 2)).take (p.2 - 2)).getLast? = some t → t.kind = 5
  name : ∃ n, L[p.1]? = some n ∧ n.kind = 1
  body : ∀ t ∈ (L.drop (p.1 + 2)).take (p.2 - 2), t.kind ≠ 3

theorem cut_rule (L : List Tok) : ∀ (l : List Tok) (i st : Nat) (a : At), standsAt L i st a → L.drop i = l → (ruleF l a).2 = none →
    (∀ n, (a = .named n ∨ ∃ r, a = .parts n r) → n.kind = 1) → (∀ n r, a = .parts n r → ∀ t ∈ r, t.kind ≠ 3) →
    (ruleF l a).1 = (cutF l i st).map (ruOf L) ∧ ∀ p ∈ cutF l i st, LineOk L p
  | [], i, st, a, _, _, _, _, _ => by cases a <;> exact ⟨rfl, by simp [cutF]⟩
  | t :: l, i, st, .start, hs, hd, hn, hk, hb => by
    have hs : st = i := hs
    subst hs
    have hdl : L.drop (st + 1) = l := by rw [← List.drop_drop, hd]; rfl
    have hlt : st < L.length := by
      rcases Nat.lt_or_ge st L.length with h | h
      · exact h
      · rw [List.drop_of_length_le h] at hd; cases hd
    have hget : L[st]? = some t := by
      rw [List.drop_eq_getElem_cons hlt] at hd
      rw [List.getElem?_eq_getElem hlt, (List.cons.inj hd).1]
    simp only [ruleF] at hn ⊢
    simp only [cutF]
    by_cases h5 : t.kind = 5
    · rw [if_pos h5] at hn ⊢
      rw [if_pos h5, if_neg (Nat.lt_irrefl _)]
      exact cut_rule L l (st + 1) (st + 1) .start rfl hdl hn (by rintro n (h | ⟨r, h⟩) <;> cases h) (by intro n r h; cases h)
    · rw [if_neg h5] at hn ⊢
      rw [if_neg h5]
      by_cases h1 : t.kind = 1
      · rw [if_pos h1] at hn ⊢
        exact cut_rule L l (st + 1) st (.named t) ⟨rfl, hget⟩ hdl hn (by rintro n (h | ⟨r, h⟩) <;> cases h; exact h1) (by intro n r h; cases h)
      · rw [if_neg h1] at hn; cases hn
  | t :: l, i, st, .named n, hs, hd, hn, hk, hb => by
    obtain ⟨hs, hg⟩ := hs
    subst hs
    have hdl : L.drop (st + 1 + 1) = l := by rw [← List.drop_drop, hd]; rfl
    simp only [ruleF] at hn ⊢
    simp only [cutF]
    by_cases h3 : t.kind = 3
    · rw [if_pos h3] at hn ⊢
      rw [if_neg (by omega)]
      exact cut_rule L l (st + 1 + 1) st (.parts n []) ⟨rfl, hg, rfl⟩ hdl hn (by rintro m (h | ⟨r, h⟩) <;> cases h; exact hk n (.inl rfl)) (by intro m r h; cases h; simp)
    · rw [if_neg h3] at hn; cases hn
  | t :: l, i, st, .parts n r, hs, hd, hn, hk, hb => by
    obtain ⟨hs, hg, hr⟩ := hs
    have hn1 := hk n (.inr ⟨r, rfl⟩)
    have hb0 := hb n r rfl
    subst hs
    have hdl : L.drop (st + 2 + r.length + 1) = l := by rw [← List.drop_drop, hd]; rfl
    have hlt : st + 2 + r.length < L.length := by
      rcases Nat.lt_or_ge (st + 2 + r.length) L.length with h | h
      · exact h
      · rw [List.drop_of_length_le h] at hd; cases hd
    have hget : L[st + 2 + r.length]? = some t := by
      rw [List.drop_eq_getElem_cons hlt] at hd
      rw [List.getElem?_eq_getElem hlt, (List.cons.inj hd).1]
    have hr1 : (L.drop (st + 2)).take (r.length + 1) = r ++ [t] := by
      rw [List.take_add_one, hr, List.getElem?_drop, hget]; rfl
    simp only [ruleF] at hn ⊢
    simp only [cutF]
    by_cases h3 : t.kind = 3
    · rw [if_pos h3] at hn; cases hn
    · rw [if_neg h3] at hn ⊢
      by_cases h5 : t.kind = 5
      · rw [if_pos h5] at hn ⊢
        rw [if_pos h5, if_pos (by omega)]
        obtain ⟨ih1, ih2⟩ := cut_rule L l (st + 2 + r.length + 1) (st + 2 + r.length + 1) .start rfl hdl hn (by rintro m (h | ⟨r, h⟩) <;> cases h) (by intro m r h; cases h)
        have hsz : st + 2 + r.length + 1 - st - 2 = r.length + 1 := by omega
        refine ⟨?_, ?_⟩
        · rw [List.map_cons, ← ih1]
          congr 1
          unfold ruOf
          simp only [hsz, hr1]
          congr 1
          have hst : st < L.length := by omega
          rw [List.drop_eq_getElem_cons hst]
          rw [List.getElem?_eq_getElem hst] at hg
          exact congrArg (fun x => (⟨x, r ++ [t]⟩ : Ru)) (Option.some.inj hg).symm
        · intro p hp
          rcases List.mem_cons.1 hp with rfl | hp
          · refine ⟨by simp only; omega, by simp only; omega, ?_, ⟨n, hg, hn1⟩, ?_⟩
            · intro u hu
              simp only [hsz, hr1, List.getLast?_append, List.getLast?_singleton, Option.some_or, Option.some.injEq] at hu
              rw [← hu]; exact h5
            · intro u hu
              simp only [hsz, hr1] at hu
              rcases List.mem_append.1 hu with hu | hu
              · exact hb0 u hu
              · rw [List.mem_singleton.1 hu]; exact h3
          · exact ih2 p hp
      · rw [if_neg h5] at hn ⊢
        rw [if_neg h5]
        refine cut_rule L l (st + 2 + r.length + 1) st (.parts n (r ++ [t])) ⟨by simp; omega, hg, by simpa using hr1⟩ hdl hn (by rintro m (h | ⟨q, h⟩) <;> cases h; exact hn1) ?_
        intro m q h
        cases h
        intro u hu
        rcases List.mem_append.1 hu with hu | hu
        · exact hb0 u hu
        · rw [List.mem_singleton.1 hu]; exact h3

/-- The tokens' kinds. -/
theorem kindOf_two : ∀ l, kindOf l ≤ 2
  | [] => by decide
  | c :: l => by
    show (if nameOk (c :: l) = true then (if up c = true then 1 else 2) else 0) ≤ 2
    cases nameOk (c :: l) <;> cases up c <;> decide

theorem piece_kind (c : UInt8) (l : List UInt8) : (piece c l).1 = 9 ∨ (piece c l).1 ≤ 4 := by
  have h := kindOf_two ((c :: l).take (rowLen (c :: l)))
  unfold piece
  split
  · simp
  split
  · simp
  split
  · simp
  split
  · simp
  right
  show kindOf _ ≤ 4
  omega

theorem lin_kinds : ∀ (n : Nat) (l : List UInt8) (line col : Nat), l.length ≤ n → ∀ t ∈ (lin l line col).1, 1 ≤ t.kind ∧ t.kind ≤ 5
  | _, [], _, _, _, t, ht => by rw [lin_nil] at ht; cases ht
  | 0, c :: l, _, _, h, t, ht => by simp at h
  | n + 1, c :: l, line, col, h, t, ht => by
    rw [lin_cons] at ht
    by_cases h0 : (piece c l).1 = 0
    · rw [if_pos h0] at ht; cases ht
    · rw [if_neg h0] at ht
      have hp := piece_pos c l h0
      have hlen : ((c :: l).drop (piece c l).2).length ≤ n := by rw [List.length_drop]; simp only [List.length_cons] at h ⊢; omega
      by_cases h9 : (piece c l).1 = 9
      · rw [if_pos h9] at ht
        exact lin_kinds n _ _ _ hlen t ht
      · rw [if_neg h9] at ht
        rcases List.mem_cons.1 ht with rfl | ht
        · have := piece_kind c l
          simp only
          omega
        · exact lin_kinds n _ _ _ hlen t ht

theorem txt_kinds : ∀ (n : Nat) (s : List UInt8) (line : Nat), s.length ≤ n → ∀ t ∈ (txt s line).1, 1 ≤ t.kind ∧ t.kind ≤ 5
  | _, [], _, _, t, ht => by rw [txt_nil] at ht; cases ht
  | 0, c :: l, _, h, t, ht => by simp at h
  | n + 1, c :: l, line, h, t, ht => by
    rw [txt_cons] at ht
    split at ht
    · rcases List.mem_append.1 ht with ht | ht
      · exact lin_kinds _ _ _ _ (Nat.le_refl _) t ht
      · rcases List.mem_cons.1 ht with rfl | ht
        · simp
        · have := rest_lt c l
          exact txt_kinds n _ _ (by simp only [List.length_cons] at h this; omega) t ht
    · cases ht

theorem txt_fairT (s : List UInt8) (line : Nat) : ∀ t ∈ (txt s line).1, FairT t := fun t ht =>
  ⟨(txt_fair _ s line (Nat.le_refl _) t ht).1, (txt_fair _ s line (Nat.le_refl _) t ht).2, (txt_kinds _ s line (Nat.le_refl _) t ht).1, (txt_kinds _ s line (Nat.le_refl _) t ht).2⟩

end Go.Proofs.YtejjdfmobiegdaaDoor

namespace Go.Proofs.YtejjdfmobiegdaaDoor
open Go.RowKit
open Doc

/-- A grammar whose memory is from block B on. -/
def GramFrom (B : Nat) (w : World) (v : Value) (g : Gr) : Prop := ∀ W : World, (∀ k, B ≤ k → k < w.heap.size → W.heap[k]? = w.heap[k]?) → GramAt W v g
theorem GramFrom.at_ {B : Nat} {w : World} {v : Value} {g : Gr} (h : GramFrom B w v g) : GramAt w v g := h w fun _ _ _ => rfl
theorem GramFrom.same {B : Nat} {w w' : World} {v : Value} {g : Gr} (h : GramFrom B w v g) (hs : w.heap.size ≤ w'.heap.size) (hk : ∀ k, B ≤ k → k < w.heap.size → w'.heap[k]? = w.heap[k]?) : GramFrom B w' v g := fun W hW => h W fun k h1 h2 => (hW k h1 (Nat.lt_of_lt_of_le h2 hs)).trans (hk k h1 h2)

theorem results_cell1 {fn : Func} {p : Tmp} {ty : TypeId} (h : fn.results = #[.cell p ty]) (tmps : Array Value) (P : Program) (w : World) :
    (results fn tmps).run P w = ((asAddr (tmps.getD p undef)).run P w).andThen fun a w₁ => (loadVar ty a).run P w₁ := by
  simp only [results, h]
  simp [Sem.run_bind, Result.andThen]

theorem txt_len : ∀ (n : Nat) (t : List UInt8) (line : Nat), t.length ≤ n → (txt t line).1.length ≤ 2 * t.length
  | _, [], _, _ => by rw [txt_nil]; simp
  | 0, c :: l, _, h => by simp at h
  | n + 1, c :: l, line, h => by
    have hl := line_len c l
    have hr := rest_lt c l
    have hh := lin_len _ (head (c :: l)) line 1 (Nat.le_refl _)
    have ih := txt_len n (rest (c :: l)) (line + 1) (by simp only [List.length_cons] at h hr; omega)
    rw [txt_cons]
    split
    · simp only [List.length_append, List.length_cons]; omega
    · simp

theorem toks_slice {B : Nat} {w : World} {e : TypeId} {v : Value} {L : List Tok} (h : Owns B w e v L) : ∃ a cap, v = .slice a L.length cap ∧ Cells w a (tall L) ∧ L.length ≤ cap ∧ cap ≤ maxLen := by
  unfold Owns at h
  obtain ⟨a, cap, rfl, hc⟩ := cells_own h
  refine ⟨a, cap, rfl, hc, ?_⟩
  rcases h.2 with ⟨hv, h0⟩ | ⟨g, cap', cur, hv, _, _, hn, hm, _⟩
  · simp only [Value.slice.injEq] at hv; exact ⟨by omega, by unfold maxLen; omega⟩
  · simp only [Value.slice.injEq] at hv; exact ⟨by omega, by omega⟩

theorem Cells.under {b : Nat} {w : World} {a : Option Addr} {xs : List Value} (h : Cells w a xs) (hb : w.heap.size ≤ b) {w' : World} (hw : Below w.heap.size w w') : Under b w' a xs := fun _ hW => h.below (hw.trans (hW.mono hb))

theorem cut_len : ∀ (l : List Tok) (i st : Nat), (cutF l i st).length ≤ l.length
  | [], _, _ => Nat.le_refl _
  | t :: l, i, st => by
    have h1 := cut_len l (i + 1) (i + 1)
    have h2 := cut_len l (i + 1) st
    simp only [cutF]
    split
    · split
      · simp only [List.length_cons]; omega
      · simp only [List.length_cons]; omega
    · simp only [List.length_cons]; omega

end Go.Proofs.YtejjdfmobiegdaaDoor

namespace Go.Proofs.YtejjdfmobiegdaaDoor
open Go.RowKit
open Doc

theorem frame22 (p q r v : Value) : #[p, q, r] ++ ((Array.replicate 19 undef).setIfInBounds 3 v).setIfInBounds 0 v = #[p, q, r, v, undef, undef, v, undef, undef, undef, undef, undef, undef, undef, undef, undef, undef, undef, undef, undef, undef, undef] := by
  apply Array.ext'
  simp [List.replicate]

theorem ne_nil (w : World) : (binOp .neq 20 .nilIface .nilIface).run Tryd.prog w = .ok (.bool false) w := by kernel_rfl

theorem four (w : World) (o0 o1 o2 o3 : Obj) : Below w.heap.size w ((((w.alloc o0).alloc o1).alloc o2).alloc o3) ∧ ((((w.alloc o0).alloc o1).alloc o2).alloc o3).heap.size = w.heap.size + 4 ∧
    ((((w.alloc o0).alloc o1).alloc o2).alloc o3).heap[w.heap.size]? = some o0 ∧ ((((w.alloc o0).alloc o1).alloc o2).alloc o3).heap[w.heap.size + 1]? = some o1 ∧
    ((((w.alloc o0).alloc o1).alloc o2).alloc o3).heap[w.heap.size + 2]? = some o2 ∧ ((((w.alloc o0).alloc o1).alloc o2).alloc o3).heap[w.heap.size + 3]? = some o3 := by
  refine ⟨((((Below.refl _ _).alloc (Nat.le_refl _) _).alloc (by simp) _).alloc (by simp <;> omega) _).alloc (by simp <;> omega) _, by simp, ?_, ?_, ?_, ?_⟩
  · rw [Below.heap_alloc _ _ _ (by simp <;> omega), Below.heap_alloc _ _ _ (by simp <;> omega), Below.heap_alloc _ _ _ (by simp)]; exact heap_alloc_new w o0
  · rw [Below.heap_alloc _ _ _ (by simp <;> omega), Below.heap_alloc _ _ _ (by simp)]; have := heap_alloc_new (w.alloc o0) o1; simpa using this
  · rw [Below.heap_alloc _ _ _ (by simp)]; have := heap_alloc_new ((w.alloc o0).alloc o1) o2; simpa using this
  · have := heap_alloc_new (((w.alloc o0).alloc o1).alloc o2) o3; simpa using this

/-- How Parse ends. -/
def ParseEnd (B : Nat) (t : List UInt8) (e : Ending) (w' : World) : Prop :=
  match parse t with
  | .ok g => ∃ v, e = .returned (.tuple #[v, .int .i64 0, .int .i64 0, .int .i64 0]) ∧ GramFrom B w' v g
  | .bad l c x => e = .returned (.tuple #[.agg #[.slice none 0 0, .slice none 0 0, .slice none 0 0], .int .i64 l, .int .i64 c, .int .i64 x])

theorem results_cells4 {fn : Func} {p0 p1 p2 p3 : Tmp} {t0 t1 t2 t3 : TypeId} (h : fn.results = #[.cell p0 t0, .cell p1 t1, .cell p2 t2, .cell p3 t3]) {tmps : Array Value} {P : Program} {w : World} {a0 a1 a2 a3 : Addr} {v0 v1 v2 v3 : Value}
    (h0 : tmps.getD p0 undef = .pointer (some a0)) (h1 : tmps.getD p1 undef = .pointer (some a1)) (h2 : tmps.getD p2 undef = .pointer (some a2)) (h3 : tmps.getD p3 undef = .pointer (some a3))
    (l0 : (loadVar t0 a0).run P w = .ok v0 w) (l1 : (loadVar t1 a1).run P w = .ok v1 w) (l2 : (loadVar t2 a2).run P w = .ok v2 w) (l3 : (loadVar t3 a3).run P w = .ok v3 w) :
    (results fn tmps).run P w = .ok (.tuple #[v0, v1, v2, v3]) w := by
  simp only [results, h]
  simp at h0 h1 h2 h3
  simp [Sem.run_bind, Result.andThen, h0, h1, h2, h3, l0, l1, l2, l3, asAddr]

theorem loadInt {w : World} {b : Nat} {v : Value} (h : w.heap[b]? = some (.cells (#[.int .i64 0].set! 0 v) 3)) : (loadVar 3 ⟨b, 0, none⟩).run Tryd.prog w = .ok v w := by
  have hc := (blk_cell (i := 0) (u := v) h (by simp)).1
  simp [go_sem, loadVar, hc]
theorem loadErr {w : World} {b : Nat} {v : Value} (h : w.heap[b]? = some (.cells (#[.int .i64 0].set! 0 v) 32)) : (loadVar 32 ⟨b, 0, none⟩).run Tryd.prog w = .ok v w := by
  have hc := (blk_cell (i := 0) (u := v) h (by simp)).1
  simp [go_sem, loadVar, hc]

end Go.Proofs.YtejjdfmobiegdaaDoor
