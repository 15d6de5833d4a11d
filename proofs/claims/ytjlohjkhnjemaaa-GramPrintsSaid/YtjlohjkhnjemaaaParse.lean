/- rules: the lines of tokens. The lines of tokens are the rules. No program here. read: a text as a grammar, or the panic that tells where it ends. Parse: what read throws is caught, and told. -/
import Derived.Test.YtjlohjkhnjemaaaForm
import Derived.Laws.Rows
import Derived.Test.YtjlohjkhnjemaaaAddProd
import Derived.Defers
import Derived.Recover
import Derived.Laws.Pointers
namespace Go.Proofs.Ytjlohjkhnjemaaa
open Go.RowKit
open Doc

/-- The lines of tokens: where each begins, how long it is: from place i on, the line's start being st. -/
def cutF : List Tok → Nat → Nat → List (Nat × Nat)
  | [], _, _ => []
  | t :: l, i, st => if t.kind = 5 then (if st < i then (st, i + 1 - st) :: cutF l (i + 1) (i + 1) else cutF l (i + 1) (i + 1)) else cutF l (i + 1) st

/-- A line's value. -/
def ruV (a : Option Addr) (cap : Nat) (p : Nat × Nat) : Value := .slice (a.map fun x => ⟨x.block, x.off + p.1 * 4, none⟩) p.2 (cap - p.1)

theorem infoL : (Try.prog.info? 189).map (fun i => (i.zero, i.size, i.bytes)) = some (some (.slice none 0 0), 1, 24) := by kernel_rfl
theorem info_of' {i : Option TypeInfo} {z : Option Value} {a b : Nat} (h : i.map (fun i => (i.zero, i.size, i.bytes)) = some (z, a, b)) : ∃ j, i = some j ∧ j.zero = z ∧ j.size = a ∧ j.bytes = b := by
  cases i with
  | none => cases h
  | some j => simp only [Option.map_some, Option.some.injEq, Prod.mk.injEq] at h; exact ⟨j, rfl, h.1, h.2.1, h.2.2⟩

theorem own_block' {w : World} {B e size n : Nat} {v : Value} {xs : List Value} (h : w.ownsRow B e size v n xs) {g : Nat} (hg : v.ownBlock = some g) : B ≤ g := by
  rcases h.2 with ⟨hv, _⟩ | ⟨g', cap, cur, hv, hB, hgg, rest⟩
  · rw [hv] at hg; cases hg
  · rw [hv] at hg
    have : g' = g := by simpa [Value.ownBlock] using hg
    omega

set_option maxRecDepth 100000 in
set_option maxHeartbeats 4000000 in
theorem rules_any (a : Option Addr) (cap : Nat) (l : List Tok) (w : World) (h : Cells w a (tall l)) (hl : l.length ≤ 4000000) (hcap : l.length ≤ cap) (hc4 : cap ≤ maxLen) :
    Calls Try.prog 140 #[.slice a l.length cap] w fun e w' => Below w.heap.size w w' ∧ ∃ v, e = .returned v ∧ w'.ownsRow w.heap.size 189 1 v (cutF l 0 0).length ((cutF l 0 0).map (ruV a cap)) := by
  obtain ⟨i0, hi, hz0, hz1, hz2⟩ := info_of' infoL
  unfold maxLen at hc4
  have HH := Lib.hid h
  clear h
  obtain ⟨B, hB⟩ : ∃ B, B = w.heap.size := ⟨_, rfl⟩
  rw [← hB]
  have HEB := Lib.hid hB
  clear hB
  go_enter Try.func140, Try.ntmps140
  go_wp2
  go_loopw [3, 4, 9] (fun v st i wr => ∃ (k s : Nat) (ps : List (Nat × Nat)), k ≤ l.length ∧ s ≤ k ∧ i = .int .i64 k ∧ st = .int .i64 s ∧ ps.length ≤ k ∧ wr.ownsRow B 189 1 v ps.length (ps.map (ruV a cap)) ∧ Below B w wr ∧ Hid (cutF l 0 0 = ps ++ cutF (l.drop k) k s)) (fun _ _ i _ => l.length - (intOf i).toNat)
  case atStart => exact ⟨0, 0, [], Nat.zero_le _, Nat.le_refl _, rfl, rfl, Nat.le_refl _, World.ownsRow_nil _ _ _ _, Below.refl _ _, Lib.hid (by simp)⟩
  case round =>
    obtain ⟨k, s, ps, hk, hsk, rfl, rfl, hps, hown, hbe, HR⟩ := hrel
    by_cases hlt : k < l.length
    · obtain ⟨t, ht⟩ : ∃ t, l[k]? = some t := ⟨_, List.getElem?_eq_getElem hlt⟩
      have hd : cutF (l.drop k) k s = if t.kind = 5 then (if s < k then (s, k + 1 - s) :: cutF (l.drop (k + 1)) (k + 1) (k + 1) else cutF (l.drop (k + 1)) (k + 1) (k + 1)) else cutF (l.drop (k + 1)) (k + 1) s := by
        rw [List.drop_eq_getElem_cons hlt]
        have : l[k] = t := by rw [List.getElem?_eq_getElem hlt] at ht; exact Option.some.inj ht
        rw [this]; rfl
      obtain ⟨bb, off, rfl, hbbl, hc⟩ := (HH.out.below (HEB.out ▸ hbe)).get (tall_nil_iff (by omega))
      obtain ⟨c0, c1, c2, c3⟩ := tok_cells hc ht
      have e1 : (k : Int) < l.length := by omega
      have hBr : B ≤ wr.heap.size := by have := hbe.size; have := HEB.out; omega
      have HD := Lib.hid (HR.out.trans (by rw [hd]))
      clear hc ht hd HR
      have hal : ∀ o, Below B w (wr.alloc o) := fun o => hbe.alloc hBr o
      have HAL := Lib.hid hal
      have HNW := Lib.hid (fun o o' => (by have := heap_alloc_new (wr.alloc o) o'; simpa using this : ((wr.alloc o).alloc o').heap[wr.heap.size + 1]? = some o'))
      clear hal
      by_cases h5 : t.kind = 5
      · have h5b : ((t.kind : Int) != 5) = false := by simp [h5]
        rw [if_pos h5] at HD
        by_cases hsk2 : s < k
        · rw [if_pos hsk2] at HD
          have g1 : (s : Int) < k := by omega
          have i1 : (0 : Int) ≤ s := by omega
          have i2 : (s : Int) ≤ k + 1 := by omega
          have i3 : (k : Int) + 1 ≤ cap := by omega
          have i5 : ¬ cap = s := by omega
          have i6 : ((k : Int) + 1 - s).toNat = k + 1 - s := by omega
          have HD2 := Lib.hid HD.out
          clear h5 HD hsk2
          go_wp2_with (at_builtin; refine wpList_append_own _ rfl (.tmp 20) (.tmp 26) 193 rfl B 189 i0 (.slice none 0 0) 1 24 Try.underlying193 hi hz0 hz1 hz2 rfl (by decide) _ ps.length (ps.map (ruV (some ⟨bb, off, none⟩) cap)) rfl ((hown.alloc _).alloc _) ⟨wr.heap.size + 1, 0, none⟩ 1 1 [.slice (some ⟨bb, off + s * 4, none⟩) (k + 1 - s) (cap - s)] rfl rfl (World.news_of_block (cs := #[.slice (some ⟨bb, off + s * 4, none⟩) (k + 1 - s) (cap - s)]) (t := 189) (fr := (0, 0)) (HNW.out _ _)) (by simp [Value.oneCell']) (by unfold maxLen; omega) (by omega) (by simp; omega) ?_; intro v3 w3 hown3 hgrow3 _)
          go_roundw
          case rel => exact ⟨k + 1, k + 1, ps ++ [(s, k + 1 - s)], by omega, by omega, by go_num, by go_num, by simp; omega, by simpa [ruV] using hown3, ((HAL.out _).alloc (by simp; omega) _).grown hgrow3 (by simp; omega) (fun g hg => (own_block' hown hg)), Lib.hid (by rw [HD2.out]; simp)⟩
          case measure => simp [intOf]; omega
        · rw [if_neg hsk2] at HD
          have g1 : ¬ (s : Int) < k := by omega
          have HD2 := Lib.hid HD.out
          have HOA := Lib.hid (fun o => hown.alloc o)
          clear h5 HD hsk2
          go_wp2
          go_roundw
          case rel => exact ⟨k + 1, k + 1, ps, by omega, by omega, by go_num, by go_num, by omega, HOA.out _, HAL.out _, HD2⟩
          case measure => simp [intOf]; omega
      · have h5b : ((t.kind : Int) != 5) = true := by simp; omega
        rw [if_neg h5] at HD
        have HD2 := Lib.hid HD.out
        have HOA := Lib.hid (fun o => hown.alloc o)
        clear h5 HD
        go_wp2
        go_roundw
        case rel => exact ⟨k + 1, s, ps, by omega, by omega, by go_num, rfl, by omega, HOA.out _, HAL.out _, HD2⟩
        case measure => simp [intOf]; omega
    · have hend : cutF (l.drop k) k s = [] := by rw [List.drop_of_length_le (by omega)]; rfl
      have HD := Lib.hid (show cutF l 0 0 = ps by rw [HR.out, hend]; simp)
      have e1 : ¬ (k : Int) < l.length := by omega
      clear hend HR
      go_wp2
      go_ret
      exact ⟨hbe, _, rfl, by rw [HD.out]; exact hown⟩

end Go.Proofs.Ytjlohjkhnjemaaa

namespace Go.Proofs.Ytjlohjkhnjemaaa
open Doc

/-- The rule that lies at these places. -/
def ruOf (L : List Tok) (p : Nat × Nat) : Ru := ⟨(L.drop p.1).headD ⟨0, [], 0, 0⟩, (L.drop (p.1 + 2)).take (p.2 - 2)⟩

def standsAt (L : List Tok) (i st : Nat) : At → Prop
  | .start => st = i
  | .named n => st + 1 = i ∧ L[st]? = some n
  | .parts n r => i = st + 2 + r.length ∧ L[st]? = some n ∧ (L.drop (st + 2)).take r.length = r

/-- What is known of a line. -/
structure LineOk (L : List Tok) (p : Nat × Nat) : Prop where
  len : p.1 + p.2 ≤ L.length
  three : 3 ≤ p.2
  last : ∀ t, ((L.drop (p.1 + 2)).take (p.2 - 2)).getLast? = some t → t.kind = 5
  name : ∃ n, L[p.1]? = some n ∧ n.kind = 1
  body : ∀ t ∈ (L.drop (p.1 + 2)).take (p.2 - 2), t.kind ≠ 3

theorem cut_rule (L : List Tok) : ∀ (l : List Tok) (i st : Nat) (a : At), standsAt L i st a → L.drop i = l → (ruleF l a).2 = none →
    (∀ n, (a = .named n ∨ ∃ r, a = .parts n r) → n.kind = 1) → (∀ n r, a = .parts n r → ∀ t ∈ r, t.kind ≠ 3) →
    (ruleF l a).1 = (cutF l i st).map (ruOf L) ∧ ∀ p ∈ cutF l i st, LineOk L p
  | [], i, st, a, _, _, _, _, _ => by cases a <;> exact ⟨rfl, by simp [cutF]⟩
  | t :: l, i, st, .start, hs, hd, hn, hk, hb => by
    have hs : st = i := hs
    subst hs
    have hdl : L.drop (st + 1) = l := by rw [← List.drop_drop, hd]; rfl
    have hlt : st < L.length := by
      rcases Nat.lt_or_ge st L.length with h | h
      · exact h
      · rw [List.drop_of_length_le h] at hd; cases hd
    have hget : L[st]? = some t := by
      rw [List.drop_eq_getElem_cons hlt] at hd
      rw [List.getElem?_eq_getElem hlt, (List.cons.inj hd).1]
    simp only [ruleF] at hn ⊢
    simp only [cutF]
    by_cases h5 : t.kind = 5
    · rw [if_pos h5] at hn ⊢
      rw [if_pos h5, if_neg (Nat.lt_irrefl _)]
      exact cut_rule L l (st + 1) (st + 1) .start rfl hdl hn (by rintro n (h | ⟨r, h⟩) <;> cases h) (by intro n r h; cases h)
    · rw [if_neg h5] at hn ⊢
      rw [if_neg h5]
      by_cases h1 : t.kind = 1
      · rw [if_pos h1] at hn ⊢
        exact cut_rule L l (st + 1) st (.named t) ⟨rfl, hget⟩ hdl hn (by rintro n (h | ⟨r, h⟩) <;> cases h; exact h1) (by intro n r h; cases h)
      · rw [if_neg h1] at hn; cases hn
  | t :: l, i, st, .named n, hs, hd, hn, hk, hb => by
    obtain ⟨hs, hg⟩ := hs
    subst hs
    have hdl : L.drop (st + 1 + 1) = l := by rw [← List.drop_drop, hd]; rfl
    simp only [ruleF] at hn ⊢
    simp only [cutF]
    by_cases h3 : t.kind = 3
    · rw [if_pos h3] at hn ⊢
      rw [if_neg (by omega)]
      exact cut_rule L l (st + 1 + 1) st (.parts n []) ⟨rfl, hg, rfl⟩ hdl hn (by rintro m (h | ⟨r, h⟩) <;> cases h; exact hk n (.inl rfl)) (by intro m r h; cases h; simp)
    · rw [if_neg h3] at hn; cases hn
  | t :: l, i, st, .parts n r, hs, hd, hn, hk, hb => by
    obtain ⟨hs, hg, hr⟩ := hs
    have hn1 := hk n (.inr ⟨r, rfl⟩)
    have hb0 := hb n r rfl
    subst hs
    have hdl : L.drop (st + 2 + r.length + 1) = l := by rw [← List.drop_drop, hd]; rfl
    have hlt : st + 2 + r.length < L.length := by
      rcases Nat.lt_or_ge (st + 2 + r.length) L.length with h | h
      · exact h
      · rw [List.drop_of_length_le h] at hd; cases hd
    have hget : L[st + 2 + r.length]? = some t := by
      rw [List.drop_eq_getElem_cons hlt] at hd
      rw [List.getElem?_eq_getElem hlt, (List.cons.inj hd).1]
    have hr1 : (L.drop (st + 2)).take (r.length + 1) = r ++ [t] := by
      rw [List.take_add_one, hr, List.getElem?_drop, hget]; rfl
    simp only [ruleF] at hn ⊢
    simp only [cutF]
    by_cases h3 : t.kind = 3
    · rw [if_pos h3] at hn; cases hn
    · rw [if_neg h3] at hn ⊢
      by_cases h5 : t.kind = 5
      · rw [if_pos h5] at hn ⊢
        rw [if_pos h5, if_pos (by omega)]
        obtain ⟨ih1, ih2⟩ := cut_rule L l (st + 2 + r.length + 1) (st + 2 + r.length + 1) .start rfl hdl hn (by rintro m (h | ⟨r, h⟩) <;> cases h) (by intro m r h; cases h)
        have hsz : st + 2 + r.length + 1 - st - 2 = r.length + 1 := by omega
        refine ⟨?_, ?_⟩
        · rw [List.map_cons, ← ih1]
          congr 1
          unfold ruOf
          simp only [hsz, hr1]
          congr 1
          have hst : st < L.length := by omega
          rw [List.drop_eq_getElem_cons hst]
          rw [List.getElem?_eq_getElem hst] at hg
          exact congrArg (fun x => (⟨x, r ++ [t]⟩ : Ru)) (Option.some.inj hg).symm
        · intro p hp
          rcases List.mem_cons.1 hp with rfl | hp
          · refine ⟨by simp only; omega, by simp only; omega, ?_, ⟨n, hg, hn1⟩, ?_⟩
            · intro u hu
              simp only [hsz, hr1, List.getLast?_append, List.getLast?_singleton, Option.some_or, Option.some.injEq] at hu
              rw [← hu]; exact h5
            · intro u hu
              simp only [hsz, hr1] at hu
              rcases List.mem_append.1 hu with hu | hu
              · exact hb0 u hu
              · rw [List.mem_singleton.1 hu]; exact h3
          · exact ih2 p hp
      · rw [if_neg h5] at hn ⊢
        rw [if_neg h5]
        refine cut_rule L l (st + 2 + r.length + 1) st (.parts n (r ++ [t])) ⟨by simp; omega, hg, by simpa using hr1⟩ hdl hn (by rintro m (h | ⟨q, h⟩) <;> cases h; exact hn1) ?_
        intro m q h
        cases h
        intro u hu
        rcases List.mem_append.1 hu with hu | hu
        · exact hb0 u hu
        · rw [List.mem_singleton.1 hu]; exact h3

/-- The tokens' kinds. -/
theorem kindOf_two : ∀ l, kindOf l ≤ 2
  | [] => by decide
  | c :: l => by
    show (if nameOk (c :: l) = true then (if up c = true then 1 else 2) else 0) ≤ 2
    cases nameOk (c :: l) <;> cases up c <;> decide

theorem piece_kind (c : UInt8) (l : List UInt8) : (piece c l).1 = 9 ∨ (piece c l).1 ≤ 4 := by
  have h := kindOf_two ((c :: l).take (rowLen (c :: l)))
  unfold piece
  split
  · simp
  split
  · simp
  split
  · simp
  split
  · simp
  right
  show kindOf _ ≤ 4
  omega

theorem lin_kinds : ∀ (n : Nat) (l : List UInt8) (line col : Nat), l.length ≤ n → ∀ t ∈ (lin l line col).1, 1 ≤ t.kind ∧ t.kind ≤ 5
  | _, [], _, _, _, t, ht => by rw [lin_nil] at ht; cases ht
  | 0, c :: l, _, _, h, t, ht => by simp at h
  | n + 1, c :: l, line, col, h, t, ht => by
    rw [lin_cons] at ht
    by_cases h0 : (piece c l).1 = 0
    · rw [if_pos h0] at ht; cases ht
    · rw [if_neg h0] at ht
      have hp := piece_pos c l h0
      have hlen : ((c :: l).drop (piece c l).2).length ≤ n := by rw [List.length_drop]; simp only [List.length_cons] at h ⊢; omega
      by_cases h9 : (piece c l).1 = 9
      · rw [if_pos h9] at ht
        exact lin_kinds n _ _ _ hlen t ht
      · rw [if_neg h9] at ht
        rcases List.mem_cons.1 ht with rfl | ht
        · have := piece_kind c l
          simp only
          omega
        · exact lin_kinds n _ _ _ hlen t ht

theorem txt_kinds : ∀ (n : Nat) (s : List UInt8) (line : Nat), s.length ≤ n → ∀ t ∈ (txt s line).1, 1 ≤ t.kind ∧ t.kind ≤ 5
  | _, [], _, _, t, ht => by rw [txt_nil] at ht; cases ht
  | 0, c :: l, _, h, t, ht => by simp at h
  | n + 1, c :: l, line, h, t, ht => by
    rw [txt_cons] at ht
    split at ht
    · rcases List.mem_append.1 ht with ht | ht
      · exact lin_kinds _ _ _ _ (Nat.le_refl _) t ht
      · rcases List.mem_cons.1 ht with rfl | ht
        · simp
        · have := rest_lt c l
          exact txt_kinds n _ _ (by simp only [List.length_cons] at h this; omega) t ht
    · cases ht

theorem txt_fairT (s : List UInt8) (line : Nat) : ∀ t ∈ (txt s line).1, FairT t := fun t ht =>
  ⟨(txt_fair _ s line (Nat.le_refl _) t ht).1, (txt_fair _ s line (Nat.le_refl _) t ht).2, (txt_kinds _ s line (Nat.le_refl _) t ht).1, (txt_kinds _ s line (Nat.le_refl _) t ht).2⟩

end Go.Proofs.Ytjlohjkhnjemaaa

namespace Go.Proofs.Ytjlohjkhnjemaaa
open Go.RowKit
open Doc

/-- A grammar whose memory is from block B on. -/
def GramFrom (B : Nat) (w : World) (v : Value) (g : Gr) : Prop := ∀ W : World, (∀ k, B ≤ k → k < w.heap.size → W.heap[k]? = w.heap[k]?) → GramAt W v g
theorem GramFrom.at_ {B : Nat} {w : World} {v : Value} {g : Gr} (h : GramFrom B w v g) : GramAt w v g := h w fun _ _ _ => rfl
theorem GramFrom.same {B : Nat} {w w' : World} {v : Value} {g : Gr} (h : GramFrom B w v g) (hs : w.heap.size ≤ w'.heap.size) (hk : ∀ k, B ≤ k → k < w.heap.size → w'.heap[k]? = w.heap[k]?) : GramFrom B w' v g := fun W hW => h W fun k h1 h2 => (hW k h1 (Nat.lt_of_lt_of_le h2 hs)).trans (hk k h1 h2)

/-- How read ends. -/
def ReadEnd (B : Nat) (t : List UInt8) (e : Ending) (w' : World) : Prop :=
  match parse t with
  | .ok g => ∃ v, e = .returned v ∧ GramFrom B w' v g
  | .bad l c x => e = .panicked [{ v := faultV l c x, recovered := false }]

theorem parse_bad {B : Nat} {t : List UInt8} {e : Ending} {w' : World} {l c x : Nat} (h : parse t = .bad l c x) (he : e = .panicked [{ v := faultV l c x, recovered := false }]) : ReadEnd B t e w' := by
  unfold ReadEnd; rw [h]; exact he

theorem results_cell1 {fn : Func} {p : Tmp} {ty : TypeId} (h : fn.results = #[.cell p ty]) (tmps : Array Value) (P : Program) (w : World) :
    (results fn tmps).run P w = ((asAddr (tmps.getD p undef)).run P w).andThen fun a w₁ => (loadVar ty a).run P w₁ := by
  simp only [results, h]
  simp [Sem.run_bind, Result.andThen]

theorem txt_len : ∀ (n : Nat) (t : List UInt8) (line : Nat), t.length ≤ n → (txt t line).1.length ≤ 2 * t.length
  | _, [], _, _ => by rw [txt_nil]; simp
  | 0, c :: l, _, h => by simp at h
  | n + 1, c :: l, line, h => by
    have hl := line_len c l
    have hr := rest_lt c l
    have hh := lin_len _ (head (c :: l)) line 1 (Nat.le_refl _)
    have ih := txt_len n (rest (c :: l)) (line + 1) (by simp only [List.length_cons] at h hr; omega)
    rw [txt_cons]
    split
    · simp only [List.length_append, List.length_cons]; omega
    · simp

theorem toks_slice {B : Nat} {w : World} {e : TypeId} {v : Value} {L : List Tok} (h : Owns B w e v L) : ∃ a cap, v = .slice a L.length cap ∧ Cells w a (tall L) ∧ L.length ≤ cap ∧ cap ≤ maxLen := by
  unfold Owns at h
  obtain ⟨a, cap, rfl, hc⟩ := cells_own h
  refine ⟨a, cap, rfl, hc, ?_⟩
  rcases h.2 with ⟨hv, h0⟩ | ⟨g, cap', cur, hv, _, _, hn, hm, _⟩
  · simp only [Value.slice.injEq] at hv; exact ⟨by omega, by unfold maxLen; omega⟩
  · simp only [Value.slice.injEq] at hv; exact ⟨by omega, by omega⟩

theorem Cells.under {b : Nat} {w : World} {a : Option Addr} {xs : List Value} (h : Cells w a xs) (hb : w.heap.size ≤ b) {w' : World} (hw : Below w.heap.size w w') : Under b w' a xs := fun _ hW => h.below (hw.trans (hW.mono hb))

theorem rules_cells (a : Option Addr) (cap : Nat) (l : List Tok) (w : World) (h : Cells w a (tall l)) (hl : l.length ≤ 4000000) (hcap : l.length ≤ cap) (hc4 : cap ≤ maxLen) :
    Calls Try.prog 140 #[.slice a l.length cap] w fun e w' => Below w.heap.size w w' ∧ ∃ ra rc, e = .returned (.slice ra (cutF l 0 0).length rc) ∧ Cells w' ra ((cutF l 0 0).map (ruV a cap)) :=
  (rules_any a cap l w h hl hcap hc4).mono fun e w' ⟨hb, v, he, ho⟩ => by
    obtain ⟨ra, rc, rfl, hc⟩ := cells_own ho
    exact ⟨hb, ra, rc, he, hc⟩

theorem cut_len : ∀ (l : List Tok) (i st : Nat), (cutF l i st).length ≤ l.length
  | [], _, _ => Nat.le_refl _
  | t :: l, i, st => by
    have h1 := cut_len l (i + 1) (i + 1)
    have h2 := cut_len l (i + 1) st
    simp only [cutF]
    split
    · split
      · simp only [List.length_cons]; omega
      · simp only [List.length_cons]; omega
    · simp only [List.length_cons]; omega

set_option maxRecDepth 100000 in
set_option maxHeartbeats 16000000 in
theorem read_any (s : ByteArray) (w : World) (hs : s.size ≤ 1000000) :
    Calls Try.prog 111 #[.string s] w fun e w' => Below w.heap.size w w' ∧ ReadEnd w.heap.size s.data.toList e w' := by
  have hto := fun W => tokens_any s W hs
  go_enter Try.func111, Try.ntmps111
  rcases htx : txt s.data.toList 1 with ⟨L, ln, cl⟩
  by_cases h0 : (ln, cl) = ((0, 0) : Nat × Nat)
  · have hlen : L.length ≤ 2000000 := by have := txt_len _ s.data.toList 1 (Nat.le_refl _); rw [htx, ← Lib.size_eq] at this; simp only at this; omega
    have hto2 : ∀ W : World, Calls Try.prog 138 #[.string s] W fun e w' => (∃ a cap, e = .returned (.tuple #[.slice a L.length cap, .int .i64 0, .int .i64 0, .int .i64 0]) ∧ Cells w' a (tall L) ∧ L.length ≤ cap ∧ cap ≤ maxLen) ∧ Below W.heap.size W w' := by
      intro W0
      refine (hto W0).mono fun e w' ⟨hb, he⟩ => ?_
      unfold TokEnd at he
      rw [htx, if_pos h0] at he
      obtain ⟨v, rfl, ho⟩ := he
      obtain ⟨a, cap, rfl, h1, h2, h3⟩ := toks_slice ho
      exact ⟨⟨a, cap, rfl, h1, h2, h3⟩, hb⟩
    have HT := Lib.hid hto2
    have hfair : ∀ t ∈ L, FairT t := by have := txt_fairT s.data.toList 1; rw [htx] at this; exact this
    have hbr := bad_rule L .start 0 rfl
    have hparse : parse s.data.toList = match (ruleF L .start).2 with
        | some b => .bad b.line b.col 2
        | none =>
          if (ruleF L .start).1 = [] then .bad 0 0 2
          else match namesF (ruleF L .start).1 [] with
          | .inr (a, b, e) => .bad a b e
          | .inl ns =>
            match bodiesF ns (ruleF L .start).1 0 [] [] with
            | .inr (a, b, e) => .bad a b e
            | .inl (ts, ps) => if ts = [] then .bad 0 0 2 else .ok ⟨ts, ns, ps⟩ := by
      conv => lhs; unfold parse; rw [htx]
      rw [if_neg (by simpa using h0)]
      rfl
    have HFR := Lib.hid hfair
    clear hto2 hto hfair htx h0
    have hS : Below w.heap.size w (w.alloc (.cells #[.slice none 0 0, .slice none 0 0, .slice none 0 0] 28)) := (Below.refl _ _).alloc (Nat.le_refl _) _
    cases hbf : badF L 0 with
    | some t =>
      rw [← hbr, hbf] at hparse
      have HP := Lib.hid hparse
      have HBF := Lib.hid hbf
      clear hparse hbr hbf
      go_wp2_with (first
        | (go_at_call 138; refine (HT.out _).mono ?_; rintro e w2 ⟨⟨a, cap, rfl, hc2, hcap2, hm2⟩, hb2⟩)
        | (go_at_call 139; refine (checkForm_any a cap L _ hc2 (by omega)).mono ?_; rintro e w3 ⟨he, hb3⟩; unfold FormEnd at he; rw [HBF.out] at he; subst he))
      exact ⟨rfl, ((hS.trans (hb2.mono hS.size)).trans (hb3.mono (Nat.le_trans hS.size hb2.size))), parse_bad HP.out rfl⟩
    | none =>
      rw [← hbr, hbf] at hparse
      simp only at hparse
      obtain ⟨hr1, hr2⟩ := cut_rule L L 0 0 .start rfl rfl (hbr.symm.trans hbf) (by rintro n (h | ⟨r, h⟩) <;> cases h) (by intro n r h; cases h)
      rw [hr1] at hparse
      have HBF := Lib.hid hbf
      have HLO := Lib.hid hr2
      clear hbr hbf hr1 hr2
      have hcl := cut_len L 0 0
      have HRU := Lib.hid (fun (W : World) (a : Option Addr) (cap : Nat) (h : Cells W a (tall L)) (h1 : L.length ≤ cap) (h2 : cap ≤ maxLen) => rules_cells a cap L W h (by omega) h1 h2)
      generalize cutF L 0 0 = PS at *
      by_cases hps : PS = []
      · subst hps
        rw [List.map_nil, if_pos rfl] at hparse
        have HP := Lib.hid hparse
        clear hparse
        go_wp2_with (first
          | (go_at_call 138; refine (HT.out _).mono ?_; rintro e w2 ⟨⟨a, cap, rfl, hc2, hcap2, hm2⟩, hb2⟩)
          | (go_at_call 139; refine (checkForm_any a cap L _ hc2 (by omega)).mono ?_; rintro e w3 ⟨he, hb3⟩; unfold FormEnd at he; rw [HBF.out] at he; subst he)
          | (go_at_call 140; refine (HRU.out _ a cap (hc2.below hb3) hcap2 hm2).mono ?_; rintro e w4 ⟨hb4, ra, rc, rfl, hc4⟩))
        exact ⟨rfl, ((hS.trans (hb2.mono hS.size)).trans (hb3.mono (Nat.le_trans hS.size hb2.size))).trans (hb4.mono (Nat.le_trans (Nat.le_trans hS.size hb2.size) hb3.size)), parse_bad HP.out rfl⟩
      · rw [if_neg (by simpa using hps)] at hparse
        have hpl : ((PS.length : Int) == 0) = false := by simpa using hps
        have hpl2 : PS.length ≤ 2000000 := by omega
        have HPS := Lib.hid hps
        have HP := Lib.hid hparse
        clear hparse hps
        go_wp2_with (first
          | (go_at_call 138; refine (HT.out _).mono ?_; rintro e w2 ⟨⟨a, cap, rfl, hc2, hcap2, hm2⟩, hb2⟩)
          | (go_at_call 139; refine (checkForm_any a cap L _ hc2 (by omega)).mono ?_; rintro e w3 ⟨he, hb3⟩; unfold FormEnd at he; rw [HBF.out] at he; subst he)
          | (go_at_call 140; refine (HRU.out _ a cap (hc2.below hb3) hcap2 hm2).mono ?_; rintro e w4 ⟨hb4, ra, rc, rfl, hc4⟩))
        have hb14 : Below w.heap.size w w4 := ((hS.trans (hb2.mono hS.size)).trans (hb3.mono (Nat.le_trans hS.size hb2.size))).trans (hb4.mono (Nat.le_trans (Nat.le_trans hS.size hb2.size) hb3.size))
        have hb24 : Below w2.heap.size w2 w4 := hb3.trans (hb4.mono hb3.size)
        have hq2 : w4.heap[w.heap.size]? = some (.cells #[.slice none 0 0, .slice none 0 0, .slice none 0 0] 28) := by
          have h1 := heap_alloc_new w (.cells #[.slice none 0 0, .slice none 0 0, .slice none 0 0] 28)
          have h2 := (hb2.block w.heap.size (by simp)).trans h1
          exact (hb24.block w.heap.size (heap_lt h2)).trans h2
        have hal : Below w4.heap.size w4 (w4.alloc (.cells #[.slice none 0 0, .slice none 0 0, .slice none 0 0] 196)) := (Below.refl _ _).alloc (Nat.le_refl _) _
        have hUa : Under w4.heap.size (w4.alloc (.cells #[.slice none 0 0, .slice none 0 0, .slice none 0 0] 196)) a (tall L) := hc2.under hb24.size (hb24.trans (hal.mono hb24.size))
        have hUr : Under w4.heap.size (w4.alloc (.cells #[.slice none 0 0, .slice none 0 0, .slice none 0 0] 196)) ra (PS.map (ruV a cap)) := hc4.under (Nat.le_refl _) hal
        have hbS : Below w.heap.size w (w4.alloc (.cells #[.slice none 0 0, .slice none 0 0, .slice none 0 0] 196)) := hb14.trans (hal.mono hb14.size)
        have hB0 : w.heap.size < w4.heap.size := heap_lt hq2
        have hBl : Bld w4.heap.size (w4.alloc (.cells #[.slice none 0 0, .slice none 0 0, .slice none 0 0] 196)) [] [] [] none none none 0 0 0 :=
          ⟨heap_alloc_new w4 _, World.ownsRow_nil _ _ _ _, World.ownsRow_nil _ _ _ _, World.ownsRow_nil _ _ _ _, (by intro q hq; cases hq), (by intro x y h; cases h), (by intro q hq; cases hq)⟩
        have hq2' : ∀ W, Below w4.heap.size (w4.alloc (.cells #[.slice none 0 0, .slice none 0 0, .slice none 0 0] 196)) W → W.heap[w.heap.size]? = some (.cells #[.slice none 0 0, .slice none 0 0, .slice none 0 0] 28) := fun W hW => (hW.block _ hB0).trans ((hal.block _ hB0).trans hq2)
        have HUA := Lib.hid hUa
        have HUR := Lib.hid hUr
        have HBS := Lib.hid hbS
        have HQ2 := Lib.hid hq2'
        clear hb14 hb24 hq2 hal hUa hUr hbS hq2' hc2 hc4 hb2 hb3 hb4 hS HT HRU HBF
        generalize hSS : w4.alloc (.cells #[.slice none 0 0, .slice none 0 0, .slice none 0 0] 196) = S at *
        clear hSS
        generalize w4.heap.size = b at *
        unfold maxLen at hm2
        go_loopw [38] (fun i wr => ∃ (k : Nat) (ns : List (List UInt8)) (an : Option Addr) (cn : Nat), k ≤ PS.length ∧ i = .int .i64 k ∧ Bld b wr [] ns [] none an none 0 cn 0 ∧ Names [] ns ∧ Below b S wr ∧
          Hid (namesF (PS.map (ruOf L)) [] = namesF ((PS.drop k).map (ruOf L)) ns)) (fun i _ => PS.length - (intOf i).toNat)
        case atStart => exact ⟨0, [], none, 0, Nat.zero_le _, rfl, hBl, ⟨by simp, by simp, by simp, by simp⟩, Below.refl _ _, Lib.hid (by simp)⟩
        case round =>
          obtain ⟨k, ns, an, cn, hk, rfl, hbl, hnn, hbe, HR⟩ := hrel
          clear hBl
          by_cases hlt : k < PS.length
          · obtain ⟨p, hpk⟩ : ∃ p, PS[k]? = some p := ⟨_, List.getElem?_eq_getElem hlt⟩
            have hlo := HLO.out p (List.mem_of_getElem? hpk)
            obtain ⟨n, hn, hn1⟩ := hlo.name
            have hl3 := hlo.len
            have h33 := hlo.three
            have hstep : namesF ((PS.drop k).map (ruOf L)) ns = if (idx ns n.text).isSome then .inr (n.line, n.col, 4) else if 8 ≤ ns.length then .inr (n.line, n.col, 5) else namesF ((PS.drop (k + 1)).map (ruOf L)) (ns ++ [n.text]) := by
              rw [List.drop_eq_getElem_cons hlt, List.map_cons]
              have h1 : PS[k] = p := by rw [List.getElem?_eq_getElem hlt] at hpk; exact Option.some.inj hpk
              have h2 : (ruOf L p).name = n := by
                have hpl' : p.1 < L.length := by omega
                unfold ruOf
                rw [List.drop_eq_getElem_cons hpl']
                rw [List.getElem?_eq_getElem hpl'] at hn
                exact Option.some.inj hn
              rw [h1]
              simp only [namesF, h2]
            obtain ⟨bb, off, rfl, hbbl, hc⟩ := (HUA.out wr hbe).get (tall_nil_iff (by omega))
            obtain ⟨c0, c1, c2, c3⟩ := tok_cells hc hn
            obtain ⟨rb, ro, rfl, hrbl, hrc⟩ := (HUR.out wr hbe).get (by intro e; rw [List.map_eq_nil_iff] at e; exact HPS.out e)
            have r0 : wr.cell? ⟨rb, ro + k, none⟩ = some (.slice (some ⟨bb, off + p.1 * 4, none⟩) p.2 (cap - p.1)) := hrc k _ (by rw [List.getElem?_map, hpk]; rfl)
            have e1 : (k : Int) < PS.length := by omega
            have e2 : (0 : Int) < p.2 := by omega
            obtain ⟨nk, nt, nln, nc⟩ := n
            simp only at c0 c1 c2 c3 hn1
            have HR1 := Lib.hid (HR.out.trans hstep)
            have hbw := hbl.lt
            have HN1 := Lib.hid hn1
            have HFN := Lib.hid (HFR.out _ (List.mem_of_getElem? hn))
            clear hc hrc hn hn1 hstep HR hpk hlo
            cases hi : (idx ns nt).isSome with
            | true =>
              have hc1 := addNon_twice ⟨nk, nt, nln, nc⟩ hbl hnn.nl hi
              unfold tokV at hc1
              simp only at hc1
              have HC1 := Lib.hid hc1
              have hnm : namesF (PS.map (ruOf L)) [] = .inr (nln, nc, 4) := by rw [HR1.out]; simp only [hi]; rfl
              have hpb : parse s.data.toList = .bad nln nc 4 := by rw [HP.out, hnm]
              have HPB := Lib.hid hpb
              have HB3 := Lib.hid (HBS.out.trans (hbe.mono (Nat.le_of_lt hB0)))
              have HSZ := Lib.hid (show w.heap.size ≤ wr.heap.size from Nat.le_trans (Nat.le_of_lt hB0) (Nat.le_of_lt hbw))
              clear hc1 hnm hpb hi HR1 
              go_wp2_with (go_at_call 141; with_reducible refine HC1.out.mono ?_; rintro e w5 ⟨rfl, hb5⟩)
              exact ⟨rfl, HB3.out.trans (hb5.mono HSZ.out), parse_bad HPB.out rfl⟩
            | false =>
              by_cases h8 : ns.length = 8
              · have hc1 := addNon_limit ⟨nk, nt, nln, nc⟩ hbl h8 hi
                unfold tokV at hc1
                simp only at hc1
                have HC1 := Lib.hid hc1
                have hnm : namesF (PS.map (ruOf L)) [] = .inr (nln, nc, 5) := by rw [HR1.out]; simp only [hi]; rw [if_neg (by simp), if_pos (by omega)]
                have hpb : parse s.data.toList = .bad nln nc 5 := by rw [HP.out, hnm]
                have HPB := Lib.hid hpb
                have HB3 := Lib.hid (HBS.out.trans (hbe.mono (Nat.le_of_lt hB0)))
                have HSZ := Lib.hid (show w.heap.size ≤ wr.heap.size from Nat.le_trans (Nat.le_of_lt hB0) (Nat.le_of_lt hbw))
                clear hc1 hnm hpb hi HR1 h8
                go_wp2_with (go_at_call 141; with_reducible refine HC1.out.mono ?_; rintro e w5 ⟨rfl, hb5⟩)
                exact ⟨rfl, HB3.out.trans (hb5.mono HSZ.out), parse_bad HPB.out rfl⟩
              · have hns8 : ns.length < 8 := by have := hnn.nl; omega
                have hc1 := addNon_ok ⟨nk, nt, nln, nc⟩ hbl hns8 hi
                unfold tokV at hc1
                simp only at hc1
                have HC1 := Lib.hid hc1
                have HR2 : Hid (namesF (PS.map (ruOf L)) [] = namesF ((PS.drop (k + 1)).map (ruOf L)) (ns ++ [nt])) := Lib.hid (by rw [HR1.out]; simp only [hi]; rw [if_neg (by simp), if_neg (by omega)])
                have HNN : Hid (Names [] (ns ++ [nt])) := Lib.hid ⟨by simp, by
                  intro x hx
                  rcases List.mem_append.1 hx with hx | hx
                  · exact hnn.nk x hx
                  · rw [List.mem_singleton.1 hx]; exact HFN.out.u HN1.out, by simp, by simp; omega⟩
                clear hc1 hi h8 HR1
                go_wp2_with (go_at_call 141; with_reducible refine HC1.out.mono ?_; rintro e w5 ⟨rfl, hb5, an2, cn2, hbl5⟩)
                go_roundw
                case rel => exact ⟨k + 1, ns ++ [nt], an2, cn2, by omega, by go_num, hbl5, HNN.out, hbe.trans hb5, HR2⟩
                case measure => simp [intOf]; omega
          · have hend : namesF ((PS.drop k).map (ruOf L)) ns = .inl ns := by rw [List.drop_of_length_le (by omega)]; rfl
            have hnm := HR.out.trans hend
            have hp2 := HP.out
            rw [hnm] at hp2
            simp only at hp2
            have HP2 := Lib.hid hp2
            have e1 : ¬ (k : Int) < PS.length := by omega
            clear hend hnm hp2 HR HP
            go_wp2
            go_loopw [49] (fun i w6 => ∃ (k : Nat) (ts : List (List UInt8)) (at' ap' : Option Addr) (ct' cp' : Nat) (ls : List Lay), k ≤ PS.length ∧ i = .int .i64 k ∧ Bld b w6 ts ns ls at' an ap' ct' cn cp' ∧ Names ts ns ∧ ls.length ≤ 24 ∧ Below b S w6 ∧
              Hid (bodiesF ns (PS.map (ruOf L)) 0 [] [] = bodiesF ns ((PS.drop k).map (ruOf L)) k ts (ls.map Lay.plain))) (fun i _ => PS.length - (intOf i).toNat)
            case atStart => exact ⟨0, [], none, none, 0, 0, [], Nat.zero_le _, rfl, hbl, hnn, by simp, hbe, Lib.hid (by simp)⟩
            case round =>
              clear hbl hnn hbe hlt e1 hk
              obtain ⟨k, ts, at', ap', ct', cp', ls, hk, rfl, hbl, hnn, hl24, hbe, HR⟩ := hrel
              rename World => w6
              by_cases hlt : k < PS.length
              · obtain ⟨p, hpk⟩ : ∃ p, PS[k]? = some p := ⟨_, List.getElem?_eq_getElem hlt⟩
                have hlo := HLO.out p (List.mem_of_getElem? hpk)
                have hl3 := hlo.len
                have h33 := hlo.three
                have hstep : bodiesF ns ((PS.drop k).map (ruOf L)) k ts (ls.map Lay.plain) = match partsF ns ((100 + k : Nat) : Int) ((L.drop (p.1 + 2)).take (p.2 - 2)) ts (ls.map Lay.plain) [] (((L.drop (p.1 + 2)).take (p.2 - 2)).headD (ruOf L p).name) with
                    | .inr e => .inr e
                    | .inl (ts', ps') => bodiesF ns ((PS.drop (k + 1)).map (ruOf L)) (k + 1) ts' ps' := by
                  rw [List.drop_eq_getElem_cons hlt, List.map_cons]
                  have h1 : PS[k] = p := by rw [List.getElem?_eq_getElem hlt] at hpk; exact Option.some.inj hpk
                  rw [h1]
                  rfl
                obtain ⟨bb, off, rfl, hbbl, hc⟩ := (HUA.out w6 hbe).get (tall_nil_iff (by omega))
                obtain ⟨rb, ro, rfl, hrbl, hrc⟩ := (HUR.out w6 hbe).get (by intro e; rw [List.map_eq_nil_iff] at e; exact HPS.out e)
                have r0 : w6.cell? ⟨rb, ro + k, none⟩ = some (.slice (some ⟨bb, off + p.1 * 4, none⟩) p.2 (cap - p.1)) := hrc k _ (by rw [List.getElem?_map, hpk]; rfl)
                have hbl2 : ((L.drop (p.1 + 2)).take (p.2 - 2)).length = p.2 - 2 := by rw [List.length_take, List.length_drop]; omega
                have hap := addParts_any ((100 + k : Nat) : Int) (some ⟨bb, off + (p.1 + 2) * 4, none⟩) (cap - p.1 - 2) ((L.drop (p.1 + 2)).take (p.2 - 2)) (ruOf L p).name hbl hnn
                  (fun t ht => ⟨HFR.out t (List.mem_of_mem_drop (List.mem_of_mem_take ht)), hlo.body t ht⟩) hlo.last ((HUA.out.trans hbe).sub (p.1 + 2) (p.2 - 2)) (by omega) (by omega) (by unfold maxLen; omega) hl24
                rw [hbl2, show off + (p.1 + 2) * 4 = off + p.1 * 4 + 8 by omega] at hap
                unfold PartsEnd at hap
                have hK : ((100 + k : Nat) : Int) = 100 + (k : Int) := by push_cast; rfl
                have e1 : (k : Int) < PS.length := by omega
                have i1 : (2 : Int) ≤ p.2 := by omega
                have i2 : (p.2 : Int) ≤ (cap : Int) - p.1 := by omega
                have i3 : ¬ cap - p.1 = 2 := by omega
                have i4 : ((p.2 : Int) - 2).toNat = p.2 - 2 := by omega
                have HR1 := Lib.hid (HR.out.trans hstep)
                have hbw := hbl.lt
                clear hc hrc hstep HR hpk hlo hbl2
                cases hpf : partsF ns ((100 + k : Nat) : Int) ((L.drop (p.1 + 2)).take (p.2 - 2)) ts (ls.map Lay.plain) [] (((L.drop (p.1 + 2)).take (p.2 - 2)).headD (ruOf L p).name) with
                | inr x =>
                  rw [hpf] at hap
                  simp only at hap
                  rw [hK] at hap
                  have HAP := Lib.hid hap
                  have hb1 : bodiesF ns (PS.map (ruOf L)) 0 [] [] = .inr x := by rw [HR1.out, hpf]
                  have hpb : parse s.data.toList = .bad x.1 x.2.1 x.2.2 := by rw [HP2.out, hb1]
                  have HPB := Lib.hid hpb
                  have HB3 := Lib.hid (HBS.out.trans (hbe.mono (Nat.le_of_lt hB0)))
                  clear hap hb1 hpb hpf HR1 hK
                  go_wp2_with (go_at_call 142; with_reducible refine HAP.out.mono ?_; rintro e w5 ⟨hb5, rfl⟩)
                  exact ⟨rfl, HB3.out.trans (hb5.mono (Nat.le_of_lt hB0)), parse_bad HPB.out rfl⟩
                | inl y =>
                  obtain ⟨ts2, ps2⟩ := y
                  rw [hpf] at hap
                  simp only at hap
                  rw [hK] at hap
                  have HAP := Lib.hid hap
                  have hb1 : bodiesF ns (PS.map (ruOf L)) 0 [] [] = bodiesF ns ((PS.drop (k + 1)).map (ruOf L)) (k + 1) ts2 ps2 := by rw [HR1.out, hpf]
                  have HB1 := Lib.hid hb1
                  clear hap hb1 hpf HR1 hK
                  go_wp2_with (go_at_call 142; with_reducible refine HAP.out.mono ?_; rintro e w5 ⟨hb5, rfl, hn5, hl5, at5, ap5, ct5, cp5, ls5, hbl5, hls5⟩)
                  have HL5 := Lib.hid hls5
                  clear hls5
                  go_roundw
                  case rel => exact ⟨k + 1, ts2, at5, ap5, ct5, cp5, ls5, by omega, by go_num, hbl5, hn5, by have := congrArg List.length HL5.out; simp only [List.length_map] at this; omega, hbe.trans hb5, Lib.hid (by rw [HB1.out, HL5.out])⟩
                  case measure => simp [intOf]; omega
              · have hend : bodiesF ns ((PS.drop k).map (ruOf L)) k ts (ls.map Lay.plain) = .inl (ts, ls.map Lay.plain) := by rw [List.drop_of_length_le (by omega)]; rfl
                have hb1 := HR.out.trans hend
                have hp3 := HP2.out
                rw [hb1] at hp3
                simp only at hp3
                have e1 : ¬ (k : Int) < PS.length := by omega
                obtain ⟨d0, d1, d2⟩ := hbl.cell
                clear hend hb1 HR HP2
                by_cases hts : ts = []
                · rw [if_pos hts] at hp3
                  have htl : ((ts.length : Int) == 0) = true := by simp [hts]
                  have HP3 := Lib.hid hp3
                  clear hp3 hts
                  go_wp2
                  exact ⟨rfl, HBS.out.trans (hbe.mono (Nat.le_of_lt hB0)), parse_bad HP3.out rfl⟩
                · rw [if_neg hts] at hp3
                  have htl : ((ts.length : Int) == 0) = false := by simpa using hts
                  have HP3 := Lib.hid hp3
                  obtain ⟨z0, x0⟩ := blk_cell (i := 0) (HQ2.out w6 hbe) rfl
                  obtain ⟨z1, x1⟩ := blk_cell (i := 1) (HQ2.out w6 hbe) rfl
                  obtain ⟨z2, x2⟩ := blk_cell (i := 2) (HQ2.out w6 hbe) rfl
                  clear hp3 hts
                  have hh1 := heap_set w6 w.heap.size 0 (.slice at' ts.length ct') _ _ (HQ2.out w6 hbe) (by simp)
                  have hh2 := heap_set _ w.heap.size 1 (.slice an ns.length cn) _ _ hh1 (by simp)
                  have hh3 := heap_set _ w.heap.size 2 (.slice ap' ls.length cp') _ _ hh2 (by simp)
                  have hks : ∀ k, k ≠ w.heap.size → (((w6.setCell ⟨w.heap.size, 0, none⟩ (.slice at' ts.length ct')).setCell ⟨w.heap.size, 1, none⟩ (.slice an ns.length cn)).setCell ⟨w.heap.size, 2, none⟩ (.slice ap' ls.length cp')).heap[k]? = w6.heap[k]? := fun k hk => by
                    rw [Below.heap_setCell _ _ _ _ hk, Below.heap_setCell _ _ _ _ hk, Below.heap_setCell _ _ _ _ hk]
                  have hblF := hbl.same (hks b (by omega)) (fun g hg => hks g (by have := (own_block hbl.t hg).1; omega)) (fun g hg => hks g (by have := (own_block hbl.n hg).1; omega)) (fun g hg => hks g (by have := (own_block hbl.p hg).1; omega)) (fun q hq g hg => hks g (by have := (own_block (hbl.r q hq) hg).1; omega))
                  have hbF : Below w.heap.size w (((w6.setCell ⟨w.heap.size, 0, none⟩ (.slice at' ts.length ct')).setCell ⟨w.heap.size, 1, none⟩ (.slice an ns.length cn)).setCell ⟨w.heap.size, 2, none⟩ (.slice ap' ls.length cp')) :=
                    (((HBS.out.trans (hbe.mono (Nat.le_of_lt hB0))).setCell (p := ⟨w.heap.size, 0, none⟩) (Nat.le_refl _) _).setCell (p := ⟨w.heap.size, 1, none⟩) (Nat.le_refl _) _).setCell (p := ⟨w.heap.size, 2, none⟩) (Nat.le_refl _) _
                  have HH3 := Lib.hid hh3
                  have hgf : GramFrom w.heap.size (((w6.setCell ⟨w.heap.size, 0, none⟩ (.slice at' ts.length ct')).setCell ⟨w.heap.size, 1, none⟩ (.slice an ns.length cn)).setCell ⟨w.heap.size, 2, none⟩ (.slice ap' ls.length cp')) (.agg #[.slice at' ts.length ct', .slice an ns.length cn, .slice ap' ls.length cp']) ⟨ts, ns, ls.map Lay.plain⟩ := fun W hW =>
                    (hblF.same (hW b (by omega) hblF.lt) (fun g hg => hW g (by have := (own_block hblF.t hg).1; omega) (own_block hblF.t hg).2.1) (fun g hg => hW g (by have := (own_block hblF.n hg).1; omega) (own_block hblF.n hg).2.1) (fun g hg => hW g (by have := (own_block hblF.p hg).1; omega) (own_block hblF.p hg).2.1) (fun q hq g hg => hW g (by have := (own_block (hblF.r q hq) hg).1; omega) (own_block (hblF.r q hq) hg).2.1)).gram
                  have HGF := Lib.hid hgf
                  have HBF := Lib.hid hbF
                  clear hh1 hh2 hh3 hks hblF hbF hgf
                  go_wp2
                  (try simp only [Exit.inBlock, Exit.then])
                  refine bodyPost_ret (v := .agg #[.slice at' ts.length ct', .slice an ns.length cn, .slice ap' ls.length cp']) ?_ rfl ⟨HBF.out, ?_⟩
                  · rw [results_cell1 (p := 2) (ty := 28) rfl]
                    show ((asAddr (.pointer (some ⟨w.heap.size, 0, none⟩))).run _ _).andThen _ = _
                    show (loadVar 28 ⟨w.heap.size, 0, none⟩).run _ _ = _
                    exact run_loadVar_row _ w.heap.size 28 28 _ (0, 0) _ (HH3.out.trans (by simp)) Try.underlying28 rfl (by kernel_rfl)
                  · unfold ReadEnd
                    rw [HP3.out]
                    exact ⟨_, rfl, HGF.out⟩
  · have hto2 : ∀ W : World, Calls Try.prog 138 #[.string s] W fun e w' => e = .returned (.tuple #[.slice none 0 0, .int .i64 ln, .int .i64 cl, .int .i64 2]) ∧ Below W.heap.size W w' := fun W => (hto W).mono fun e w' ⟨hb, he⟩ => by
      unfold TokEnd at he
      rw [htx, if_neg h0] at he
      exact ⟨he, hb⟩
    have hp : parse s.data.toList = .bad ln cl 2 := by unfold parse; rw [htx]; exact if_pos h0
    have HP := Lib.hid hp
    have HT := Lib.hid hto2
    clear hp hto2 hto htx h0
    go_wp2_with (go_at_call 138; refine (HT.out _).mono ?_; rintro e w2 ⟨rfl, hb2⟩)
    exact ⟨rfl, ((Below.refl _ _).alloc (Nat.le_refl _) _).trans (hb2.mono (by simp)), parse_bad HP.out rfl⟩

end Go.Proofs.Ytjlohjkhnjemaaa

namespace Go.Proofs.Ytjlohjkhnjemaaa
open Go.RowKit
open Doc

theorem frame22 (p q r v : Value) : #[p, q, r] ++ ((Array.replicate 19 undef).setIfInBounds 3 v).setIfInBounds 0 v = #[p, q, r, v, undef, undef, v, undef, undef, undef, undef, undef, undef, undef, undef, undef, undef, undef, undef, undef, undef, undef] := by
  apply Array.ext'
  simp [List.replicate]

theorem ta_nil (w : World) : (Instr.typeAssert .nilIface 20 162 true).run Try.prog w = .ok (.tuple #[.agg #[.int .i64 0, .int .i64 0, .int .i64 0], .bool false]) w := by kernel_rfl
theorem ta_fault (v : Value) (w : World) : (Instr.typeAssert (.iface 162 v) 20 162 true).run Try.prog w = .ok (.tuple #[v, .bool true]) w := by kernel_rfl
theorem ne_nil (w : World) : (binOp .neq 20 .nilIface .nilIface).run Try.prog w = .ok (.bool false) w := by kernel_rfl

set_option maxRecDepth 100000 in
theorem catch_idle (a b c : Nat) (w : World) :
    CallsD Try.prog 110 #[.pointer (some ⟨a, 0, none⟩), .pointer (some ⟨b, 0, none⟩), .pointer (some ⟨c, 0, none⟩)] .returning w fun e u' w' => e = .returned (.tuple #[]) ∧ u' = .returning ∧ Below w.heap.size w w' := by
  refine callsD_of_wpS Try.func110 rfl fun c₀ cs hu => ?_
  apply wpS_seq
  apply wpS_region
  simp [wpOpsS, go_sem, recoverD, hu, Try.ntmps110, Exit.thenS]
  refine wpS_of_wp ?_
  have h1 := ta_nil
  have h2 := ne_nil
  have hb : ∀ o, Below w.heap.size w (w.alloc o) := fun o => (Below.refl _ _).alloc (Nat.le_refl _) o
  have HB := Lib.hid hb
  clear hb
  rw [frame22]
  go_wp2
  exact ⟨rfl, .returning, by rw [← hu], .tuple #[], results_none rfl _ _ _, rfl, rfl, HB.out _⟩

set_option maxRecDepth 100000 in
set_option maxHeartbeats 1000000 in
theorem catch_fault (B : Nat) (l k x : Nat) (ca cb cc : Value) (w : World) (ha : w.heap[B + 1]? = some (.cells #[ca] 3)) (hb : w.heap[B + 2]? = some (.cells #[cb] 3)) (hc : w.heap[B + 3]? = some (.cells #[cc] 30)) :
    CallsD Try.prog 110 #[.pointer (some ⟨B + 1, 0, none⟩), .pointer (some ⟨B + 2, 0, none⟩), .pointer (some ⟨B + 3, 0, none⟩)] (.panicking ({ v := faultV l k x, recovered := false } :: [])) w fun e u' w' =>
      e = .returned (.tuple #[]) ∧ u' = .panicking ({ v := faultV l k x, recovered := true } :: []) ∧ Below (B + 1) w w' ∧ (∀ q, q < w.heap.size → q ≠ B + 1 → q ≠ B + 2 → q ≠ B + 3 → w'.heap[q]? = w.heap[q]?) ∧ w'.heap[B + 1]? = some (.cells #[.int .i64 l] 3) ∧ w'.heap[B + 2]? = some (.cells #[.int .i64 k] 3) ∧ w'.heap[B + 3]? = some (.cells #[.int .i64 x] 30) := by
  refine callsD_of_wpS Try.func110 rfl fun c₀ cs hu => ?_
  unfold faultV at *
  apply wpS_seq
  apply wpS_region
  simp [wpOpsS, go_sem, recoverD, hu, Try.ntmps110, Exit.thenS]
  refine wpS_of_wp ?_
  have h1 := ta_fault
  rw [frame22]
  go_wp2
  have hS : Below w.heap.size w (w.alloc (.cells #[.int .i64 l, .int .i64 k, .int .i64 x] 162)) := (Below.refl _ _).alloc (Nat.le_refl _) _
  have l3 := heap_lt hc
  have hf := heap_alloc_new w (.cells #[.int .i64 l, .int .i64 k, .int .i64 x] 162)
  have f0 := (blk_cell (i := 0) hf rfl).1
  have f1 := (blk_cell (i := 1) hf rfl).1
  have f2 := (blk_cell (i := 2) hf rfl).1
  have ha' := (hS.block _ (heap_lt ha)).trans ha
  have hb' := (hS.block _ (heap_lt hb)).trans hb
  have hc' := (hS.block _ (heap_lt hc)).trans hc
  obtain ⟨a0, az⟩ := blk_cell (i := 0) ha' rfl
  obtain ⟨b0, bz⟩ := blk_cell (i := 0) hb' rfl
  obtain ⟨c0, cz⟩ := blk_cell (i := 0) hc' rfl
  have HA := Lib.hid ha'
  have HBb := Lib.hid hb'
  have HC := Lib.hid hc'
  have HS := Lib.hid hS
  clear ha hb hc hf ha' hb' hc' hS h1
  have hz : B + 3 < (w.alloc (.cells #[.int .i64 l, .int .i64 k, .int .i64 x] 162)).heap.size := by simp; omega
  have hn1 : w.heap.size ≠ B + 1 := by omega
  have hn2 : w.heap.size ≠ B + 2 := by omega
  have hn3 : w.heap.size ≠ B + 3 := by omega
  generalize w.alloc (.cells #[.int .i64 l, .int .i64 k, .int .i64 x] 162) = W at *
  go_region
  have h1 := heap_set W (B + 1) 0 (.int .i64 l) _ _ HA.out (by simp)
  have h2 := heap_set (W.setCell ⟨B + 1, 0, none⟩ (.int .i64 l)) (B + 2) 0 (.int .i64 k) _ _ ((Below.heap_setCell W _ _ _ (by show B + 2 ≠ B + 1; omega)).trans HBb.out) (by simp)
  have h3 := heap_set ((W.setCell ⟨B + 1, 0, none⟩ (.int .i64 l)).setCell ⟨B + 2, 0, none⟩ (.int .i64 k)) (B + 3) 0 (.int .i64 x) _ _ (((Below.heap_setCell _ _ _ _ (by show B + 3 ≠ B + 2; omega)).trans (Below.heap_setCell W _ _ _ (by show B + 3 ≠ B + 1; omega))).trans HC.out) (by simp)
  refine ⟨rfl, _, rfl, .tuple #[], results_none rfl _ _ _, rfl, rfl, ?_, ?_, ?_, ?_, ?_⟩
  · exact ((((HS.out.mono (show B + 1 ≤ w.heap.size by omega)).setCell (p := ⟨B + 1, 0, none⟩) (Nat.le_refl _) _).setCell (p := ⟨B + 2, 0, none⟩) (by show B + 1 ≤ B + 2; omega) _).setCell (p := ⟨B + 3, 0, none⟩) (by show B + 1 ≤ B + 3; omega) _).drew
  · intro q hq q1 q2 q3
    show (((W.setCell ⟨B + 1, 0, none⟩ (.int .i64 l)).setCell ⟨B + 2, 0, none⟩ (.int .i64 k)).setCell ⟨B + 3, 0, none⟩ (.int .i64 x)).heap[q]? = _
    rw [Below.heap_setCell _ _ _ _ q3, Below.heap_setCell _ _ _ _ q2, Below.heap_setCell _ _ _ _ q1, HS.out.block q hq]
  · show (((W.setCell ⟨B + 1, 0, none⟩ (.int .i64 l)).setCell ⟨B + 2, 0, none⟩ (.int .i64 k)).setCell ⟨B + 3, 0, none⟩ (.int .i64 x)).heap[B + 1]? = _
    rw [Below.heap_setCell _ _ _ _ (by show B + 1 ≠ B + 3; omega), Below.heap_setCell _ _ _ _ (by show B + 1 ≠ B + 2; omega), h1]
    rfl
  · show (((W.setCell ⟨B + 1, 0, none⟩ (.int .i64 l)).setCell ⟨B + 2, 0, none⟩ (.int .i64 k)).setCell ⟨B + 3, 0, none⟩ (.int .i64 x)).heap[B + 2]? = _
    rw [Below.heap_setCell _ _ _ _ (by show B + 2 ≠ B + 3; omega), h2]
    rfl
  · exact h3

theorem four (w : World) (o0 o1 o2 o3 : Obj) : Below w.heap.size w ((((w.alloc o0).alloc o1).alloc o2).alloc o3) ∧ ((((w.alloc o0).alloc o1).alloc o2).alloc o3).heap.size = w.heap.size + 4 ∧
    ((((w.alloc o0).alloc o1).alloc o2).alloc o3).heap[w.heap.size]? = some o0 ∧ ((((w.alloc o0).alloc o1).alloc o2).alloc o3).heap[w.heap.size + 1]? = some o1 ∧
    ((((w.alloc o0).alloc o1).alloc o2).alloc o3).heap[w.heap.size + 2]? = some o2 ∧ ((((w.alloc o0).alloc o1).alloc o2).alloc o3).heap[w.heap.size + 3]? = some o3 := by
  refine ⟨((((Below.refl _ _).alloc (Nat.le_refl _) _).alloc (by simp) _).alloc (by simp <;> omega) _).alloc (by simp <;> omega) _, by simp, ?_, ?_, ?_, ?_⟩
  · rw [Below.heap_alloc _ _ _ (by simp <;> omega), Below.heap_alloc _ _ _ (by simp <;> omega), Below.heap_alloc _ _ _ (by simp)]; exact heap_alloc_new w o0
  · rw [Below.heap_alloc _ _ _ (by simp <;> omega), Below.heap_alloc _ _ _ (by simp)]; have := heap_alloc_new (w.alloc o0) o1; simpa using this
  · rw [Below.heap_alloc _ _ _ (by simp)]; have := heap_alloc_new ((w.alloc o0).alloc o1) o2; simpa using this
  · have := heap_alloc_new (((w.alloc o0).alloc o1).alloc o2) o3; simpa using this

/-- How Parse ends. -/
def ParseEnd (B : Nat) (t : List UInt8) (e : Ending) (w' : World) : Prop :=
  match parse t with
  | .ok g => ∃ v, e = .returned (.tuple #[v, .int .i64 0, .int .i64 0, .int .i64 0]) ∧ GramFrom B w' v g
  | .bad l c x => e = .returned (.tuple #[.agg #[.slice none 0 0, .slice none 0 0, .slice none 0 0], .int .i64 l, .int .i64 c, .int .i64 x])

theorem results_cells4 {fn : Func} {p0 p1 p2 p3 : Tmp} {t0 t1 t2 t3 : TypeId} (h : fn.results = #[.cell p0 t0, .cell p1 t1, .cell p2 t2, .cell p3 t3]) {tmps : Array Value} {P : Program} {w : World} {a0 a1 a2 a3 : Addr} {v0 v1 v2 v3 : Value}
    (h0 : tmps.getD p0 undef = .pointer (some a0)) (h1 : tmps.getD p1 undef = .pointer (some a1)) (h2 : tmps.getD p2 undef = .pointer (some a2)) (h3 : tmps.getD p3 undef = .pointer (some a3))
    (l0 : (loadVar t0 a0).run P w = .ok v0 w) (l1 : (loadVar t1 a1).run P w = .ok v1 w) (l2 : (loadVar t2 a2).run P w = .ok v2 w) (l3 : (loadVar t3 a3).run P w = .ok v3 w) :
    (results fn tmps).run P w = .ok (.tuple #[v0, v1, v2, v3]) w := by
  simp only [results, h]
  simp at h0 h1 h2 h3
  simp [Sem.run_bind, Result.andThen, h0, h1, h2, h3, l0, l1, l2, l3, asAddr]

theorem loadInt {w : World} {b : Nat} {v : Value} (h : w.heap[b]? = some (.cells (#[.int .i64 0].set! 0 v) 3)) : (loadVar 3 ⟨b, 0, none⟩).run Try.prog w = .ok v w := by
  have hc := (blk_cell (i := 0) (u := v) h (by simp)).1
  simp [go_sem, loadVar, hc]
theorem loadErr {w : World} {b : Nat} {v : Value} (h : w.heap[b]? = some (.cells (#[.int .i64 0].set! 0 v) 30)) : (loadVar 30 ⟨b, 0, none⟩).run Try.prog w = .ok v w := by
  have hc := (blk_cell (i := 0) (u := v) h (by simp)).1
  simp [go_sem, loadVar, hc]

set_option maxRecDepth 100000 in
set_option maxHeartbeats 2000000 in
theorem parse_any (s : ByteArray) (w : World) (hs : s.size ≤ 1000000) :
    Calls Try.prog 65 #[.string s] w fun e w' => Below w.heap.size w w' ∧ ParseEnd w.heap.size s.data.toList e w' := by
  have hmf : ∀ (fn : Fn) (first cap : Array Value) (w : World), (Instr.makeFunc fn first cap).run Try.prog w = .ok (.func fn first cap) w := fun _ _ _ _ => rfl
  have hrd := fun W => read_any s W hs
  unfold ReadEnd at hrd
  cases hp : parse s.data.toList with
  | ok g =>
    rw [hp] at hrd
    simp only at hrd
    obtain ⟨f4, fz, f0, f1, f2, f3⟩ := four w (.cells #[.slice none 0 0, .slice none 0 0, .slice none 0 0] 28) (.cells #[.int .i64 0] 3) (.cells #[.int .i64 0] 3) (.cells #[.int .i64 0] 30)
    have F4 := Lib.hid f4
    have FZ := Lib.hid fz
    have F0 := Lib.hid f0
    have F1 := Lib.hid f1
    have F2 := Lib.hid f2
    have F3 := Lib.hid f3
    clear f4 fz f0 f1 f2 f3
    have HRD := Lib.hid hrd
    clear hrd
    go_enter_defers Try.func65, Try.ntmps65
    go_wp2_with (go_at_call 111; refine (HRD.out _).mono ?_; rintro e w2 ⟨hb2, v, rfl, hg2⟩; have hg3 := hg2.at_; obtain ⟨a1, a2, a3, c1, c2, c3, ls, rfl, _⟩ := hg3; have HG2 := Lib.hid hg2; clear hg2; have q0 := (hb2.block _ (heap_lt F0.out)).trans F0.out; have q1 := (hb2.block _ (heap_lt F1.out)).trans F1.out; have q2 := (hb2.block _ (heap_lt F2.out)).trans F2.out; have q3 := (hb2.block _ (heap_lt F3.out)).trans F3.out; obtain ⟨c00, z00⟩ := blk_cell (i := 0) q0 rfl; obtain ⟨c01, z01⟩ := blk_cell (i := 1) q0 rfl; obtain ⟨c02, z02⟩ := blk_cell (i := 2) q0 rfl; obtain ⟨c10, z10⟩ := blk_cell (i := 0) q1 rfl; obtain ⟨c20, z20⟩ := blk_cell (i := 0) q2 rfl; obtain ⟨c30, z30⟩ := blk_cell (i := 0) q3 rfl; have hbw : Below w.heap.size w w2 := F4.out.trans (hb2.mono F4.out.size); have hsz : w.heap.size + 3 < w2.heap.size := heap_lt q3; have HQ0 := Lib.hid q0; have HQ1 := Lib.hid q1; have HQ2 := Lib.hid q2; have HQ3 := Lib.hid q3; have HBW := Lib.hid hbw; clear q0 q1 q2 q3 hb2 hbw)
    have h1 := heap_set w2 w.heap.size 0 (.slice a1 g.terms.length c1) _ _ HQ0.out (by simp)
    have h2 := heap_set _ w.heap.size 1 (.slice a2 g.nons.length c2) _ _ h1 (by simp)
    have h3 := heap_set _ w.heap.size 2 (.slice a3 ls.length c3) _ _ h2 (by simp)
    have hk3 : ∀ k, k ≠ w.heap.size → (((w2.setCell ⟨w.heap.size, 0, none⟩ (.slice a1 g.terms.length c1)).setCell ⟨w.heap.size, 1, none⟩ (.slice a2 g.nons.length c2)).setCell ⟨w.heap.size, 2, none⟩ (.slice a3 ls.length c3)).heap[k]? = w2.heap[k]? := fun k hk => by
      rw [Below.heap_setCell _ _ _ _ hk, Below.heap_setCell _ _ _ _ hk, Below.heap_setCell _ _ _ _ hk]
    have hs3 : (((w2.setCell ⟨w.heap.size, 0, none⟩ (.slice a1 g.terms.length c1)).setCell ⟨w.heap.size, 1, none⟩ (.slice a2 g.nons.length c2)).setCell ⟨w.heap.size, 2, none⟩ (.slice a3 ls.length c3)).heap.size = w2.heap.size := by simp [World.setCell]
    have hb3 : Below w.heap.size w (((w2.setCell ⟨w.heap.size, 0, none⟩ (.slice a1 g.terms.length c1)).setCell ⟨w.heap.size, 1, none⟩ (.slice a2 g.nons.length c2)).setCell ⟨w.heap.size, 2, none⟩ (.slice a3 ls.length c3)) :=
      ((HBW.out.setCell (p := ⟨w.heap.size, 0, none⟩) (Nat.le_refl _) _).setCell (p := ⟨w.heap.size, 1, none⟩) (Nat.le_refl _) _).setCell (p := ⟨w.heap.size, 2, none⟩) (Nat.le_refl _) _
    generalize ((w2.setCell ⟨w.heap.size, 0, none⟩ (.slice a1 g.terms.length c1)).setCell ⟨w.heap.size, 1, none⟩ (.slice a2 g.nons.length c2)).setCell ⟨w.heap.size, 2, none⟩ (.slice a3 ls.length c3) = W3 at *
    have h4 := heap_set W3 (w.heap.size + 1) 0 (.int .i64 0) _ _ ((hk3 _ (by omega)).trans HQ1.out) (by simp)
    have h5 := heap_set (W3.setCell ⟨w.heap.size + 1, 0, none⟩ (.int .i64 0)) (w.heap.size + 2) 0 (.int .i64 0) _ _ ((Below.heap_setCell _ _ _ _ (by show w.heap.size + 2 ≠ w.heap.size + 1; omega)).trans ((hk3 _ (by omega)).trans HQ2.out)) (by simp)
    have h6 := heap_set ((W3.setCell ⟨w.heap.size + 1, 0, none⟩ (.int .i64 0)).setCell ⟨w.heap.size + 2, 0, none⟩ (.int .i64 0)) (w.heap.size + 3) 0 (.int .i64 0) _ _ (((Below.heap_setCell _ _ _ _ (by show w.heap.size + 3 ≠ w.heap.size + 2; omega)).trans (Below.heap_setCell _ _ _ _ (by show w.heap.size + 3 ≠ w.heap.size + 1; omega))).trans ((hk3 _ (by omega)).trans HQ3.out)) (by simp)
    have hkF : ∀ k, k ≠ w.heap.size + 1 → k ≠ w.heap.size + 2 → k ≠ w.heap.size + 3 → (((W3.setCell ⟨w.heap.size + 1, 0, none⟩ (.int .i64 0)).setCell ⟨w.heap.size + 2, 0, none⟩ (.int .i64 0)).setCell ⟨w.heap.size + 3, 0, none⟩ (.int .i64 0)).heap[k]? = W3.heap[k]? := fun k k1 k2 k3 => by
      rw [Below.heap_setCell _ _ _ _ k3, Below.heap_setCell _ _ _ _ k2, Below.heap_setCell _ _ _ _ k1]
    have g1 := (Below.heap_setCell ((W3.setCell ⟨w.heap.size + 1, 0, none⟩ (.int .i64 0)).setCell ⟨w.heap.size + 2, 0, none⟩ (.int .i64 0)) ⟨w.heap.size + 3, 0, none⟩ (.int .i64 0) (w.heap.size + 1) (by show w.heap.size + 1 ≠ w.heap.size + 3; omega)).trans ((Below.heap_setCell _ _ _ _ (by show w.heap.size + 1 ≠ w.heap.size + 2; omega)).trans h4)
    have g2 := (Below.heap_setCell ((W3.setCell ⟨w.heap.size + 1, 0, none⟩ (.int .i64 0)).setCell ⟨w.heap.size + 2, 0, none⟩ (.int .i64 0)) ⟨w.heap.size + 3, 0, none⟩ (.int .i64 0) (w.heap.size + 2) (by show w.heap.size + 2 ≠ w.heap.size + 3; omega)).trans h5
    have g0 := (hkF w.heap.size (by omega) (by omega) (by omega)).trans h3
    have hsF : (((W3.setCell ⟨w.heap.size + 1, 0, none⟩ (.int .i64 0)).setCell ⟨w.heap.size + 2, 0, none⟩ (.int .i64 0)).setCell ⟨w.heap.size + 3, 0, none⟩ (.int .i64 0)).heap.size = w2.heap.size := by rw [← hs3]; simp [World.setCell]
    have hbF : Below w.heap.size w (((W3.setCell ⟨w.heap.size + 1, 0, none⟩ (.int .i64 0)).setCell ⟨w.heap.size + 2, 0, none⟩ (.int .i64 0)).setCell ⟨w.heap.size + 3, 0, none⟩ (.int .i64 0)) :=
      ((hb3.setCell (p := ⟨w.heap.size + 1, 0, none⟩) (by show w.heap.size ≤ w.heap.size + 1; omega) _).setCell (p := ⟨w.heap.size + 2, 0, none⟩) (by show w.heap.size ≤ w.heap.size + 2; omega) _).setCell (p := ⟨w.heap.size + 3, 0, none⟩) (by show w.heap.size ≤ w.heap.size + 3; omega) _
    have hgF := HG2.out.same (w' := ((W3.setCell ⟨w.heap.size + 1, 0, none⟩ (.int .i64 0)).setCell ⟨w.heap.size + 2, 0, none⟩ (.int .i64 0)).setCell ⟨w.heap.size + 3, 0, none⟩ (.int .i64 0)) (Nat.le_of_eq hsF.symm) (fun k hk1 hk2 => by rw [FZ.out] at hk1; rw [hkF k (by omega) (by omega) (by omega), hk3 k (by omega)])
    rw [FZ.out] at hgF
    generalize ((W3.setCell ⟨w.heap.size + 1, 0, none⟩ (.int .i64 0)).setCell ⟨w.heap.size + 2, 0, none⟩ (.int .i64 0)).setCell ⟨w.heap.size + 3, 0, none⟩ (.int .i64 0) = WF at *
    clear h1 h2 h3 h4 h5 hk3 hkF hb3 c00 z00 c01 z01 c02 z02 c10 z10 c20 z20 c30 z30
    refine leaves_cons (f := 110) (args := #[.pointer (some ⟨w.heap.size + 1, 0, none⟩), .pointer (some ⟨w.heap.size + 2, 0, none⟩), .pointer (some ⟨w.heap.size + 3, 0, none⟩)]) (by simp) (by simp [go_sem]) ?_
    refine (catch_idle (w.heap.size + 1) (w.heap.size + 2) (w.heap.size + 3) WF).mono ?_
    rintro e u' w4 ⟨rfl, rfl, hb4⟩
    have r0 := (hb4.block _ (heap_lt g0)).trans g0
    have r1 := (hb4.block _ (heap_lt g1)).trans g1
    have r2 := (hb4.block _ (heap_lt g2)).trans g2
    have h6r := (hb4.block _ (heap_lt h6)).trans h6
    refine ⟨_, results_cells4 (p0 := 2) (p1 := 3) (p2 := 4) (p3 := 5) (t0 := 28) (t1 := 3) (t2 := 3) (t3 := 30) rfl rfl rfl rfl rfl
      (run_loadVar_row _ w.heap.size 28 28 #[.slice a1 g.terms.length c1, .slice a2 g.nons.length c2, .slice a3 ls.length c3] (0, 0) _ (r0.trans (by simp)) Try.underlying28 rfl (by kernel_rfl))
      (loadInt r1) (loadInt r2) (loadErr h6r), ?_⟩
    refine ⟨hbF.trans (hb4.mono hbF.size), ?_⟩
    unfold ParseEnd
    rw [hp]
    exact ⟨_, rfl, fun W hW => (hgF.same hb4.size (fun k _ h => hb4.block k h)) W fun k h1 h2 => hW k (by omega) h2⟩
  | bad l c x =>
    rw [hp] at hrd
    simp only at hrd
    obtain ⟨f4, fz, f0, f1, f2, f3⟩ := four w (.cells #[.slice none 0 0, .slice none 0 0, .slice none 0 0] 28) (.cells #[.int .i64 0] 3) (.cells #[.int .i64 0] 3) (.cells #[.int .i64 0] 30)
    have F4 := Lib.hid f4
    have FZ := Lib.hid fz
    have F0 := Lib.hid f0
    have F1 := Lib.hid f1
    have F2 := Lib.hid f2
    have F3 := Lib.hid f3
    clear f4 fz f0 f1 f2 f3
    have HRD := Lib.hid hrd
    clear hrd
    go_enter_defers Try.func65, Try.ntmps65
    go_wp2_with (go_at_call 111; refine (HRD.out _).mono ?_; rintro e w2 ⟨hb2, rfl⟩; have q0 := (hb2.block _ (heap_lt F0.out)).trans F0.out; have q1 := (hb2.block _ (heap_lt F1.out)).trans F1.out; have q2 := (hb2.block _ (heap_lt F2.out)).trans F2.out; have q3 := (hb2.block _ (heap_lt F3.out)).trans F3.out; obtain ⟨c00, z00⟩ := blk_cell (i := 0) q0 rfl; obtain ⟨c01, z01⟩ := blk_cell (i := 1) q0 rfl; obtain ⟨c02, z02⟩ := blk_cell (i := 2) q0 rfl; obtain ⟨c10, z10⟩ := blk_cell (i := 0) q1 rfl; obtain ⟨c20, z20⟩ := blk_cell (i := 0) q2 rfl; obtain ⟨c30, z30⟩ := blk_cell (i := 0) q3 rfl; have hbw : Below w.heap.size w w2 := F4.out.trans (hb2.mono F4.out.size); have hsz : w.heap.size + 3 < w2.heap.size := heap_lt q3; have HQ0 := Lib.hid q0; have HQ1 := Lib.hid q1; have HQ2 := Lib.hid q2; have HQ3 := Lib.hid q3; have HBW := Lib.hid hbw; clear q0 q1 q2 q3 hb2 hbw)
    refine leaves_cons (f := 110) (args := #[.pointer (some ⟨w.heap.size + 1, 0, none⟩), .pointer (some ⟨w.heap.size + 2, 0, none⟩), .pointer (some ⟨w.heap.size + 3, 0, none⟩)]) (by simp) (by simp [go_sem]) ?_
    refine (catch_fault w.heap.size l c x _ _ _ w2 HQ1.out HQ2.out HQ3.out).mono ?_
    rintro e u' w4 ⟨rfl, rfl, hb4, hk4, r1, r2, r3⟩
    have r0 := (hk4 w.heap.size (by omega) (by omega) (by omega) (by omega)).trans HQ0.out
    refine ⟨_, results_cells4 (p0 := 2) (p1 := 3) (p2 := 4) (p3 := 5) (t0 := 28) (t1 := 3) (t2 := 3) (t3 := 30) rfl rfl rfl rfl rfl
      (run_loadVar_row _ w.heap.size 28 28 #[.slice none 0 0, .slice none 0 0, .slice none 0 0] (0, 0) _ r0 Try.underlying28 rfl (by kernel_rfl))
      (loadInt (by simpa using r1)) (loadInt (by simpa using r2)) (loadErr (by simpa using r3)), ?_⟩
    refine ⟨HBW.out.trans (hb4.mono (by omega)), ?_⟩
    unfold ParseEnd
    rw [hp]

end Go.Proofs.Ytjlohjkhnjemaaa
