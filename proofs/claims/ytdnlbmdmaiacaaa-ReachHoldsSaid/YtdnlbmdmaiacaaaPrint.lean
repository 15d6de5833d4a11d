/- A good grammar's text, and what it is read as. No program here. -/
import Derived.Test.YtdnlbmdmaiacaaaBack
import Derived.Test.YtdnlbmdmaiacaaaCat
namespace Go.Proofs.Ytdnlbmdmaiacaaa.Doc

def partTxt (g : Gr) (r : List Int) : List UInt8 := r.flatMap fun s => 32 :: symName g s
def partsTxt (g : Gr) : List (List Int) → List UInt8
  | [] => []
  | [r] => partTxt g r
  | r :: q :: l => partTxt g r ++ 32 :: 124 :: partsTxt g (q :: l)
def linesTxt (g : Gr) : List (List UInt8) → List (List (List Int)) → List UInt8
  | n :: ns, r :: rs => (n ++ 58 :: partsTxt g r) ++ 10 :: linesTxt g ns rs
  | _, _ => []

/-- A line's rest is these tokens, wherever it stands. -/
def LinIs (R : List UInt8) (bs : List Bare) : Prop := ∀ line col, 0 < col → (lin R line col).2 = 0 ∧ (lin R line col).1.map bare = bs

/-- What does not go on a word. -/
def Parted (R : List UInt8) : Prop := ∀ c l, R = c :: l → word c = false

theorem rowLen_app : ∀ (n R : List UInt8), rowLen n = n.length → rowLen (n ++ R) = n.length + rowLen R
  | [], R, _ => by simp
  | c :: l, R, h => by
    have hl := rowLen_le l
    simp only [rowLen, List.length_cons] at h
    split at h
    · rename_i hw
      have ih := rowLen_app l R (by omega)
      simp only [List.cons_append, rowLen, hw, if_true, ih, List.length_cons]
      omega
    · omega
theorem rowLen_parted {R : List UInt8} (h : Parted R) : rowLen R = 0 := by
  cases R with
  | nil => rfl
  | cons c l => simp [rowLen, h c l rfl]
theorem rowLen_all : ∀ {n : List UInt8}, rowLen n = n.length → ∀ c ∈ n, word c = true
  | [], _, c, hc => by simp at hc
  | d :: l, h, c, hc => by
    have hl := rowLen_le l
    simp only [rowLen, List.length_cons] at h
    split at h
    · rename_i hw
      rcases List.mem_cons.1 hc with rfl | hc
      · exact hw
      · exact rowLen_all (by omega) c hc
    · omega

theorem kind_name {n : List UInt8} (h : kindOf n ≠ 0) : nameOk n = true := by
  cases n with
  | nil => simp [kindOf] at h
  | cons c l =>
    have e : kindOf (c :: l) = if nameOk (c :: l) = true then (if up c = true then 1 else 2) else 0 := rfl
    rw [e] at h
    cases hn : nameOk (c :: l) with
    | true => rfl
    | false => rw [hn] at h; simp at h
theorem name_row {n : List UInt8} (h : nameOk n = true) : rowLen n = n.length ∧ ∃ c l, n = c :: l ∧ lett c = true := by
  cases n with
  | nil => simp [nameOk] at h
  | cons c l =>
    simp only [nameOk, Bool.and_eq_true, decide_eq_true_eq] at h
    exact ⟨by rw [h.2]; rfl, c, l, rfl, h.1.2⟩
theorem name_ten {n : List UInt8} (h : nameOk n = true) : ∀ c ∈ n, c ≠ 10 := by
  intro c hc he
  have := rowLen_all (name_row h).1 c hc
  rw [he] at this
  exact absurd this (by decide)

theorem lin_word {n R : List UInt8} {bs : List Bare} (hk : kindOf n ≠ 0) (hp : Parted R) (h : LinIs R bs) : LinIs (n ++ R) ((kindOf n, n) :: bs) := by
  intro line col hc
  have hn := kind_name hk
  obtain ⟨hrow, c, l, rfl, hl⟩ := name_row hn
  have hr := rowLen_app (c :: l) R hrow
  rw [rowLen_parted hp, Nat.add_zero] at hr
  have hw : word c = true := by simp [word, hl]
  have hne : c ≠ 32 ∧ c ≠ 35 ∧ c ≠ 58 ∧ c ≠ 124 := by
    refine ⟨?_, ?_, ?_, ?_⟩ <;> (rintro rfl; exact absurd hl (by decide))
  have hpc : piece c (l ++ R) = (kindOf (c :: l), (c :: l).length) := by
    simp only [List.cons_append] at hr
    unfold piece
    rw [if_neg hne.1, if_neg hne.2.1, if_neg hne.2.2.1, if_neg hne.2.2.2, hr, ← List.cons_append, List.take_left]
  have h9 : kindOf (c :: l) ≠ 9 := by have := kindOf_lt (c :: l); omega
  have h2 := h line (col + (c :: l).length) (by omega)
  rw [List.cons_append, lin_cons, hpc]
  simp only [if_neg hk, if_neg h9]
  rw [← List.cons_append, List.drop_left, List.take_left]
  exact ⟨h2.1, by rw [List.map_cons, h2.2]; rfl⟩

theorem lin_sign {R : List UInt8} {bs : List Bare} (c : UInt8) (k : Nat) (hk : ∀ l, piece c l = (k, 1)) (h0 : k ≠ 0) (h9 : k ≠ 9) (h : LinIs R bs) : LinIs (c :: R) ((k, [c]) :: bs) := by
  intro line col hc
  have h2 := h line (col + 1) (by omega)
  rw [lin_cons, hk]
  simp only [if_neg h0, if_neg h9, List.drop_succ_cons, List.drop_zero, List.take_succ_cons, List.take_zero]
  exact ⟨h2.1, by rw [List.map_cons, h2.2]; rfl⟩
theorem lin_blank {R : List UInt8} {bs : List Bare} (h : LinIs R bs) : LinIs (32 :: R) bs := by
  intro line col hc
  have h2 := h line (col + 1) (by omega)
  rw [lin_cons, show ∀ l, piece 32 l = (9, 1) from fun l => rfl]
  simp only [if_true, List.drop_succ_cons, List.drop_zero]
  exact h2

theorem sym_tok {g : Gr} (h : Good g) {s : Int} (hs : symOk g.terms.length g.nons.length s) : symTok g s = (kindOf (symName g s), symName g s) ∧ kindOf (symName g s) ≠ 0 := by
  have htl := h.v.tl
  unfold symTok symName
  by_cases h100 : 100 ≤ s
  · have hk : (s - 100).toNat < g.nons.length := by unfold symOk at hs; omega
    have := h.nk _ (List.getElem_mem hk)
    rw [if_pos h100, if_pos h100, List.getD_eq_getElem?_getD, List.getElem?_eq_getElem hk]
    simp only [Option.getD_some]
    rw [this]; simp
  · have hk : (s - 1).toNat < g.terms.length := by unfold symOk at hs; omega
    have := h.v.tk _ (List.getElem_mem hk)
    rw [if_neg h100, if_neg h100, List.getD_eq_getElem?_getD, List.getElem?_eq_getElem hk]
    simp only [Option.getD_some]
    rw [this]; simp

theorem part_parted (g : Gr) (r : List Int) (R : List UInt8) (hR : Parted R) : Parted (partTxt g r ++ R) := by
  cases r with
  | nil => exact hR
  | cons s l =>
    intro c m hm
    simp [partTxt] at hm
    rw [← hm.1]; decide

theorem lin_part {g : Gr} (h : Good g) (R : List UInt8) (bs : List Bare) (hR : Parted R) (hb : LinIs R bs) : ∀ (r : List Int), (∀ s ∈ r, symOk g.terms.length g.nons.length s) → LinIs (partTxt g r ++ R) (r.map (symTok g) ++ bs)
  | [], _ => hb
  | s :: l, hs => by
    have ih := lin_part h R bs hR hb l (fun x hx => hs x (List.mem_cons_of_mem _ hx))
    obtain ⟨h1, h2⟩ := sym_tok h (hs s List.mem_cons_self)
    have e : partTxt g (s :: l) ++ R = 32 :: (symName g s ++ (partTxt g l ++ R)) := by simp [partTxt]
    rw [e, List.map_cons, List.cons_append, h1]
    exact lin_blank (lin_word h2 (part_parted g l R hR) ih)

theorem lin_parts {g : Gr} (h : Good g) : ∀ (rows : List (List Int)), rows ≠ [] → (∀ r ∈ rows, ∀ s ∈ r, symOk g.terms.length g.nons.length s) → ∃ bs, LinIs (partsTxt g rows) bs ∧ toksOf g rows = bs ++ [(5, [])]
  | [], hne, _ => absurd rfl hne
  | [r], _, hs => by
    refine ⟨r.map (symTok g), ?_, rfl⟩
    have := lin_part h [] [] (fun c l h => by cases h) (fun line col _ => ⟨rfl, rfl⟩) r (hs r (by simp))
    simpa [partsTxt] using this
  | r :: q :: l, _, hs => by
    obtain ⟨bs, h1, h2⟩ := lin_parts h (q :: l) (by simp) (fun x hx => hs x (List.mem_cons_of_mem _ hx))
    refine ⟨r.map (symTok g) ++ (4, [124]) :: bs, ?_, by simp only [toksOf]; rw [h2]; simp⟩
    have hp : Parted (32 :: 124 :: partsTxt g (q :: l)) := by
      intro c m hm
      simp at hm
      rw [← hm.1]; decide
    exact lin_part h _ _ hp (lin_blank (lin_sign 124 4 (fun l => rfl) (by decide) (by decide) h1)) r (hs r (by simp))

theorem sym_ten {g : Gr} (h : Good g) {s : Int} (hs : symOk g.terms.length g.nons.length s) : ∀ c ∈ symName g s, c ≠ 10 := name_ten (kind_name (sym_tok h hs).2)

theorem part_ten {g : Gr} (h : Good g) (r : List Int) (hs : ∀ s ∈ r, symOk g.terms.length g.nons.length s) : ∀ c ∈ partTxt g r, c ≠ 10 := by
  intro c hc
  unfold partTxt at hc
  obtain ⟨s, hsr, hc⟩ := List.mem_flatMap.1 hc
  rcases List.mem_cons.1 hc with rfl | hc
  · decide
  · exact sym_ten h (hs s hsr) c hc
theorem parts_ten {g : Gr} (h : Good g) : ∀ (rows : List (List Int)), (∀ r ∈ rows, ∀ s ∈ r, symOk g.terms.length g.nons.length s) → ∀ c ∈ partsTxt g rows, c ≠ 10
  | [], _, c, hc => by simp [partsTxt] at hc
  | [r], hs, c, hc => part_ten h r (hs r (by simp)) c hc
  | r :: q :: l, hs, c, hc => by
    simp only [partsTxt] at hc
    rcases List.mem_append.1 hc with hc | hc
    · exact part_ten h r (hs r (by simp)) c hc
    · rcases List.mem_cons.1 hc with rfl | hc
      · decide
      · rcases List.mem_cons.1 hc with rfl | hc
        · decide
        · exact parts_ten h (q :: l) (fun x hx => hs x (List.mem_cons_of_mem _ hx)) c hc

/-- The text's tokens. -/
theorem txt_lines {g : Gr} (h : Good g) : ∀ (ns : List (List UInt8)) (rows : List (List (List Int))) (line : Nat), ns.length = rows.length → (∀ n ∈ ns, kindOf n = 1) → (∀ r ∈ rows, r ≠ []) → (∀ r ∈ rows, ∀ x ∈ r, ∀ s ∈ x, symOk g.terms.length g.nons.length s) →
    (txt (linesTxt g ns rows) line).2 = (0, 0) ∧ (txt (linesTxt g ns rows) line).1.map bare = linesB g ns rows
  | [], [], line, _, _, _, _ => by simp [linesTxt, linesB, txt_nil]
  | [], _ :: _, _, h, _, _, _ => by simp at h
  | _ :: _, [], _, h, _, _, _ => by simp at h
  | n :: ns, r :: rows, line, hl, hk, hne, hs => by
    have hn := hk n List.mem_cons_self
    have hn0 : kindOf n ≠ 0 := by omega
    obtain ⟨bs, h1, h2⟩ := lin_parts h r (hne r List.mem_cons_self) (hs r List.mem_cons_self)
    have hline : LinIs (n ++ 58 :: partsTxt g r) ((1, n) :: (3, [58]) :: bs) := by
      have := lin_word (R := 58 :: partsTxt g r) hn0 (fun c m hm => by simp at hm; rw [← hm.1]; decide) (lin_sign 58 3 (fun l => rfl) (by decide) (by decide) h1)
      rw [hn] at this
      exact this
    have hten : ∀ c ∈ n ++ 58 :: partsTxt g r, c ≠ 10 := by
      intro c hc
      rcases List.mem_append.1 hc with hc | hc
      · exact name_ten (kind_name hn0) c hc
      · rcases List.mem_cons.1 hc with rfl | hc
        · decide
        · exact parts_ten h r (hs r List.mem_cons_self) c hc
    have ih := txt_lines h ns rows (line + 1) (by simpa using hl) (fun x hx => hk x (List.mem_cons_of_mem _ hx)) (fun x hx => hne x (List.mem_cons_of_mem _ hx)) (fun x hx => hs x (List.mem_cons_of_mem _ hx))
    have hL := hline line 1 (by decide)
    simp only [linesTxt]
    rw [txt_line1 _ _ hten, if_pos hL.1]
    refine ⟨ih.1, ?_⟩
    simp only [List.map_append, List.map_cons, hL.2, ih.2, linesB, h2]
    simp [bare]

/-- The productions of the nonterminal numbered i. -/
def partsOf (g : Gr) (i : Nat) : List (List Int) := (g.prods.filter fun p => p.1 == ((100 + i : Nat) : Int)).map (·.2)
def textG (g : Gr) : List UInt8 := linesTxt g g.nons ((List.range g.nons.length).map (partsOf g))

theorem lay_far : ∀ (rows : List (List (List Int))) (i j : Nat), j < i → (lay i rows).filter (fun p => p.1 == ((100 + j : Nat) : Int)) = []
  | [], _, _, _ => rfl
  | r :: l, i, j, h => by
    simp only [lay, List.filter_append]
    rw [lay_far l (i + 1) j (by omega), List.append_nil, List.filter_eq_nil_iff]
    intro p hp
    obtain ⟨x, _, rfl⟩ := List.mem_map.1 hp
    simp; omega
theorem lay_at : ∀ (rows : List (List (List Int))) (i j : Nat) (r : List (List Int)), rows[j]? = some r → ((lay i rows).filter fun p => p.1 == ((100 + (i + j) : Nat) : Int)).map (·.2) = r
  | [], _, _, _, h => by simp at h
  | q :: l, i, 0, r, h => by
    simp at h; subst h
    simp only [lay, List.filter_append, Nat.add_zero]
    rw [lay_far l (i + 1) i (by omega), List.append_nil, List.filter_eq_self.2, List.map_map]
    · simp [Function.comp_def]
    · intro p hp
      obtain ⟨x, _, rfl⟩ := List.mem_map.1 hp
      simp
  | q :: l, i, j + 1, r, h => by
    have ih := lay_at l (i + 1) j r (by simpa using h)
    simp only [lay, List.filter_append]
    rw [List.filter_eq_nil_iff.2, List.nil_append, show i + (j + 1) = i + 1 + j by omega]
    · exact ih
    · intro p hp
      obtain ⟨x, _, rfl⟩ := List.mem_map.1 hp
      simp; omega

theorem rows_parts {g : Gr} {rows : List (List (List Int))} (h1 : rows.length = g.nons.length) (h3 : g.prods = lay 0 rows) : (List.range g.nons.length).map (partsOf g) = rows := by
  apply List.ext_getElem?
  intro j
  by_cases hj : j < rows.length
  · have hr : rows[j]? = some rows[j] := List.getElem?_eq_getElem hj
    have := lay_at rows 0 j _ hr
    rw [Nat.zero_add, ← h3] at this
    rw [List.getElem?_map, List.getElem?_range (by omega), hr]
    simp only [Option.map_some]
    rw [show partsOf g j = _ from this]
  · rw [List.getElem?_eq_none (by simp; omega), List.getElem?_eq_none (by omega)]

/-- A good grammar's text is read as it. -/
theorem good_text (g : Gr) (h : Good g) : parse (textG g) = .ok g := by
  obtain ⟨rows, h1, h2, h3, h4⟩ := good_read g h
  have hs : ∀ r ∈ rows, ∀ x ∈ r, ∀ s ∈ x, symOk g.terms.length g.nons.length s := by
    intro r hr x hx
    have hm : x ∈ g.prods.map (·.2) := by rw [h3, lay_snd]; exact List.mem_flatten.2 ⟨r, hr, hx⟩
    obtain ⟨p, hp, rfl⟩ := List.mem_map.1 hm
    exact (h.v.pv p hp).2
  have ht := txt_lines h g.nons rows 1 h1.symm h.nk h2 hs
  rw [parse_iff]
  unfold textG
  rw [rows_parts h1 h3]
  exact ⟨ht.1, by rw [ht.2]; exact h4⟩

/-- What scan's tokens are. -/
theorem lin_fair : ∀ (n : Nat) (l : List UInt8) (line col : Nat), l.length ≤ n → ∀ x ∈ (lin l line col).1, Fair (bare x)
  | _, [], _, _, _, x, hx => by simp [lin_nil] at hx
  | 0, c :: l, _, _, h, _, _ => by simp at h
  | n + 1, c :: l, line, col, h, x, hx => by
    rw [lin_cons] at hx
    by_cases h0 : (piece c l).1 = 0
    · simp [h0] at hx
    · have hp := piece_pos c l h0
      have ih := lin_fair n ((c :: l).drop (piece c l).2) line (col + (piece c l).2) (by rw [List.length_drop]; simp only [List.length_cons] at *; omega) x
      by_cases h9 : (piece c l).1 = 9
      · rw [if_neg h0, if_pos h9] at hx
        exact ih hx
      · rw [if_neg h0, if_neg h9] at hx
        rcases List.mem_cons.1 hx with rfl | hx
        · unfold Fair bare
          simp only
          unfold piece
          split
          · simp
          split
          · simp
          split
          · simp
          split
          · simp
          exact ⟨fun h => h, fun h => h⟩
        · exact ih hx
theorem txt_fair : ∀ (n : Nat) (t : List UInt8) (line : Nat), t.length ≤ n → ∀ x ∈ (txt t line).1, Fair (bare x)
  | _, [], _, _, x, hx => by simp [txt_nil] at hx
  | 0, c :: l, _, h, _, _ => by simp at h
  | n + 1, c :: l, line, h, x, hx => by
    have hr := rest_lt c l
    rw [txt_cons] at hx
    split at hx
    · rcases List.mem_append.1 hx with hx | hx
      · exact lin_fair _ _ _ _ (Nat.le_refl _) x hx
      · rcases List.mem_cons.1 hx with rfl | hx
        · exact ⟨fun h => by simp [bare] at h, fun h => by simp [bare] at h⟩
        · exact txt_fair n _ _ (by omega) x hx
    · simp at hx

/-- What was read is good; its text is read as it, also behind a remark's line. -/
theorem read_good (t : List UInt8) (g : Gr) (h : parse t = .ok g) : Good g := by
  rw [parse_iff] at h
  refine parse_good _ g h.2 ?_
  intro b hb
  obtain ⟨x, hx, rfl⟩ := List.mem_map.1 hb
  exact txt_fair _ t 1 (Nat.le_refl _) x hx

theorem parse_ahead (r t : List UInt8) (g : Gr) (hr : ∀ c ∈ r, c ≠ 10) (hl : LinIs r []) (h : parse t = .ok g) : parse (r ++ 10 :: t) = .ok g := by
  rw [parse_iff] at h ⊢
  have h1 := hl 1 1 (by decide)
  have hd := txt_down 1 _ t 1 (Nat.le_refl _) (by decide)
  rw [if_pos h.1] at hd
  rw [txt_line1 r t hr, if_pos h1.1]
  refine ⟨hd.2, ?_⟩
  simp only [List.map_append, List.map_cons, h1.2, List.nil_append]
  rw [hd.1, List.map_map, show bare ∘ down 1 = bare from rfl]
  have : parseB (bare ⟨5, [], 1, r.length + 1⟩ :: List.map bare (txt t 1).1) = parseB (List.map bare (txt t 1).1) := by
    unfold parseB
    rw [show ruleB (bare ⟨5, [], 1, r.length + 1⟩ :: List.map bare (txt t 1).1) .start = ruleB (List.map bare (txt t 1).1) .start from rfl]
  rw [this]
  exact h.2

end Go.Proofs.Ytdnlbmdmaiacaaa.Doc
