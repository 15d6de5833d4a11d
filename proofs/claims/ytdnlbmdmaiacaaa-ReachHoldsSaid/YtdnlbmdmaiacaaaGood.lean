/- What a grammar is that was read of a text. No program here. -/
import Derived.Test.YtdnlbmdmaiacaaaBare
namespace Go.Proofs.Ytdnlbmdmaiacaaa.Doc

/-- A symbol that there is. -/
def symOk (nt nn : Nat) (s : Int) : Prop := (1 ≤ s ∧ s ≤ nt) ∨ (100 ≤ s ∧ s < 100 + nn)
theorem symOk.more {nt nt' nn : Nat} {s : Int} (h : symOk nt nn s) (hn : nt ≤ nt') : symOk nt' nn s := by
  unfold symOk at *; omega

/-- The terminals of a row come in order, behind the first n: how many there are then. -/
def ordRow : Nat → List Int → Option Nat
  | n, [] => some n
  | n, s :: l => if 100 ≤ s then ordRow n l else if s = n + 1 then ordRow (n + 1) l else if 1 ≤ s ∧ s ≤ n then ordRow n l else none
def ordRows : Nat → List (List Int) → Option Nat
  | n, [] => some n
  | n, r :: l => (ordRow n r).bind fun m => ordRows m l

theorem ordRow_append : ∀ (a b : List Int) (n : Nat), ordRow n (a ++ b) = (ordRow n a).bind fun m => ordRow m b
  | [], b, n => rfl
  | s :: a, b, n => by
    simp only [List.cons_append, ordRow]
    split
    · exact ordRow_append a b n
    · split
      · exact ordRow_append a b (n + 1)
      · split
        · exact ordRow_append a b n
        · rfl
theorem ordRows_append : ∀ (a b : List (List Int)) (n : Nat), ordRows n (a ++ b) = (ordRows n a).bind fun m => ordRows m b
  | [], b, n => rfl
  | r :: a, b, n => by
    simp only [List.cons_append, ordRows]
    cases ordRow n r with
    | none => rfl
    | some m => exact ordRows_append a b m
theorem ordRows_one (n : Nat) (r : List Int) : ordRows n [r] = ordRow n r := by
  simp only [ordRows]; cases ordRow n r <;> rfl

/-- Where one stands in reading parts. -/
structure V (nn : Nat) (ts : List (List UInt8)) (ps : List (Int × List Int)) (r : List Int) : Prop where
  tn : ts.Nodup
  tl : ts.length ≤ 8
  tk : ∀ x ∈ ts, kindOf x = 2
  pn : ps.Nodup
  pl : ps.length ≤ 24
  pv : ∀ p ∈ ps, p.2.length ≤ 6 ∧ ∀ s ∈ p.2, symOk ts.length nn s
  rl : r.length ≤ 6
  rv : ∀ s ∈ r, symOk ts.length nn s
  ord : ordRows 0 (ps.map (·.2) ++ [r]) = some ts.length

theorem idx_some {l : List (List UInt8)} {s : List UInt8} {k : Nat} (h : idx l s = some k) : l[k]? = some s := by
  unfold idx at h
  obtain ⟨hk, h1, _⟩ := List.findIdx?_eq_some_iff_getElem.1 h
  rw [List.getElem?_eq_getElem hk]
  simpa using h1
theorem idx_none {l : List (List UInt8)} {s : List UInt8} (h : idx l s = none) : s ∉ l := by
  unfold idx at h
  rw [List.findIdx?_eq_none_iff] at h
  intro hm
  simpa using h s hm
theorem nodup_at : ∀ {l : List (List UInt8)}, l.Nodup → ∀ {i j : Nat} (h1 : i < l.length) (h2 : j < l.length), l[i] = l[j] → i = j
  | [], _, i, _, h1, _, _ => by simp at h1
  | x :: l, hn, 0, 0, _, _, _ => rfl
  | x :: l, hn, 0, j + 1, _, h2, e => by
    simp only [List.getElem_cons_zero, List.getElem_cons_succ] at e
    exact absurd (e ▸ List.getElem_mem _) (List.nodup_cons.1 hn).1
  | x :: l, hn, i + 1, 0, h1, _, e => by
    simp only [List.getElem_cons_zero, List.getElem_cons_succ] at e
    exact absurd (e ▸ List.getElem_mem _) (List.nodup_cons.1 hn).1
  | x :: l, hn, i + 1, j + 1, h1, h2, e => by
    simp only [List.getElem_cons_succ] at e
    rw [nodup_at (List.nodup_cons.1 hn).2 (by simpa using h1) (by simpa using h2) e]
theorem idx_at {l : List (List UInt8)} (hn : l.Nodup) {k : Nat} {s : List UInt8} (h : l[k]? = some s) : idx l s = some k := by
  cases hi : idx l s with
  | none => exact absurd (List.mem_of_getElem? h) (idx_none hi)
  | some j =>
    have hj := idx_some hi
    have : j = k := by
      obtain ⟨h1, e1⟩ := List.getElem?_eq_some_iff.1 hj
      obtain ⟨h2, e2⟩ := List.getElem?_eq_some_iff.1 h
      exact nodup_at hn h1 h2 (e1.trans e2.symm)
    rw [this]
theorem idx_out {l : List (List UInt8)} {s : List UInt8} (h : s ∉ l) : idx l s = none := by
  cases hi : idx l s with
  | none => rfl
  | some j => exact absurd (List.mem_of_getElem? (idx_some hi)) h

theorem V.sym {nn : Nat} {ts : List (List UInt8)} {ps : List (Int × List Int)} {r : List Int} (h : V nn ts ps r) (h6 : ¬ 6 ≤ r.length) (s : Int) (hs : symOk ts.length nn s) (ho : ordRow ts.length [s] = some ts.length) : V nn ts ps (r ++ [s]) where
  tn := h.tn
  tl := h.tl
  tk := h.tk
  pn := h.pn
  pl := h.pl
  pv := h.pv
  rl := by simp; omega
  rv := by
    intro x hx
    rcases List.mem_append.1 hx with hx | hx
    · exact h.rv x hx
    · rw [List.mem_singleton.1 hx]; exact hs
  ord := by
    have h1 := h.ord
    rw [ordRows_append] at h1 ⊢
    cases hm : ordRows 0 (ps.map (·.2)) with
    | none => rw [hm] at h1; cases h1
    | some m =>
      rw [hm] at h1
      simp only [Option.bind_some, ordRows_one] at h1 ⊢
      rw [ordRow_append, h1]
      exact ho

theorem V.new {nn : Nat} {ts : List (List UInt8)} {ps : List (Int × List Int)} {r : List Int} (h : V nn ts ps r) (h6 : ¬ 6 ≤ r.length) (h8 : ¬ 8 ≤ ts.length) (x : List UInt8) (hx : x ∉ ts) (hk : kindOf x = 2) : V nn (ts ++ [x]) ps (r ++ [((ts.length + 1 : Nat) : Int)]) where
  tn := by
    rw [List.nodup_append]
    refine ⟨h.tn, by simp, ?_⟩
    intro a ha b hb
    rw [List.mem_singleton.1 hb]
    rintro rfl
    exact hx ha
  tl := by simp; omega
  tk := by
    intro y hy
    rcases List.mem_append.1 hy with hy | hy
    · exact h.tk y hy
    · rw [List.mem_singleton.1 hy]; exact hk
  pn := h.pn
  pl := h.pl
  pv := fun p hp => ⟨(h.pv p hp).1, fun s hs => ((h.pv p hp).2 s hs).more (by simp)⟩
  rl := by simp; omega
  rv := by
    intro y hy
    rcases List.mem_append.1 hy with hy | hy
    · exact (h.rv y hy).more (by simp)
    · rw [List.mem_singleton.1 hy]; left; simp; omega
  ord := by
    have h1 := h.ord
    rw [ordRows_append] at h1 ⊢
    cases hm : ordRows 0 (ps.map (·.2)) with
    | none => rw [hm] at h1; cases h1
    | some m =>
      rw [hm] at h1
      simp only [Option.bind_some, ordRows_one] at h1 ⊢
      rw [ordRow_append, h1]
      have h8' := h.tl
      simp only [Option.bind_some, ordRow]
      rw [if_neg (by omega), if_pos (by simp)]
      simp

theorem V.part {nn : Nat} {ts : List (List UInt8)} {ps : List (Int × List Int)} {r : List Int} (h : V nn ts ps r) (left : Int) (h24 : ¬ 24 ≤ ps.length) (hm : (left, r) ∉ ps) : V nn ts (ps ++ [(left, r)]) [] where
  tn := h.tn
  tl := h.tl
  tk := h.tk
  pn := by
    rw [List.nodup_append]
    refine ⟨h.pn, by simp, ?_⟩
    intro a ha b hb
    rw [List.mem_singleton.1 hb]
    rintro rfl
    exact hm ha
  pl := by simp; omega
  pv := by
    intro p hp
    rcases List.mem_append.1 hp with hp | hp
    · exact h.pv p hp
    · rw [List.mem_singleton.1 hp]; exact ⟨h.rl, h.rv⟩
  rl := by simp
  rv := by simp
  ord := by
    have h1 := h.ord
    rw [List.map_append, List.map_cons, List.map_nil, ordRows_append, h1]
    rfl

/-- What reading the parts of a rule leaves. -/
theorem parts_V (nons : List (List UInt8)) (left : Int) : ∀ (l : List Bare) (ts : List (List UInt8)) (ps : List (Int × List Int)) (r : List Int) (x : List (List UInt8) × List (Int × List Int)),
    partsB nons left l ts ps r = some x → (∀ t ∈ l, t.1 = 2 → kindOf t.2 = 2) → nons.length ≤ 8 → V nons.length ts ps r → (l = [] → r = []) → (∀ t, l.getLast? = some t → ¬ (t.1 = 1 ∨ t.1 = 2)) →
    V nons.length x.1 x.2 [] ∧ ∃ new : List (List Int), x.2 = ps ++ new.map (fun r => (left, r)) ∧ (l ≠ [] → new ≠ [])
  | [], ts, ps, r, x, h, _, _, hv, hr, _ => by
    simp only [partsB, Option.some.injEq] at h
    subst h
    rw [hr rfl] at hv
    exact ⟨hv, [], by simp, by simp⟩
  | t :: l, ts, ps, r, x, h, hk, hn8, hv, _, hlast => by
    have hk' : ∀ u ∈ l, u.1 = 2 → kindOf u.2 = 2 := fun u hu => hk u (List.mem_cons_of_mem _ hu)
    have hlast' : ∀ u, l.getLast? = some u → ¬ (u.1 = 1 ∨ u.1 = 2) := fun u hu => hlast u (by rw [List.getLast?_cons, hu]; rfl)
    simp only [partsB] at h
    by_cases h12 : t.1 = 1 ∨ t.1 = 2
    · have hne : l ≠ [] := by
        rintro rfl
        exact hlast t rfl h12
      rw [if_pos h12] at h
      by_cases h6 : 6 ≤ r.length
      · rw [if_pos h6] at h; cases h
      rw [if_neg h6] at h
      by_cases h1 : t.1 = 1
      · rw [if_pos h1] at h
        cases hi : idx nons t.2 with
        | none => rw [hi] at h; cases h
        | some k =>
          rw [hi] at h
          have hkl : k < nons.length := (List.getElem?_eq_some_iff.1 (idx_some hi)).1
          obtain ⟨hV, new, hnew, hne2⟩ := parts_V nons left l ts ps _ x h hk' hn8 (hv.sym h6 _ (.inr (by omega)) (by simp only [ordRow]; rw [if_pos (by omega)])) (fun e => absurd e hne) hlast'
          exact ⟨hV, new, hnew, fun _ => hne2 hne⟩
      · rw [if_neg h1] at h
        have h2 : t.1 = 2 := h12.resolve_left h1
        cases hi : idx ts t.2 with
        | some k =>
          rw [hi] at h
          have hkl : k < ts.length := (List.getElem?_eq_some_iff.1 (idx_some hi)).1
          have htl := hv.tl
          obtain ⟨hV, new, hnew, hne2⟩ := parts_V nons left l ts ps _ x h hk' hn8 (hv.sym h6 _ (.inl (by omega)) (by simp only [ordRow]; rw [if_neg (by omega), if_neg (by omega), if_pos (by omega)])) (fun e => absurd e hne) hlast'
          exact ⟨hV, new, hnew, fun _ => hne2 hne⟩
        | none =>
          rw [hi] at h
          by_cases h8 : 8 ≤ ts.length
          · simp only [if_pos h8] at h; cases h
          · simp only [if_neg h8] at h
            obtain ⟨hV, new, hnew, hne2⟩ := parts_V nons left l _ ps _ x h hk' hn8 (hv.new h6 h8 t.2 (idx_none hi) (hk t List.mem_cons_self h2)) (fun e => absurd e hne) hlast'
            exact ⟨hV, new, hnew, fun _ => hne2 hne⟩
    · rw [if_neg h12] at h
      by_cases h24 : 24 ≤ ps.length
      · rw [if_pos h24] at h; cases h
      rw [if_neg h24] at h
      by_cases hm : (left, r) ∈ ps
      · rw [if_pos hm] at h; cases h
      rw [if_neg hm] at h
      obtain ⟨hV, new, hnew, _⟩ := parts_V nons left l ts _ [] x h hk' hn8 (hv.part left h24 hm) (fun _ => rfl) hlast'
      exact ⟨hV, r :: new, by rw [hnew]; simp, fun _ => by simp⟩

end Go.Proofs.Ytdnlbmdmaiacaaa.Doc
