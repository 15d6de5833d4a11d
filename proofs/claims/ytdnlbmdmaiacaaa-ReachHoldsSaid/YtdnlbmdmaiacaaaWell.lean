/- A grammar that was read is a good one; a good one's tokens are read as it. No program here. -/
import Derived.Test.YtdnlbmdmaiacaaaGood
namespace Go.Proofs.Ytdnlbmdmaiacaaa.Doc

theorem rule_shape (Q : Bare → Prop) (N : List UInt8 → Prop) (hN : ∀ t, Q t → t.1 = 1 → N t.2) : ∀ (l : List Bare) (a : AtB) (rs : List (List UInt8 × List Bare)), ruleB l a = some rs → (∀ t ∈ l, Q t) →
    (match a with | .start => True | .named n => N n | .parts n r => N n ∧ ∀ t ∈ r, Q t) → ∀ x ∈ rs, N x.1 ∧ (∃ t, x.2.getLast? = some t ∧ t.1 = 5) ∧ ∀ t ∈ x.2, Q t
  | [], a, rs, h, _, _, x, hx => by
    cases a <;> simp only [ruleB, Option.some.injEq] at h <;> subst h <;> simp at hx
  | t :: l, .start, rs, h, hq, _, x, hx => by
    have hq' : ∀ u ∈ l, Q u := fun u hu => hq u (List.mem_cons_of_mem _ hu)
    simp only [ruleB] at h
    split at h
    · exact rule_shape Q N hN l .start rs h hq' trivial x hx
    · split at h
      · rename_i h1
        exact rule_shape Q N hN l (.named t.2) rs h hq' (hN t (hq t List.mem_cons_self) h1) x hx
      · cases h
  | t :: l, .named n, rs, h, hq, hn, x, hx => by
    have hq' : ∀ u ∈ l, Q u := fun u hu => hq u (List.mem_cons_of_mem _ hu)
    simp only [ruleB] at h
    split at h
    · exact rule_shape Q N hN l (.parts n []) rs h hq' ⟨hn, by simp⟩ x hx
    · cases h
  | t :: l, .parts n r, rs, h, hq, hn, x, hx => by
    have hq' : ∀ u ∈ l, Q u := fun u hu => hq u (List.mem_cons_of_mem _ hu)
    have hr : ∀ u ∈ r ++ [t], Q u := fun u hu => by
      rcases List.mem_append.1 hu with hu | hu
      · exact hn.2 u hu
      · rw [List.mem_singleton.1 hu]; exact hq t List.mem_cons_self
    simp only [ruleB] at h
    split at h
    · cases h
    · split at h
      · rename_i h5
        cases hs : ruleB l .start with
        | none => rw [hs] at h; cases h
        | some rs' =>
          rw [hs] at h
          simp only [Option.map_some, Option.some.injEq] at h
          subst h
          rcases List.mem_cons.1 hx with rfl | hx
          · exact ⟨hn.1, ⟨t, by simp, h5⟩, hr⟩
          · exact rule_shape Q N hN l .start rs' hs hq' trivial x hx
      · exact rule_shape Q N hN l (.parts n (r ++ [t])) rs h hq' ⟨hn.1, hr⟩ x hx

theorem names_good : ∀ (l ns x : List (List UInt8)), namesB l ns = some x → ns.Nodup → ns.length ≤ 8 → x = ns ++ l ∧ x.Nodup ∧ x.length ≤ 8
  | [], ns, x, h, hn, hl => by
    simp only [namesB, Option.some.injEq] at h
    subst h
    exact ⟨by simp, hn, hl⟩
  | n :: l, ns, x, h, hn, hl => by
    simp only [namesB] at h
    split at h
    · cases h
    · rename_i hi
      split at h
      · cases h
      · rename_i h8
        have hm : n ∉ ns := by
          cases hx : idx ns n with
          | none => exact idx_none hx
          | some k => rw [hx] at hi; simp at hi
        obtain ⟨h1, h2, h3⟩ := names_good l (ns ++ [n]) x h (by
          rw [List.nodup_append]
          refine ⟨hn, by simp, ?_⟩
          intro a ha b hb
          rw [List.mem_singleton.1 hb]
          rintro rfl
          exact hm ha) (by simp; omega)
        exact ⟨by rw [h1]; simp, h2, h3⟩

/-- Productions by their left: rows of rows, from the left numbered i on. -/
def lay : Nat → List (List (List Int)) → List (Int × List Int)
  | _, [] => []
  | i, r :: l => r.map (fun x => (((100 + i : Nat) : Int), x)) ++ lay (i + 1) l

theorem bodies_good (nons : List (List UInt8)) (hn8 : nons.length ≤ 8) : ∀ (rs : List (List UInt8 × List Bare)) (i : Nat) (ts : List (List UInt8)) (ps : List (Int × List Int)) (x : List (List UInt8) × List (Int × List Int)),
    bodiesB nons rs i ts ps = some x → (∀ r ∈ rs, (∃ t, r.2.getLast? = some t ∧ t.1 = 5) ∧ ∀ t ∈ r.2, t.1 = 2 → kindOf t.2 = 2) → V nons.length ts ps [] →
    V nons.length x.1 x.2 [] ∧ ∃ rows : List (List (List Int)), rows.length = rs.length ∧ (∀ r ∈ rows, r ≠ []) ∧ x.2 = ps ++ lay i rows
  | [], i, ts, ps, x, h, _, hv => by
    simp only [bodiesB, Option.some.injEq] at h
    subst h
    exact ⟨hv, [], rfl, by simp, by simp [lay]⟩
  | r :: rs, i, ts, ps, x, h, hr, hv => by
    simp only [bodiesB] at h
    cases hp : partsB nons ((100 + i : Nat) : Int) r.2 ts ps [] with
    | none => rw [hp] at h; cases h
    | some y =>
      rw [hp] at h
      obtain ⟨⟨t, ht, h5⟩, hk⟩ := hr r List.mem_cons_self
      have hne : r.2 ≠ [] := by rintro e; rw [e] at ht; cases ht
      obtain ⟨hV, new, hnew, hnn⟩ := parts_V nons _ r.2 ts ps [] y hp hk hn8 hv (fun _ => rfl) (fun u hu => by rw [ht] at hu; cases hu; omega)
      obtain ⟨hV2, rows, h1, h2, h3⟩ := bodies_good nons hn8 rs (i + 1) y.1 y.2 x h (fun q hq => hr q (List.mem_cons_of_mem _ hq)) hV
      refine ⟨hV2, new :: rows, by simp [h1], ?_, by rw [h3, hnew]; simp [lay]⟩
      intro q hq
      rcases List.mem_cons.1 hq with rfl | hq
      · exact hnn hne
      · exact h2 q hq

/-- A good grammar. -/
structure Good (g : Gr) : Prop where
  tp : g.terms ≠ []
  v : V g.nons.length g.terms g.prods []
  np : g.nons ≠ []
  nn : g.nons.Nodup
  nl : g.nons.length ≤ 8
  nk : ∀ x ∈ g.nons, kindOf x = 1
  rows : ∃ rows : List (List (List Int)), rows.length = g.nons.length ∧ (∀ r ∈ rows, r ≠ []) ∧ g.prods = lay 0 rows

/-- A token as scan tells it. -/
def Fair (t : Bare) : Prop := (t.1 = 1 → kindOf t.2 = 1) ∧ (t.1 = 2 → kindOf t.2 = 2)

theorem parse_good (l : List Bare) (g : Gr) (h : parseB l = some g) (hl : ∀ t ∈ l, Fair t) : Good g := by
  unfold parseB at h
  cases hr : ruleB l .start with
  | none => rw [hr] at h; cases h
  | some rs =>
    rw [hr] at h
    simp only at h
    split at h
    · cases h
    · rename_i hne
      have hsh := rule_shape Fair (fun n => kindOf n = 1) (fun t ht h1 => ht.1 h1) l .start rs hr hl trivial
      cases hn : namesB (rs.map (·.1)) [] with
      | none => rw [hn] at h; cases h
      | some ns =>
        rw [hn] at h
        simp only at h
        obtain ⟨e1, n1, n2⟩ := names_good _ [] ns hn (by simp) (by simp)
        simp only [List.nil_append] at e1
        cases hb : bodiesB ns rs 0 [] [] with
        | none => rw [hb] at h; cases h
        | some x =>
          rw [hb] at h
          simp only at h
          split at h
          · cases h
          · rename_i hx
            simp only [Option.some.injEq] at h
            subst h
            obtain ⟨hV, rows, r1, r2, r3⟩ := bodies_good ns n2 rs 0 [] [] x hb (fun r hr => ⟨(hsh r hr).2.1, fun t ht => ((hsh r hr).2.2 t ht).2⟩)
              ⟨by simp, by simp, by simp, by simp, by simp, by simp, by simp, by simp, rfl⟩
            refine ⟨hx, hV, by rw [e1]; simpa using hne, n1, n2, ?_, rows, by rw [r1, e1]; simp, r2, by simpa using r3⟩
            intro y hy
            rw [e1] at hy
            obtain ⟨r, hr, rfl⟩ := List.mem_map.1 hy
            exact (hsh r hr).1

end Go.Proofs.Ytdnlbmdmaiacaaa.Doc
