/- Trees as plain data: what they must be, their leaves, size, text, where a production stands; and trees as they lie in memory. -/
import Derived.Test.YtgfkkbpnphbdgaaForm
set_option linter.unusedVariables false
namespace Go.Proofs.Ytgfkkbpnphbdgaa
open Go.RowKit
open Doc

/-- A tree. -/
inductive Tr where
  | mk (sym prod : Int) (kids : List Tr)
def Tr.sym : Tr → Int | .mk s _ _ => s
def Tr.prod : Tr → Int | .mk _ p _ => p
def Tr.kids : Tr → List Tr | .mk _ _ ks => ks

theorem Tr.ind {C : Tr → Prop} (h : ∀ s p ks, (∀ k ∈ ks, C k) → C (.mk s p ks)) : ∀ t, C t
  | .mk s p ks => h s p ks (aux ks)
where aux : ∀ (ks : List Tr), ∀ k ∈ ks, C k
  | [], k, hk => by cases hk
  | t :: l, k, hk => by
    rcases List.mem_cons.1 hk with e | e
    · rw [e]; exact Tr.ind h t
    · exact aux l k e

mutual
def sizeT : Tr → Nat | .mk _ _ ks => 1 + sizeK ks
def sizeK : List Tr → Nat | [] => 0 | t :: l => sizeT t + sizeK l
end
mutual
def leavesT : Tr → List Int | .mk s p ks => if p = -1 then [s] else leavesK ks
def leavesK : List Tr → List Int | [] => [] | t :: l => leavesT t ++ leavesK l
end
mutual
def checkT (g : Gr) : Tr → Int → Bool
  | .mk s p ks, root => if s = root then (if p = -1 then ks.isEmpty && symB g s else if p < 0 then false else
      match g.prods[p.toNat]? with
      | none => false
      | some q => if q.1 = s ∧ q.2.length = ks.length then checkK g ks q.2 else false) else false
def checkK (g : Gr) : List Tr → List Int → Bool
  | [], _ => true
  | _ :: _, [] => true
  | t :: l, x :: r => checkT g t x && checkK g l r
end
mutual
def sameT : Tr → Tr → Bool | .mk s p ks, .mk s' p' ks' => if s = s' ∧ p = p' ∧ ks.length = ks'.length then sameK ks ks' else false
def sameK : List Tr → List Tr → Bool | [], _ => true | _ :: _, [] => true | t :: l, t' :: l' => sameT t t' && sameK l l'
end

theorem sizeT_pos (t : Tr) : 1 ≤ sizeT t := by cases t; simp only [sizeT]; omega
theorem sizeK_len : ∀ ks : List Tr, ks.length ≤ sizeK ks
  | [] => by simp [sizeK]
  | t :: l => by have := sizeK_len l; have := sizeT_pos t; simp only [sizeK, List.length_cons]; omega
theorem sizeK_mem : ∀ {ks : List Tr} {k : Tr}, k ∈ ks → sizeT k ≤ sizeK ks
  | t :: l, k, h => by
    simp only [sizeK]
    rcases List.mem_cons.1 h with e | e
    · rw [e]; omega
    · have := sizeK_mem e; omega
theorem sizeK_app : ∀ a b : List Tr, sizeK (a ++ b) = sizeK a + sizeK b
  | [], b => by simp [sizeK]
  | t :: l, b => by simp only [List.cons_append, sizeK, sizeK_app l b]; omega
theorem same_iff (t : Tr) : ∀ u, sameT t u = true ↔ t = u := by
  induction t using Tr.ind with
  | h s p ks ih =>
    rintro ⟨s', p', ks'⟩
    have aux : ∀ l l' : List Tr, (∀ k ∈ l, ∀ u, sameT k u = true ↔ k = u) → l.length = l'.length → (sameK l l' = true ↔ l = l') := by
      intro l
      induction l with
      | nil =>
        intro l' _ hl
        have : l' = [] := List.eq_nil_of_length_eq_zero hl.symm
        subst this
        simp [sameK]
      | cons t l ih2 =>
        intro l' h hl
        cases l' with
        | nil => simp at hl
        | cons t' l' =>
          have h1 := h t List.mem_cons_self t'
          have h2 := ih2 l' (fun k hk => h k (List.mem_cons_of_mem _ hk)) (by simpa using hl)
          simp only [sameK, Bool.and_eq_true, List.cons.injEq, h1, h2]
    simp only [sameT]
    split
    · rename_i h
      obtain ⟨rfl, rfl, hl⟩ := h
      rw [aux ks ks' ih hl]
      simp
    · rename_i h
      constructor
      · intro e; cases e
      · intro e
        injection e with e1 e2 e3
        exact absurd ⟨e1, e2, by rw [e3]⟩ h

theorem checkK_syms (g : Gr) : ∀ (ks : List Tr) (r : List Int), r.length = ks.length → checkK g ks r = true → r = ks.map Tr.sym ∧ ∀ k ∈ ks, checkT g k k.sym = true
  | [], [], _, _ => ⟨rfl, fun k hk => by cases hk⟩
  | [], _ :: _, h, _ => by simp at h
  | _ :: _, [], h, _ => by simp at h
  | t :: l, x :: r, h, hc => by
    simp only [checkK, Bool.and_eq_true] at hc
    have ih := checkK_syms g l r (by simpa using h) hc.2
    have hx : t.sym = x := by
      cases t with
      | mk s p ks =>
        have := hc.1
        simp only [checkT] at this
        split at this
        · assumption
        · cases this
    refine ⟨by rw [List.map_cons, ← hx, ← ih.1], fun k hk => ?_⟩
    rcases List.mem_cons.1 hk with e | e
    · rw [e, hx]; exact hc.1
    · exact ih.2 k e
/-- What a derivation is. -/
theorem check_cases {g : Gr} {s p root : Int} {ks : List Tr} (h : checkT g (.mk s p ks) root = true) : s = root ∧ ((p = -1 ∧ ks = [] ∧ symB g s = true) ∨ (∃ n : Nat, p = n ∧ g.prods[n]? = some (s, ks.map Tr.sym) ∧ ∀ k ∈ ks, checkT g k k.sym = true)) := by
  simp only [checkT] at h
  split at h
  · rename_i hr
    refine ⟨hr, ?_⟩
    split at h
    · rename_i hp
      simp only [Bool.and_eq_true, List.isEmpty_iff] at h
      exact .inl ⟨hp, h.1, h.2⟩
    · split at h
      · cases h
      · rename_i h1 h2
        right
        cases hq : g.prods[p.toNat]? with
        | none => rw [hq] at h; cases h
        | some q =>
          rw [hq] at h
          simp only at h
          split at h
          · rename_i hc
            have hk := checkK_syms g ks q.2 hc.2 h
            exact ⟨p.toNat, by omega, by rw [hq]; exact congrArg some (Prod.ext hc.1 hk.1), hk.2⟩
          · cases h
  · cases h
theorem left_symB {g : Gr} (h : CheckG g) {n : Nat} {q : Int × List Int} (hq : g.prods[n]? = some q) : symB g q.1 = true ∧ q.1 ≠ 0 := by
  have := (h.pv q (List.mem_of_getElem? hq)).1
  refine ⟨?_, by omega⟩
  unfold symB nonB
  simp
  omega

/-! As it lies in memory. -/
/-- A tree as it lies: where its kids' row lies, and that row's capacity. -/
inductive Tl where
  | mk (sym prod : Int) (a : Option Addr) (c : Nat) (kids : List Tl)
def Tl.sym : Tl → Int | .mk s _ _ _ _ => s
def Tl.prod : Tl → Int | .mk _ p _ _ _ => p
def Tl.a : Tl → Option Addr | .mk _ _ a _ _ => a
def Tl.c : Tl → Nat | .mk _ _ _ c _ => c
def Tl.kids : Tl → List Tl | .mk _ _ _ _ ks => ks
mutual
def Tl.plain : Tl → Tr | .mk s p _ _ ks => .mk s p (plainK ks)
def plainK : List Tl → List Tr | [] => [] | t :: l => t.plain :: plainK l
end
theorem plainK_map : ∀ l : List Tl, plainK l = l.map Tl.plain
  | [] => rfl
  | t :: l => by rw [plainK, plainK_map l]; rfl
theorem Tl.plain_mk (s p : Int) (a : Option Addr) (c : Nat) (ks : List Tl) : (Tl.mk s p a c ks).plain = .mk s p (ks.map Tl.plain) := by rw [Tl.plain, plainK_map]
theorem Tl.ind {C : Tl → Prop} (h : ∀ s p a c ks, (∀ k ∈ ks, C k) → C (.mk s p a c ks)) : ∀ t, C t
  | .mk s p a c ks => h s p a c ks (aux ks)
where aux : ∀ (ks : List Tl), ∀ k ∈ ks, C k
  | [], k, hk => by cases hk
  | t :: l, k, hk => by
    rcases List.mem_cons.1 hk with e | e
    · rw [e]; exact Tl.ind h t
    · exact aux l k e

/-- A tree as a value. -/
def Tl.v (t : Tl) : Value := .agg #[.int .i64 t.sym, .int .i64 t.prod, .slice t.a t.kids.length t.c]
/-- A tree as three cells; a row of trees. -/
def tl3 (t : Tl) : List Value := [.int .i64 t.sym, .int .i64 t.prod, .slice t.a t.kids.length t.c]
def tls (l : List Tl) : List Value := l.flatMap tl3
theorem tls_len (l : List Tl) : (tls l).length = l.length * 3 := by
  induction l with
  | nil => rfl
  | cons t l ih => simp only [tls, List.flatMap_cons, List.length_append, List.length_cons] at *; rw [ih]; simp [tl3]; omega
theorem tls_app (a b : List Tl) : tls (a ++ b) = tls a ++ tls b := by simp [tls]
theorem tls_at : ∀ (l : List Tl) (j : Nat) (t : Tl), l[j]? = some t → (tls l)[j * 3]? = some (.int .i64 t.sym) ∧ (tls l)[j * 3 + 1]? = some (.int .i64 t.prod) ∧ (tls l)[j * 3 + 2]? = some (.slice t.a t.kids.length t.c)
  | [], j, t, h => by simp at h
  | u :: l, 0, t, h => by
    simp at h; subst h
    simp [tls, tl3]
  | u :: l, j + 1, t, h => by
    have ih := tls_at l j t (by simpa using h)
    have e : tls (u :: l) = .int .i64 u.sym :: .int .i64 u.prod :: .slice u.a u.kids.length u.c :: tls l := rfl
    rw [e, show (j + 1) * 3 = j * 3 + 1 + 1 + 1 by omega]
    exact ⟨ih.1, ih.2.1, ih.2.2⟩

theorem cell_same {w w' : World} {b i : Nat} (h : w'.heap[b]? = w.heap[b]?) : w'.cell? ⟨b, i, none⟩ = w.cell? ⟨b, i, none⟩ := by
  unfold World.cell?
  rw [h]
/-- A tree lies in memory, its rows in blocks of P. -/
inductive Lies (P : Nat → Prop) (w : World) : Tl → Prop
  | mk {s p : Int} {a : Option Addr} {c : Nat} {ks : List Tl} (hc : Cells w a (tls ks)) (hl : ks.length ≤ c) (hp : ks ≠ [] → ∀ x, a = some x → P x.block) (hk : ∀ k ∈ ks, Lies P w k) : Lies P w (.mk s p a c ks)

theorem Lies.cells {P : Nat → Prop} {w : World} {s p : Int} {a : Option Addr} {c : Nat} {ks : List Tl} (h : Lies P w (.mk s p a c ks)) : Cells w a (tls ks) := by cases h; assumption
theorem Lies.cap {P : Nat → Prop} {w : World} {s p : Int} {a : Option Addr} {c : Nat} {ks : List Tl} (h : Lies P w (.mk s p a c ks)) : ks.length ≤ c := by cases h; assumption
theorem Lies.kid {P : Nat → Prop} {w : World} {s p : Int} {a : Option Addr} {c : Nat} {ks : List Tl} (h : Lies P w (.mk s p a c ks)) : ∀ k ∈ ks, Lies P w k := by cases h; assumption
theorem Lies.blk {P : Nat → Prop} {w : World} {s p : Int} {a : Option Addr} {c : Nat} {ks : List Tl} (h : Lies P w (.mk s p a c ks)) : ks ≠ [] → ∀ x, a = some x → P x.block := by cases h; assumption

theorem Lies.keep {P Q : Nat → Prop} {w w' : World} {t : Tl} (h : Lies P w t) (hs : w.heap.size ≤ w'.heap.size) (hb : ∀ b, P b → b < w.heap.size → w'.heap[b]? = w.heap[b]?) (hq : ∀ b, P b → b < w.heap.size → Q b) : Lies Q w' t := by
  induction h with
  | @mk s p a c ks hc hl hp _ ih =>
    refine .mk ?_ hl ?_ ih
    · rcases hc with h | ⟨b, off, ha, hlt, hcs⟩
      · exact .inl h
      · by_cases hn : ks = []
        · subst hn; exact .inl rfl
        · refine .inr ⟨b, off, ha, by omega, fun j u hj => ?_⟩
          have hbl := hb b (hp hn _ ha) hlt
          rw [← hcs j u hj]
          exact cell_same hbl
    · intro hn x hx
      rcases hc with h | ⟨b, off, ha, hlt, hcs⟩
      · cases ks with
        | nil => exact absurd rfl hn
        | cons t l => have := congrArg List.length h; rw [tls_len] at this; simp at this
      · have e : x = ⟨b, off, none⟩ := Option.some.inj (hx.symm.trans ha)
        subst e
        exact hq b (hp hn _ ha) hlt
theorem Lies.under {P : Nat → Prop} {w w' : World} {t : Tl} (h : Lies P w t) (hb : Below w.heap.size w w') : Lies P w' t :=
  h.keep hb.size (fun b _ hl => hb.block b hl) (fun _ hp _ => hp)
theorem Lies.weak {P Q : Nat → Prop} {w : World} {t : Tl} (h : Lies P w t) (hq : ∀ b, P b → b < w.heap.size → Q b) : Lies Q w t :=
  h.keep (Nat.le_refl _) (fun _ _ _ => rfl) hq
theorem Lies.leaf (P : Nat → Prop) (w : World) (s p : Int) (a : Option Addr) (c : Nat) : Lies P w (.mk s p a c []) := .mk (.inl rfl) (Nat.zero_le _) (fun h => absurd rfl h) (fun _ h => by cases h)

end Go.Proofs.Ytgfkkbpnphbdgaa
