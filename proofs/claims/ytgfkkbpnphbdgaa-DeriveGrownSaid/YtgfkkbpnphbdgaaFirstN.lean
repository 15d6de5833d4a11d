/- first: grow and New, walked. -/
import Derived.Test.YtgfkkbpnphbdgaaFirstW
import Derived.Test.YtgfkkbpnphbdgaaRaw
import Derived.Test.YtgfkkbpnphbdgaaReach
import Derived.Laws.MakeOwn
import Derived.Laws.OwnMore
set_option linter.unusedVariables false
namespace Go.Proofs.Ytgfkkbpnphbdgaa
open Go.RowKit
open Doc

theorem us_set (F : List Nat) (i v : Nat) : (us F).toArray.setIfInBounds i (.int .u64 (v : Int)) = (us (F.set i v)).toArray := by
  rw [List.setIfInBounds_toArray]
  unfold us
  rw [List.map_set]
structure GrowSt (t : Nat) (ps : List (Int × List Int)) (l : List Int) (F : List Nat) (k : Nat) (gb : Bool) (E : List Nat) : Prop where
  e : E = growF t ps (l.take k) F
  g : gb = true ↔ E ≠ F
theorem growF_snoc (t : Nat) (ps : List (Int × List Int)) (l : List Int) (F : List Nat) {k : Nat} {q : Int} (hq : l[k]? = some q) : growF t ps (l.take (k + 1)) F = stepF t ps (growF t ps (l.take k) F) q := by
  unfold growF
  rw [List.take_add_one, hq]; simp
theorem GrowSt.step {t : Nat} {ps : List (Int × List Int)} {l : List Int} {F : List Nat} {k : Nat} {gb : Bool} {E : List Nat} (h : GrowSt t ps l F k gb E) {j : Nat} {p : Int × List Int} (hq : l[k]? = some (j : Int)) (hp : ps[j]? = some p) {i : Nat} (hi : p.1 - 100 = (i : Int)) (hil : i < E.length) {x : Nat} (hx : E[i]? = some x) (gb' : Bool) (hg : gb' = true ↔ (gb = true ∨ (x ||| ofF t E p.2 1) ≠ x)) :
    GrowSt t ps l F (k + 1) gb' (E.set i (x ||| ofF t E p.2 1)) := by
  have e1 : E.set i (x ||| ofF t E p.2 1) = stepF t ps E (j : Int) := by
    unfold stepF
    rw [Int.toNat_natCast, hp]
    simp only
    rw [hi, Int.toNat_natCast, List.getD_eq_getElem?_getD, hx]; rfl
  have hext : SubF F E := by rw [h.e]; exact grow_ext t ps _ F
  have hE : E.length = F.length := by rw [h.e]; exact grow_len t ps _ F
  have hstep : SubF E (E.set i (x ||| ofF t E p.2 1)) := by rw [e1]; exact step_ext t ps E _
  refine ⟨?_, ?_⟩
  · rw [e1, growF_snoc t ps l F hq, ← h.e]
  · rw [hg, h.g]
    have hsame : (x ||| ofF t E p.2 1) = x ↔ E.set i (x ||| ofF t E p.2 1) = E := by
      constructor
      · intro e
        rw [e]
        exact List.ext_getElem? fun m => by
          rw [List.getElem?_set]
          split
          · rename_i hm; subst hm; first | rw [hx] | rw [if_pos hil, hx]
          · rfl
      · intro e
        have : (E.set i (x ||| ofF t E p.2 1))[i]? = E[i]? := by rw [e]
        rw [List.getElem?_set, if_pos rfl, if_pos hil, hx] at this
        exact Option.some.inj this
    constructor
    · rintro (h1 | h1)
      · intro e
        rw [e] at hstep
        exact h1 (SubF.anti hE hstep hext)
      · intro e
        rw [e] at hstep
        have := SubF.anti hE hstep hext
        exact h1 (hsame.2 (e.trans this.symm))
    · intro h1
      by_cases h2 : E = F
      · right
        intro h3
        exact h1 ((hsame.1 h3).trans h2)
      · exact .inl h2

def valNat : Value → Nat
  | .int _ x => x.toNat
  | _ => 0
def massW (b : Nat) (w : World) : Nat := match w.heap[b]? with
  | some (.cells cs _ _) => (cs.toList.map valNat).sum
  | _ => 0
theorem sub_le {a b : Nat} (h : Sub a b) : a ≤ b := by
  have e : b ||| a = b := sub_or_self h
  rw [← e, Nat.or_comm]; exact Nat.left_le_or
theorem sum_le : ∀ {F G : List Nat}, F.length = G.length → SubF F G → F.sum ≤ G.sum
  | [], [], _, _ => Nat.le_refl _
  | a :: F, b :: G, hl, h => by
    have h0 := sub_le (h 0)
    have h1 := sum_le (F := F) (G := G) (by simpa using hl) (fun i => by have := h (i + 1); simpa using this)
    simp at h0
    simp only [List.sum_cons]; omega
theorem sum_lt : ∀ {F G : List Nat}, F.length = G.length → SubF F G → F ≠ G → F.sum < G.sum
  | [], [], _, _, h => absurd rfl h
  | a :: F, b :: G, hl, h, hne => by
    have h0 := sub_le (h 0)
    have hs : SubF F G := fun i => by have := h (i + 1); simpa using this
    have hl' : F.length = G.length := by simpa using hl
    have h1 := sum_le hl' hs
    simp at h0
    simp only [List.sum_cons]
    by_cases e : F = G
    · have : a ≠ b := fun e2 => hne (by rw [e, e2])
      omega
    · have := sum_lt hl' hs e
      omega
theorem sum_top : ∀ {F : List Nat}, (∀ x ∈ F, x < 18446744073709551616) → F.sum ≤ F.length * 18446744073709551616
  | [], _ => by simp
  | a :: F, h => by
    have h0 := h a List.mem_cons_self
    have h1 := sum_top (F := F) (fun x hx => h x (List.mem_cons_of_mem _ hx))
    simp only [List.sum_cons, List.length_cons]; omega
theorem low_all {t : Nat} (ht : t ≤ 63) {F : List Nat} (h : LowF t F) : ∀ x ∈ F, x < 18446744073709551616 := fun x hx => by
  obtain ⟨i, hi⟩ := List.mem_iff_getElem?.1 hx
  have := low_lt (h i) ht
  rwa [List.getD_eq_getElem?_getD, hi] at this

theorem two_alloc' (w : World) (o0 o1 : Obj) : Below w.heap.size w ((w.alloc o0).alloc o1) ∧ ((w.alloc o0).alloc o1).heap.size = w.heap.size + 2 ∧ ((w.alloc o0).alloc o1).heap[w.heap.size]? = some o0 ∧ ((w.alloc o0).alloc o1).heap[w.heap.size + 1]? = some o1 := by
  refine ⟨((Below.refl _ _).alloc (Nat.le_refl _) _).alloc (by simp) _, by simp, ?_, ?_⟩
  · rw [Below.heap_alloc _ _ _ (by simp)]; exact heap_alloc_new w o0
  · have := heap_alloc_new (w.alloc o0) o1; simpa using this

theorem us_zeros (n : Nat) : (us (zerosF n)).toArray = Array.replicate n (.int .u64 0) := by
  unfold us zerosF
  rw [List.map_replicate]
  simp

end Go.Proofs.Ytgfkkbpnphbdgaa
