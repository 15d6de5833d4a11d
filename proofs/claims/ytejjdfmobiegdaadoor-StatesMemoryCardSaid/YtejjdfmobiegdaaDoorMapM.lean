/- A map that lies in a block, by what it holds at each key: read, written. -/
import Derived.Test.YtejjdfmobiegdaaDoorProg
import Derived.Maps.OwnSet
import Derived.Deep.QuietTactic
import Derived.RowKit
set_option linter.unusedVariables false
namespace Go.Proofs.YtejjdfmobiegdaaDoor
open Go.Maps (Keyed)
open Go.MapKept Go.ChangeMaps Go.RowKit

section
variable {κ : Type} {P : Program} {k : TypeId} {code : κ → Value} {w : World} {b : Nat} {f : κ → Option Value}

/-- Block b is a map whose keys are codes; it holds at each just what f says. -/
def MapM (w : World) (P : Program) (k : TypeId) (code : κ → Value) (b : Nat) (f : κ → Option Value) : Prop :=
  ∃ es clock, w.heap[b]? = some (.map es clock) ∧ (∀ e ∈ es.toList, ∃ q l, e.key = code q ∧ keyOf P k (code q) = some l ∧ f q = some e.val) ∧
    es.toList.Pairwise (fun e e' => e.key ≠ e'.key) ∧ (∀ q x, f q = some x → ∃ e ∈ es.toList, e.key = code q) ∧ ∀ e ∈ es.toList, e.born < clock

theorem MapM.lt (h : MapM w P k code b f) : b < w.heap.size := by
  obtain ⟨es, clock, hb, _⟩ := h
  exact (Array.getElem?_eq_some_iff.1 hb).1
theorem MapM.at {w' : World} (h : MapM w P k code b f) (e : w'.heap[b]? = w.heap[b]?) : MapM w' P k code b f := by
  obtain ⟨es, clock, hb, r⟩ := h
  exact ⟨es, clock, e.trans hb, r⟩
theorem MapM.kept {w' : World} {row : Option Nat} (h : MapM w P k code b f) (hg : w.grownBy w' row) (hne : some b ≠ row) : MapM w' P k code b f := h.at (hg.block b h.lt hne)
theorem MapM.below {w' : World} {base : Nat} (h : MapM w P k code b f) (hb : Below base w w') (hl : b < base) : MapM w' P k code b f := h.at (hb.block b hl)
theorem MapM.alloc (h : MapM w P k code b f) (o : Obj) : MapM (w.alloc o) P k code b f := h.kept (World.grownBy_alloc w o none) (by simp)
theorem MapM.drewN (h : MapM w P k code b f) (n : Nat) : MapM (w.drewN n) P k code b f := h.at rfl
theorem MapM.congr {g : κ → Option Value} (h : MapM w P k code b f) (e : ∀ q, f q = g q) : MapM w P k code b g := by
  obtain rfl : f = g := funext e
  exact h
theorem MapM.made (w : World) (P : Program) (k : TypeId) (code : κ → Value) : MapM (w.alloc (.map #[] 0)) P k code w.heap.size (fun _ => none) :=
  ⟨#[], 0, (MapKept.heap_alloc w _).1, by simp, by simp, by simp, by simp⟩

/-- What is found. -/
theorem MapM.find (h : MapM w P k code b f) (K : Keyed P k) (inj : ∀ q q', code q = code q' → q = q') {q : κ} {l : Lit} (hq : keyOf P k (code q) = some l) :
    ∃ es clock, w.heap[b]? = some (.map es clock) ∧ (((Instr.findKey k (code q) es.toList).run P w = .ok none w ∧ f q = none) ∨ ∃ j x, (Instr.findKey k (code q) es.toList).run P w = .ok (some (j, x)) w ∧ f q = some x) := by
  obtain ⟨es, clock, hb, h1, h2, h3, _⟩ := h
  refine ⟨es, clock, hb, ?_⟩
  rcases K.find w hq es.toList (fun e he => by obtain ⟨q', l', e1, e2, _⟩ := h1 e he; exact ⟨l', by rw [e1]; exact e2⟩) with ⟨hr, hn⟩ | ⟨j, e, hr, hj, he⟩
  · refine .inl ⟨hr, ?_⟩
    cases hf : f q with
    | none => rfl
    | some x => obtain ⟨e, he, e1⟩ := h3 q x hf; exact absurd e1 (hn e he)
  · obtain ⟨q', l', e1, _, e3⟩ := h1 e (List.mem_of_getElem? hj)
    obtain rfl := inj _ _ (e1.symm.trans he)
    exact .inr ⟨j, e.val, hr, e3⟩

theorem MapM.look {t e : TypeId} (h : MapM w P k code b f) (K : Keyed P k) (inj : ∀ q q', code q = code q' → q = q') (ht : P.underlying t = some (.map k e)) {z : Value} (hz : (zeroValue e).run P w = .ok z w)
    {q : κ} {l : Lit} (hq : keyOf P k (code q) = some l) (c : Bool) :
    (Instr.lookup t (.map (some b)) (code q) c).run P w = .ok (if c then .tuple #[(f q).getD z, .bool (f q).isSome] else (f q).getD z) w := by
  obtain ⟨es, clock, hb, ⟨hr, hn⟩ | ⟨j, x, hr, hs⟩⟩ := h.find K inj hq
  · rw [hn]
    cases c <;> simp [Instr.lookup, run_underlying ht, MapKept.run_getObj_map hb, K.check w _ hq, hr, hz, Result.andThen]
  · rw [hs]
    cases c <;> simp [Instr.lookup, run_underlying ht, MapKept.run_getObj_map hb, K.check w _ hq, hr, Result.andThen]

/-- What is written: nothing but this block has turned. -/
theorem MapM.store [DecidableEq κ] {t e : TypeId} (h : MapM w P k code b f) (K : Keyed P k) (inj : ∀ q q', code q = code q' → q = q') (ht : P.underlying t = some (.map k e))
    {q : κ} {l : Lit} (hq : keyOf P k (code q) = some l) (x : Value) :
    ∃ w', (Instr.mapUpdate t (.map (some b)) (code q) x).run P w = .ok () w' ∧ MapM w' P k code b (fun q' => if q' = q then some x else f q') ∧ w.grownBy w' (some b) := by
  obtain ⟨es, clock, hb, h1, h2, h3, h4⟩ := h
  have hkeys : ∀ e ∈ es.toList, ∃ l, keyOf P k e.key = some l := fun e he => by obtain ⟨q', l', e1, e2, _⟩ := h1 e he; exact ⟨l', by rw [e1]; exact e2⟩
  have hgrow : ∀ o, w.grownBy (setBlock w b o) (some b) := fun o => ⟨rfl, rfl, rfl, by simp [setBlock], fun i _ hi => heap_setBlock_other hb _ (fun e => hi (by rw [e]))⟩
  rcases K.find w hq es.toList hkeys with ⟨hr, hn⟩ | ⟨j, e0, hr, hj, he⟩
  · refine ⟨setBlock w b (.map (es.push ⟨code q, x, clock⟩) (clock + 1)), ?_, ⟨_, _, heap_setBlock_same hb _, ?_, ?_, ?_, ?_⟩, hgrow _⟩
    · simp [Instr.mapUpdate, run_underlying ht, MapKept.run_getObj_map hb, K.check w false hq, hr, MapKept.run_setObj_map _ hb, Result.andThen, setBlock]
    · intro e he
      simp only [Array.toList_push, List.mem_append, List.mem_singleton] at he
      rcases he with he | rfl
      · obtain ⟨q', l', e1, e2, e3⟩ := h1 e he
        refine ⟨q', l', e1, e2, ?_⟩
        have : q' ≠ q := fun e' => hn e he (by rw [e1, e'])
        exact (if_neg this).trans e3
      · exact ⟨q, l, rfl, hq, if_pos rfl⟩
    · simp only [Array.toList_push]
      rw [List.pairwise_append]
      refine ⟨h2, by simp, fun e he e' he' => ?_⟩
      simp only [List.mem_singleton] at he'
      subst he'
      exact hn e he
    · intro q' y hy
      simp only [Array.toList_push, List.mem_append, List.mem_singleton]
      by_cases e' : q' = q
      · subst e'; exact ⟨_, .inr rfl, rfl⟩
      · replace hy := (if_neg e').symm.trans hy
        obtain ⟨e, he, e1⟩ := h3 q' y hy
        exact ⟨e, .inl he, e1⟩
    · intro e he
      simp only [Array.toList_push, List.mem_append, List.mem_singleton] at he
      rcases he with he | rfl
      · have := h4 e he; omega
      · exact Nat.lt_succ_self _
  · have hj' : es[j]? = some e0 := by simpa using hj
    have hjl : j < es.size := (Array.getElem?_eq_some_iff.1 hj').1
    have hmod : (es.modify j fun e => { e with key := code q, val := x }).toList = es.toList.set j { e0 with key := code q, val := x } := by
      have hg : es.toList[j]? = some e0 := hj
      rw [show (es.modify j fun e => { e with key := code q, val := x }).toList = es.toList.modify j (fun e => { e with key := code q, val := x }) from by simp]
      apply List.ext_getElem?
      intro i
      rw [List.getElem?_modify, List.getElem?_set]
      by_cases hij : j = i
      · subst hij
        rw [hg, if_pos rfl, if_pos (by simpa using hjl)]; simp
      · simp [hij]
    refine ⟨setBlock w b (.map (es.modify j fun e => { e with key := code q, val := x }) clock), ?_, ⟨_, _, heap_setBlock_same hb _, ?_, ?_, ?_, ?_⟩, hgrow _⟩
    · have hst := K.stays w hq
      simp [Instr.mapUpdate, run_underlying ht, MapKept.run_getObj_map hb, K.check w false hq, hr, hj', he, hst, MapKept.run_setObj_map _ hb, Result.andThen, setBlock]
    · rw [hmod]
      intro e hm
      obtain ⟨i, hi⟩ := List.getElem?_of_mem hm
      rw [List.getElem?_set] at hi
      by_cases hij : j = i
      · subst hij
        rw [if_pos rfl, if_pos (by simpa using hjl)] at hi
        cases hi
        exact ⟨q, l, rfl, hq, if_pos rfl⟩
      · rw [if_neg hij] at hi
        obtain ⟨q', l', e1, e2, e3⟩ := h1 e (List.mem_of_getElem? hi)
        refine ⟨q', l', e1, e2, ?_⟩
        have : q' ≠ q := fun e' => by
          obtain ⟨hi1, hi2⟩ := List.getElem?_eq_some_iff.1 hi
          obtain ⟨hj1, hj2⟩ := List.getElem?_eq_some_iff.1 hj
          rcases Nat.lt_or_gt_of_ne hij with hlt | hlt
          · exact List.pairwise_iff_getElem.1 h2 j i hj1 hi1 hlt (by rw [hj2, hi2, he, e1, e'])
          · exact List.pairwise_iff_getElem.1 h2 i j hi1 hj1 hlt (by rw [hj2, hi2, he, e1, e'])
        exact (if_neg this).trans e3
    · rw [hmod]
      have hkey : ∀ (i : Nat) (hi : i < (es.toList.set j { e0 with key := code q, val := x }).length), ((es.toList.set j { e0 with key := code q, val := x })[i]).key = (es.toList[i]'(by simpa using hi)).key := by
        intro i hi
        rw [List.getElem_set]
        split
        · rename_i e; subst e
          obtain ⟨hj1, hj2⟩ := List.getElem?_eq_some_iff.1 hj
          rw [hj2]; exact he.symm
        · rfl
      rw [List.pairwise_iff_getElem]
      intro i i' hi hi' hlt
      rw [hkey i hi, hkey i' hi']
      exact List.pairwise_iff_getElem.1 h2 i i' (by simpa using hi) (by simpa using hi') hlt
    · rw [hmod]
      intro q' y hy
      by_cases e' : q' = q
      · subst e'
        exact ⟨{ e0 with key := code q', val := x }, List.mem_of_getElem? (i := j) (by rw [List.getElem?_set, if_pos rfl, if_pos (by simpa using hjl)]), rfl⟩
      · replace hy := (if_neg e').symm.trans hy
        obtain ⟨e, hm, e1⟩ := h3 q' y hy
        obtain ⟨i, hi⟩ := List.getElem?_of_mem hm
        refine ⟨e, List.mem_of_getElem? (i := i) ?_, e1⟩
        rw [List.getElem?_set]
        have : j ≠ i := fun e2 => by
          subst e2
          have hj2 : es.toList[j]? = some e0 := hj
          rw [hj2] at hi; cases hi
          exact e' (inj _ _ (e1.symm.trans he))
        rw [if_neg this]; exact hi
    · rw [hmod]
      intro e hm
      obtain ⟨i, hi⟩ := List.getElem?_of_mem hm
      rw [List.getElem?_set] at hi
      by_cases hij : j = i
      · subst hij
        rw [if_pos rfl, if_pos (by simpa using hjl)] at hi
        cases hi
        exact h4 e0 (List.mem_of_getElem? hj)
      · rw [if_neg hij] at hi
        exact h4 e (List.mem_of_getElem? hi)

/-- An entry that is new, made first and filled afterwards. -/
theorem MapM.entry [DecidableEq κ] {t e : TypeId} (h : MapM w P k code b f) (K : Keyed P k) (inj : ∀ q q', code q = code q' → q = q') (ht : P.underlying t = some (.map k e)) {z : Value} (hz : (zeroValue e).run P w = .ok z w)
    {q : κ} {l : Lit} (hq : keyOf P k (code q) = some l) (hn : f q = none) :
    ∃ (w1 : World) (st : Nat), (Instr.mapEntry t (.map (some b)) (code q)).run P w = .ok (.tuple #[z, .int .i64 st]) w1 ∧ w.grownBy w1 (some b) ∧
      ∀ x, ∃ w3, (Instr.entryStore t (.map (some b)) (.int .i64 st) x).run P w1 = .ok () w3 ∧ MapM w3 P k code b (fun q' => if q' = q then some x else f q') ∧ w.grownBy w3 (some b) := by
  have h0 := h
  obtain ⟨es, clock, hb, h1, h2, h3, h4⟩ := h
  have hgrow : ∀ o, w.grownBy (setBlock w b o) (some b) := fun o => ⟨rfl, rfl, rfl, by simp [setBlock], fun i _ hi => heap_setBlock_other hb _ (fun e => hi (by rw [e]))⟩
  have hkeys : ∀ e ∈ es.toList, ∃ l, keyOf P k e.key = some l := fun e he => by obtain ⟨q', l', e1, e2, _⟩ := h1 e he; exact ⟨l', by rw [e1]; exact e2⟩
  rcases K.find w hq es.toList hkeys with ⟨hr, hnk⟩ | ⟨j, e0, hr, hj, he⟩
  · have hb1 : (setBlock w b (.map (es.push ⟨code q, z, clock⟩) (clock + 1))).heap[b]? = some (.map (es.push ⟨code q, z, clock⟩) (clock + 1)) := heap_setBlock_same hb _
    refine ⟨setBlock w b (.map (es.push ⟨code q, z, clock⟩) (clock + 1)), clock, ?_, hgrow _, fun x => ?_⟩
    · simp [Instr.mapEntry, run_underlying ht, MapKept.run_getObj_map hb, K.check w false hq, hr, hz, MapKept.run_setObj_map _ hb, Result.andThen, setBlock, goInt]
    · obtain ⟨w3, hr3, hm3, hg3⟩ := MapM.store h0 K inj ht hq x
      have e3 : w3 = setBlock w b (.map (es.push ⟨code q, x, clock⟩) (clock + 1)) := by
        have : (Instr.mapUpdate t (.map (some b)) (code q) x).run P w = .ok () (setBlock w b (.map (es.push ⟨code q, x, clock⟩) (clock + 1))) := by
          simp [Instr.mapUpdate, run_underlying ht, MapKept.run_getObj_map hb, K.check w false hq, hr, MapKept.run_setObj_map _ hb, Result.andThen, setBlock]
        rw [this] at hr3
        cases hr3; rfl
      refine ⟨w3, ?_, hm3, hg3⟩
      have hfi : (es.push ⟨code q, z, clock⟩).findIdx? (fun e => (e.born : Int) == (clock : Int)) = some es.size := by
        rw [Array.findIdx?_push]
        have hno : es.findIdx? (fun e => (e.born : Int) == (clock : Int)) = none := by
          rw [Array.findIdx?_eq_none_iff]
          intro e he
          have := h4 e (by simpa using he)
          simp; omega
        rw [hno]; simp
      have hmod : (es.push ⟨code q, z, clock⟩).modify es.size (fun e => { e with val := x }) = es.push ⟨code q, x, clock⟩ := by
        apply Array.ext_getElem?
        intro i
        rw [Array.getElem?_modify, Array.getElem?_push, Array.getElem?_push]
        by_cases hi : i = es.size
        · subst hi; simp
        · rw [if_neg hi, if_neg (Ne.symm hi), if_neg hi]
      have e4 : ∀ o o' : Obj, setBlock (setBlock w b o) b o' = setBlock w b o' := fun o o' => by simp [setBlock]
      rw [e3, ← e4 (.map (es.push ⟨code q, z, clock⟩) (clock + 1)) (.map (es.push ⟨code q, x, clock⟩) (clock + 1)), ← hmod]
      generalize setBlock w b (.map (es.push ⟨code q, z, clock⟩) (clock + 1)) = w1 at hb1 ⊢
      simp [Instr.entryStore, MapKept.run_getObj_map hb1, MapKept.run_setObj_map _ hb1, asInt, asIntOf, hfi, Result.andThen, setBlock]
  · obtain ⟨q', l', e1, _, e3⟩ := h1 e0 (List.mem_of_getElem? hj)
    obtain rfl := inj _ _ (e1.symm.trans he)
    rw [hn] at e3; cases e3

/-! ### Sets: maps that hold true alone -/
open Classical in
/-- What a set holds at a key. -/
noncomputable def setV (S : κ → Prop) (q : κ) : Option Value := if S q then some (.bool true) else none
/-- Block b is a set. -/
def SetM (w : World) (P : Program) (k : TypeId) (code : κ → Value) (b : Nat) (S : κ → Prop) : Prop := MapM w P k code b (setV S)
theorem SetM.congr {S T : κ → Prop} (h : SetM w P k code b S) (e : ∀ q, S q ↔ T q) : SetM w P k code b T := by
  obtain rfl : S = T := funext fun q => propext (e q)
  exact h
theorem SetM.made (w : World) (P : Program) (k : TypeId) (code : κ → Value) : SetM (w.alloc (.map #[] 0)) P k code w.heap.size (fun _ => False) :=
  (MapM.made w P k code).congr fun q => by simp [setV]
theorem SetM.lt {S : κ → Prop} (h : SetM w P k code b S) : b < w.heap.size := MapM.lt h
theorem SetM.kept {S : κ → Prop} {w' : World} {row : Option Nat} (h : SetM w P k code b S) (hg : w.grownBy w' row) (hne : some b ≠ row) : SetM w' P k code b S := MapM.kept h hg hne
theorem SetM.below {S : κ → Prop} {w' : World} {base : Nat} (h : SetM w P k code b S) (hb : Below base w w') (hl : b < base) : SetM w' P k code b S := MapM.below h hb hl
theorem SetM.at {S : κ → Prop} {w' : World} (h : SetM w P k code b S) (e : w'.heap[b]? = w.heap[b]?) : SetM w' P k code b S := MapM.at h e
theorem SetM.look {S : κ → Prop} {t e : TypeId} (h : SetM w P k code b S) (K : Keyed P k) (inj : ∀ q q', code q = code q' → q = q') (ht : P.underlying t = some (.map k e)) (hz : (zeroValue e).run P w = .ok (.bool false) w)
    {q : κ} {l : Lit} (hq : keyOf P k (code q) = some l) : ∃ x : Bool, (x = true ↔ S q) ∧ (Instr.lookup t (.map (some b)) (code q) false).run P w = .ok (.bool x) w := by
  have := MapM.look h K inj ht hz hq false
  by_cases hs : S q
  · refine ⟨true, by simp [hs], ?_⟩
    rw [this]; simp [setV, hs]
  · refine ⟨false, by simp [hs], ?_⟩
    rw [this]; simp [setV, hs]
theorem SetM.look_all {S : κ → Prop} {t e : TypeId} (h : SetM w P k code b S) (K : Keyed P k) (inj : ∀ q q', code q = code q' → q = q') (ht : P.underlying t = some (.map k e)) (hz : ∀ W : World, (zeroValue e).run P W = .ok (.bool false) W)
    {q : κ} (hq : ∃ l, keyOf P k (code q) = some l) : ∃ x : Bool, (x = true ↔ S q) ∧ ∀ W : World, W.heap[b]? = w.heap[b]? → (Instr.lookup t (.map (some b)) (code q) false).run P W = .ok (.bool x) W := by
  obtain ⟨l, hl⟩ := hq
  by_cases hs : S q
  · refine ⟨true, by simp [hs], fun W hW => ?_⟩
    rw [MapM.look (MapM.at h hW) K inj ht (hz W) hl false]; simp [setV, hs]
  · refine ⟨false, by simp [hs], fun W hW => ?_⟩
    rw [MapM.look (MapM.at h hW) K inj ht (hz W) hl false]; simp [setV, hs]
theorem SetM.store {S : κ → Prop} [DecidableEq κ] {t e : TypeId} (h : SetM w P k code b S) (K : Keyed P k) (inj : ∀ q q', code q = code q' → q = q') (ht : P.underlying t = some (.map k e))
    {q : κ} {l : Lit} (hq : keyOf P k (code q) = some l) :
    ∃ w', (Instr.mapUpdate t (.map (some b)) (code q) (.bool true)).run P w = .ok () w' ∧ SetM w' P k code b (fun q' => q' = q ∨ S q') ∧ w.grownBy w' (some b) := by
  obtain ⟨w', h1, h2, h3⟩ := MapM.store h K inj ht hq (.bool true)
  refine ⟨w', h1, h2.congr fun q' => ?_, h3⟩
  by_cases e' : q' = q
  · subst e'; simp [setV]
  · by_cases hs : S q'
    · simp [setV, e', hs]
    · simp [setV, e', hs]
theorem SetM.entry {S : κ → Prop} [DecidableEq κ] {t e : TypeId} (h : SetM w P k code b S) (K : Keyed P k) (inj : ∀ q q', code q = code q' → q = q') (ht : P.underlying t = some (.map k e)) (hz : (zeroValue e).run P w = .ok (.bool false) w)
    {q : κ} {l : Lit} (hq : keyOf P k (code q) = some l) (hn : ¬ S q) :
    ∃ (w1 : World) (st : Nat), (Instr.mapEntry t (.map (some b)) (code q)).run P w = .ok (.tuple #[.bool false, .int .i64 st]) w1 ∧ w.grownBy w1 (some b) ∧
      ∃ w3, (Instr.entryStore t (.map (some b)) (.int .i64 st) (.bool true)).run P w1 = .ok () w3 ∧ SetM w3 P k code b (fun q' => q' = q ∨ S q') ∧ w.grownBy w3 (some b) := by
  obtain ⟨w1, st, h1, h2, h3⟩ := MapM.entry h K inj ht hz hq (by simp [setV, hn])
  obtain ⟨w3, h4, h5, h6⟩ := h3 (.bool true)
  refine ⟨w1, st, h1, h2, w3, h4, h5.congr fun q' => ?_, h6⟩
  by_cases e' : q' = q
  · subst e'; simp [setV]
  · by_cases hs : S q'
    · simp [setV, e', hs]
    · simp [setV, e', hs]
end

/-! ### At the operation -/
section
variable {κ : Type} {P : Program} (w : World) {ops : Array Oper} {rest : List Oper} {o : Oper} {a : Act} {Q : Exit → Act → World → Prop}
theorem wpList_look_set {S : κ → Prop} (hg : Region.wanted o (yielded ops a.tmps) = true) (m x : Operand) (t : TypeId) (hop : o.op = Op.lookup t m x false)
    (k e : TypeId) (code : κ → Value) (K : Keyed P k) (inj : ∀ q q', code q = code q' → q = q') (ht : P.underlying t = some (.map k e)) (hz : (zeroValue e).run P w = .ok (.bool false) w) (b : Nat)
    (hm : a.eval m = .map (some b)) (hS : SetM w P k code b S) (q : κ) (hx : a.eval x = code q) (hq : ∃ l, keyOf P k (code q) = some l)
    (hK : ∀ v : Bool, (v = true ↔ S q) → wpList P ops Q rest (a.put o.dst (.bool v)) w) : wpList P ops Q (o :: rest) a w := by
  refine wpList_step fun K' hK' => ?_
  rw [if_pos hg]
  obtain ⟨l, hl⟩ := hq
  obtain ⟨v, h1, hrun⟩ := hS.look K inj ht hz hl
  unfold Oper.wp
  simp [execOp, hop, hm, hx, hrun, Result.andThen]
  exact hK' _ _ (hK v h1)
theorem wpList_store_set {S : κ → Prop} [DecidableEq κ] (hg : o.guard = none) (m x v : Operand) (t : TypeId) (hop : o.op = Op.mapUpdate t m x v)
    (k e : TypeId) (code : κ → Value) (K : Keyed P k) (inj : ∀ q q', code q = code q' → q = q') (ht : P.underlying t = some (.map k e)) (b : Nat)
    (hm : a.eval m = .map (some b)) (hS : SetM w P k code b S) (q : κ) (hx : a.eval x = code q) (hv : a.eval v = .bool true) (hq : ∃ l, keyOf P k (code q) = some l)
    (hK : ∀ w', SetM w' P k code b (fun q' => q' = q ∨ S q') → w.grownBy w' (some b) → wpList P ops Q rest (a.put o.dst undef) w') : wpList P ops Q (o :: rest) a w := by
  refine wpList_plain hg fun K' hK' => ?_
  obtain ⟨l, hl⟩ := hq
  obtain ⟨w', hrun, r1, r2⟩ := hS.store K inj ht hl
  unfold Oper.wp
  simp [execOp, hop, hm, hx, hv, hrun, Result.andThen]
  exact hK' _ _ (hK w' r1 r2)
theorem wpList_insert_set {S : κ → Prop} [DecidableEq κ] (hg : o.guard = none) (m x v : Operand) (t : TypeId) (hop : o.op = Op.insert t m x v)
    (k e : TypeId) (code : κ → Value) (K : Keyed P k) (inj : ∀ q q', code q = code q' → q = q') (ht : P.underlying t = some (.map k e)) (b : Nat)
    (hm : a.eval m = .map (some b)) (hS : SetM w P k code b S) (q : κ) (hx : a.eval x = code q) (hv : a.eval v = .bool true) (hq : ∃ l, keyOf P k (code q) = some l)
    (hK : ∀ w', SetM w' P k code b (fun q' => q' = q ∨ S q') → w.grownBy w' (some b) → wpList P ops Q rest (a.put o.dst undef) w') : wpList P ops Q (o :: rest) a w := by
  refine wpList_plain hg fun K' hK' => ?_
  obtain ⟨l, hl⟩ := hq
  obtain ⟨w', hrun, r1, r2⟩ := hS.store K inj ht hl
  unfold Oper.wp
  simp [execOp, hop, hm, hx, hv, hrun, Result.andThen]
  exact hK' _ _ (hK w' r1 r2)
end

/-- Is a key there, as the world has it? -/
def HasW {κ : Type} (code : κ → Value) (b : Nat) (w : World) (q : κ) : Prop := ∃ es clock, w.heap[b]? = some (.map es clock) ∧ ∃ e ∈ es.toList, e.key = code q
theorem SetM.hasW {κ : Type} {P : Program} {k : TypeId} {code : κ → Value} {w : World} {b : Nat} {S : κ → Prop} (h : SetM w P k code b S) (inj : ∀ q q', code q = code q' → q = q') (q : κ) : HasW code b w q ↔ S q := by
  obtain ⟨es, clock, hb, h1, h2, h3, h4⟩ := h
  constructor
  · rintro ⟨es', clock', hb', e, he, hk⟩
    rw [hb] at hb'
    cases hb'
    obtain ⟨q', l, e1, _, e3⟩ := h1 e he
    obtain rfl := inj _ _ (e1.symm.trans hk)
    unfold setV at e3
    split at e3
    · assumption
    · cases e3
  · intro hs
    obtain ⟨e, he, e1⟩ := h3 q (.bool true) (by simp [setV, hs])
    exact ⟨es, clock, hb, e, he, e1⟩
end Go.Proofs.YtejjdfmobiegdaaDoor
