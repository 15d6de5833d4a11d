/- derive: the tree at a place in the order: what its two calls keep. -/
import Derived.Test.YtgfkkbpnphbdgaaDerG
import Derived.Test.YtgfkkbpnphbdgaaDerA
import Derived.Test.YtgfkkbpnphbdgaaTreeQ
set_option linter.unusedVariables false
set_option linter.unusedSimpArgs false
namespace Go.Proofs.Ytgfkkbpnphbdgaa
open Go.RowKit
open Doc Dr

variable {g : List (Int × List Int)} {u : List Int} {m C M1 M2 pc wc : Nat} {pa wa : Option Addr} {ls : List Lay}
/-- Two maps and a row may have turned. -/
structure KeptR (M1 M2 : Nat) (r : Option Nat) (w w' : World) : Prop where
  os : w'.os = w.os
  tape : w'.tape = w.tape
  output : w'.output = w.output
  size : w.heap.size ≤ w'.heap.size
  block : ∀ k, k < w.heap.size → k ≠ M1 → k ≠ M2 → some k ≠ r → w'.heap[k]? = w.heap[k]?
theorem KeptD.row {w w' : World} (h : KeptD M1 M2 w w') (r : Option Nat) : KeptR M1 M2 r w w' := ⟨h.os, h.tape, h.output, h.size, fun k hk h1 h2 _ => h.block k hk h1 h2⟩
theorem KeptR.trans {r : Option Nat} {a b c : World} (h : KeptR M1 M2 r a b) (k : KeptR M1 M2 r b c) : KeptR M1 M2 r a c :=
  ⟨k.os.trans h.os, k.tape.trans h.tape, k.output.trans h.output, Nat.le_trans h.size k.size, fun i hi h1 h2 h3 => (k.block i (Nat.lt_of_lt_of_le hi h.size) h1 h2 h3).trans (h.block i hi h1 h2 h3)⟩
/-- The second row is the first, or new. -/
theorem KeptR.then {r r' : Option Nat} {a b c : World} (h : KeptR M1 M2 r a b) (k : KeptR M1 M2 r' b c) (hr : ∀ x, r' = some x → r = some x ∨ a.heap.size ≤ x) : KeptR M1 M2 r a c :=
  ⟨k.os.trans h.os, k.tape.trans h.tape, k.output.trans h.output, Nat.le_trans h.size k.size, fun i hi h1 h2 h3 => (k.block i (Nat.lt_of_lt_of_le hi h.size) h1 h2 (fun e => by
    rcases hr i e.symm with h4 | h4
    · exact h3 h4.symm
    · omega)).trans (h.block i hi h1 h2 h3)⟩
theorem KeptR.grown {r : Option Nat} {w w' : World} (h : w.grownBy w' r) : KeptR M1 M2 r w w' := ⟨h.os, h.tape, h.output, h.size, fun k hk _ _ h3 => h.block k hk h3⟩
/-- The counter lies below B. -/
structure CtrB (g : List (Int × List Int)) (u : List Int) (m C M1 M2 : Nat) (pa : Option Addr) (pc : Nat) (wa : Option Addr) (wc : Nat) (ls : List Lay) (B : Nat) (W : World) : Prop where
  ex : ∃ S0 : World, S0.heap.size ≤ B ∧ Ctr g u m C M1 M2 pa pc wa wc ls S0 ∧ KeptD M1 M2 S0 W
  mg : MemG g u m M1 W
  mr : MemR g u m M2 W
theorem CtrB.ctr {B : Nat} {W : World} (h : CtrB g u m C M1 M2 pa pc wa wc ls B W) : Ctr g u m C M1 M2 pa pc wa wc ls W := by
  obtain ⟨⟨S0, _, hc, hk⟩, h1, h2⟩ := h
  exact hc.to hk h1 h2
theorem CtrB.low {B : Nat} {W : World} (h : CtrB g u m C M1 M2 pa pc wa wc ls B W) : M1 < B ∧ M2 < B := by
  obtain ⟨⟨S0, hl, hc, hk⟩, _, _⟩ := h
  obtain ⟨_, _, h1⟩ := hc.mg.map
  obtain ⟨_, _, h2⟩ := hc.mr.map
  have := heap_lt h1; have := heap_lt h2
  omega
theorem Ctr.low {W : World} (h : Ctr g u m C M1 M2 pa pc wa wc ls W) : M1 < W.heap.size ∧ M2 < W.heap.size := by
  obtain ⟨_, _, h1⟩ := h.mg.map
  obtain ⟨_, _, h2⟩ := h.mr.map
  exact ⟨heap_lt h1, heap_lt h2⟩
theorem Ctr.atB {W : World} (h : Ctr g u m C M1 M2 pa pc wa wc ls W) : CtrB g u m C M1 M2 pa pc wa wc ls W.heap.size W := ⟨⟨W, Nat.le_refl _, h, KeptD.refl _ _ _⟩, h.mg, h.mr⟩
theorem CtrB.up {B B' : Nat} {W : World} (h : CtrB g u m C M1 M2 pa pc wa wc ls B W) (hB : B ≤ B') : CtrB g u m C M1 M2 pa pc wa wc ls B' W := by
  obtain ⟨⟨S0, hl, hc, hk⟩, h1, h2⟩ := h
  exact ⟨⟨S0, by omega, hc, hk⟩, h1, h2⟩
theorem CtrB.to {B : Nat} {r : Option Nat} {W W' : World} (h : CtrB g u m C M1 M2 pa pc wa wc ls B W) (hk : KeptR M1 M2 r W W') (hr : ∀ x, r = some x → B ≤ x) (h1 : MemG g u m M1 W') (h2 : MemR g u m M2 W') : CtrB g u m C M1 M2 pa pc wa wc ls B W' := by
  obtain ⟨⟨S0, hl, hc, hk0⟩, _, _⟩ := h
  refine ⟨⟨S0, hl, hc, ⟨hk.os.trans hk0.os, hk.tape.trans hk0.tape, hk.output.trans hk0.output, Nat.le_trans hk0.size hk.size, fun k h3 h4 h5 => (hk.block k (Nat.lt_of_lt_of_le h3 hk0.size) h4 h5 (fun e => by have := hr k e.symm; omega)).trans (hk0.block k h3 h4 h5)⟩⟩, h1, h2⟩
/-- Where only a row of one's own has turned. -/
theorem CtrB.grow {B : Nat} {r : Option Nat} {W W' : World} (h : CtrB g u m C M1 M2 pa pc wa wc ls B W) (hg : W.grownBy W' r) (hr : ∀ x, r = some x → B ≤ x) : CtrB g u m C M1 M2 pa pc wa wc ls B W' := by
  have hl := h.low
  have hs := h.ctr.low
  exact h.to (KeptR.grown hg) hr (h.mg.at (hg.block _ hs.1 (fun e => by have := hr _ e.symm; omega))) (h.mr.at (hg.block _ hs.2 (fun e => by have := hr _ e.symm; omega)))
/-- Kids, in a row of one's own. -/
structure KidsD (B : Nat) (W : World) (rv : Value) (ks : List Tl) : Prop where
  own : W.ownsRow B 39 3 rv ks.length (tls ks)
  kids : ∀ t ∈ ks, Lies (fun b => B ≤ b ∧ rv.ownBlock ≠ some b) W t
theorem KidsD.low {B : Nat} {W : World} {rv : Value} {ks : List Tl} (h : KidsD B W rv ks) : ∀ x, rv.ownBlock = some x → B ≤ x := fun x hx => (own_block h.own hx).1
theorem KidsD.kept {B : Nat} {W W' : World} {rv : Value} {ks : List Tl} (h : KidsD B W rv ks) (hk : KeptD M1 M2 W W') (h1 : M1 < B) (h2 : M2 < B) : KidsD B W' rv ks where
  own := own_same h.own fun x hx hl => hk.block x hl (by have := h.low x hx; omega) (by have := h.low x hx; omega)
  kids := fun t ht => (h.kids t ht).keep hk.size (fun b hb hl => hk.block b hl (by have := hb.1; omega) (by have := hb.1; omega)) (fun b hb _ => hb)
theorem KidsD.grow {B g0 cap : Nat} {W W0 W' : World} {rv : Value} {ks : List Tl} {t : Tl} (h : KidsD B W rv ks) (ht : Lies (fun b => W0.heap.size ≤ b) W t) (hr0 : ∀ x, rv.ownBlock = some x → x < W0.heap.size) (hB : B ≤ W0.heap.size)
    (ho : W'.ownsRow B 39 3 (.slice (some ⟨g0, 0, none⟩) (ks.length + 1) cap) (ks.length + 1) (tls (ks ++ [t]))) (hg : W.grownBy W' rv.ownBlock) (ha : rv.ownBlock = some g0 ∨ g0 = W.heap.size) : KidsD B W' (.slice (some ⟨g0, 0, none⟩) (ks ++ [t]).length cap) (ks ++ [t]) := by
  have hlen : (ks ++ [t]).length = ks.length + 1 := by simp
  refine ⟨by rw [hlen]; exact ho, fun s hs => ?_⟩
  have key : Lies (fun b => B ≤ b ∧ rv.ownBlock ≠ some b) W s := by
    rcases List.mem_append.1 hs with hs | hs
    · exact h.kids s hs
    · rw [List.mem_singleton.1 hs]
      exact ht.weak fun b hb _ => ⟨by omega, fun e => by have := hr0 b e; omega⟩
  refine key.keep hg.size (fun b hb hl => hg.block b hl (fun e => hb.2 e.symm)) (fun b hb hl => ⟨hb.1, fun e => ?_⟩)
  have e' : g0 = b := by simpa [Value.ownBlock] using e
  rcases ha with ha | ha
  · exact hb.2 (e' ▸ ha)
  · omega
def TreeEndD (g : List (Int × List Int)) (u : List Int) (m C M1 M2 : Nat) (pa : Option Addr) (pc : Nat) (wa : Option Addr) (wc : Nat) (ls : List Lay) (x : Int) (s : Spn) (q : Nat) (W : World) (e : Ending) (W' : World) : Prop :=
  ∃ t : Tl, e = .returned (.agg #[.int .i64 t.sym, .int .i64 t.prod, .slice t.a t.kids.length t.c]) ∧ Lies (fun b => W.heap.size ≤ b) W' t ∧ [t.plain] = (all g u (.goal x s)).getD q [] ∧ KeptD M1 M2 W W' ∧ Ctr g u m C M1 M2 pa pc wa wc ls W'
def KidsEndD (g : List (Int × List Int)) (u : List Int) (m C M1 M2 : Nat) (pa : Option Addr) (pc : Nat) (wa : Option Addr) (wc : Nat) (ls : List Lay) (B : Nat) (r : Option Nat) (ks : List Tl) (p d : Nat) (s : Spn) (q : Nat) (W : World) (e : Ending) (W' : World) : Prop :=
  ∃ (a : Option Addr) (c : Nat) (kt : List Tl), e = .returned (.slice a (ks ++ kt).length c) ∧ KidsD B W' (.slice a (ks ++ kt).length c) (ks ++ kt) ∧ kt.map Tl.plain = (all g u (.row p d s)).getD q [] ∧ KeptR M1 M2 r W W' ∧ CtrB g u m C M1 M2 pa pc wa wc ls B W'
def KQd (BG BR : Nat) (G R : Array Value) (w' : World) : Prop := w'.heap[BG]? = some (.cells G 86) ∧ w'.heap[BR]? = some (.cells R 108)
/-- Where a kid is looked for: the counter, the kids by now, the two boxes. -/
structure StD (g : List (Int × List Int)) (u : List Int) (m C M1 M2 : Nat) (pa : Option Addr) (pc : Nat) (wa : Option Addr) (wc : Nat) (ls : List Lay) (B : Nat) (rv : Value) (ks : List Tl) (BG BR : Nat) (G R : Array Value) (S W : World) : Prop where
  cb : CtrB g u m C M1 M2 pa pc wa wc ls B W
  kd : KidsD B W rv ks
  k : KeptD M1 M2 S W
  kq : KQd BG BR G R W
theorem StD.call {B BG BR : Nat} {rv : Value} {ks : List Tl} {G R : Array Value} {S W W' : World} (h : StD g u m C M1 M2 pa pc wa wc ls B rv ks BG BR G R S W) (hk : KeptD M1 M2 W W') (hc : Ctr g u m C M1 M2 pa pc wa wc ls W') : StD g u m C M1 M2 pa pc wa wc ls B rv ks BG BR G R S W' where
  cb := h.cb.to (hk.row none) (fun x hx => by cases hx) hc.mg hc.mr
  kd := h.kd.kept hk h.cb.low.1 h.cb.low.2
  k := h.k.trans hk
  kq := ⟨h.cb.ctr.keeps hk h.kq.1, h.cb.ctr.keeps hk h.kq.2⟩
theorem StD.below {B BG BR : Nat} {rv : Value} {ks : List Tl} {G R : Array Value} {S W W' : World} (h : StD g u m C M1 M2 pa pc wa wc ls B rv ks BG BR G R S W) (hb : Below W.heap.size W W') : StD g u m C M1 M2 pa pc wa wc ls B rv ks BG BR G R S W' := h.call (KeptD.of hb) (h.cb.ctr.below hb)
/-- Behind the append of a kid. -/
structure ApD (g : List (Int × List Int)) (u : List Int) (m C M1 M2 : Nat) (pa : Option Addr) (pc : Nat) (wa : Option Addr) (wc : Nat) (ls : List Lay) (B : Nat) (r : Option Nat) (rv : Value) (ks : List Tl) (BG BR : Nat) (G R : Array Value) (S W : World) : Prop where
  cb : CtrB g u m C M1 M2 pa pc wa wc ls B W
  kd : KidsD B W rv ks
  k : KeptR M1 M2 r S W
  kq : KQd BG BR G R W
  hB : B ≤ W.heap.size
  own : ∀ x, rv.ownBlock = some x → r = some x ∨ S.heap.size ≤ x
  far : ∀ x, rv.ownBlock = some x → x ≠ BG ∧ x ≠ BR
theorem StD.app {B BG BR g0 cap : Nat} {rv : Value} {ks : List Tl} {G R : Array Value} {S W8 W W' : World} {t : Tl} (h : StD g u m C M1 M2 pa pc wa wc ls B rv ks BG BR G R S W) (ht : Lies (fun b => W8.heap.size ≤ b) W t) (hS : S.heap.size ≤ W8.heap.size) (hr0 : ∀ x, rv.ownBlock = some x → x < S.heap.size) (hB : B ≤ S.heap.size) (hG : S.heap.size ≤ BG) (hR : S.heap.size ≤ BR)
    (ho : W'.ownsRow B 39 3 (.slice (some ⟨g0, 0, none⟩) (ks.length + 1) cap) (ks.length + 1) (tls (ks ++ [t]))) (hg : W.grownBy W' rv.ownBlock) (ha : rv.ownBlock = some g0 ∨ g0 = W.heap.size) :
    ApD g u m C M1 M2 pa pc wa wc ls B rv.ownBlock (.slice (some ⟨g0, 0, none⟩) (ks ++ [t]).length cap) (ks ++ [t]) BG BR G R S W' where
  cb := h.cb.grow hg h.kd.low
  kd := h.kd.grow (W0 := W8) ht (fun x hx => by have := hr0 x hx; omega) (by omega) ho hg ha
  k := (h.k.row _).trans (KeptR.grown hg)
  kq := ⟨(hg.block _ (heap_lt h.kq.1) (fun e => by have := hr0 _ e.symm; omega)).trans h.kq.1, (hg.block _ (heap_lt h.kq.2) (fun e => by have := hr0 _ e.symm; omega)).trans h.kq.2⟩
  hB := Nat.le_trans hB (Nat.le_trans h.k.size hg.size)
  own := fun x hx => by
    have e : g0 = x := by simpa [Value.ownBlock] using hx
    subst e
    rcases ha with ha | ha
    · exact .inl ha
    · exact .inr (by have := h.k.size; omega)
  far := fun x hx => by
    have e : g0 = x := by simpa [Value.ownBlock] using hx
    subst e
    have h1 := heap_lt h.kq.1
    have h2 := heap_lt h.kq.2
    rcases ha with ha | ha
    · have := hr0 _ ha
      omega
    · omega
theorem ApD.kids {B BG BR : Nat} {r : Option Nat} {rv : Value} {ks : List Tl} {G R : Array Value} {S W W' : World} (h : ApD g u m C M1 M2 pa pc wa wc ls B r rv ks BG BR G R S W) (hk : KeptR M1 M2 rv.ownBlock W W') : KQd BG BR G R W' := by
  have hne : ∀ k cs t, W.heap[k]? = some (.cells cs t) → k ≠ M1 ∧ k ≠ M2 := fun k cs t hkk => by
    obtain ⟨_, _, h1⟩ := h.cb.ctr.mg.map
    obtain ⟨_, _, h2⟩ := h.cb.ctr.mr.map
    constructor
    · rintro rfl; rw [h1] at hkk; cases hkk
    · rintro rfl; rw [h2] at hkk; cases hkk
  exact ⟨(hk.block _ (heap_lt h.kq.1) (hne _ _ _ h.kq.1).1 (hne _ _ _ h.kq.1).2 (fun e => (h.far _ e.symm).1 rfl)).trans h.kq.1, (hk.block _ (heap_lt h.kq.2) (hne _ _ _ h.kq.2).1 (hne _ _ _ h.kq.2).2 (fun e => (h.far _ e.symm).2 rfl)).trans h.kq.2⟩
theorem row_of_own {B : Nat} {W : World} {rv : Value} {ks : List Tl} (h : KidsD B W rv ks) : ∀ x, rv.ownBlock = some x → x < W.heap.size := fun x hx => (own_block h.own hx).2.1
end Go.Proofs.Ytgfkkbpnphbdgaa
