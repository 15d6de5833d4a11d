/- Trees made of numbers: exegeteplay.Tree: a derivation of its symbol: over any world. slices.Grow of no trees. derive: the tree at a place in the order: what its two calls keep. derive: addKids, where tree and addKids further on are as they should be. derive: tree, where addKids is as it should be; and both, by induction. derive: Trees. -/
import Derived.Test.YtgfkkbpnphbdgaaTreeB
import Derived.Test.YtgfkkbpnphbdgaaAppAll
import Derived.Test.YtgfkkbpnphbdgaaRaw
import Derived.Deep.CutBlock
import Derived.Test.YtgfkkbpnphbdgaaDerX
import Derived.Lib.AppendZerosOnto
import Derived.Lib.AppendZeros
import Derived.Lib.SliceRun
import Derived.Test.YtgfkkbpnphbdgaaDerA
import Derived.Deep.AppendLies
import Derived.Deep.RegionLaw
set_option linter.unusedVariables false
namespace Go.Proofs.Ytgfkkbpnphbdgaa
open Go.RowKit
open Doc

/-! What a derivation of a grammar that may be is made of. -/
def tinyI (s : Int) : Prop := -1000 ≤ s ∧ s ≤ 1000
mutual
def tinyT : Tr → Prop | .mk s p ks => tinyI s ∧ tinyI p ∧ tinyK ks
def tinyK : List Tr → Prop | [] => True | t :: l => tinyT t ∧ tinyK l
end
theorem tinyK_iff : ∀ {ks : List Tr}, tinyK ks ↔ ∀ k ∈ ks, tinyT k
  | [] => by simp [tinyK]
  | t :: l => by simp only [tinyK, List.mem_cons, forall_eq_or_imp]; rw [tinyK_iff]
theorem tiny_mild (t : Tr) : tinyT t → mildT t := by
  induction t using Tr.ind with
  | h s p ks ih =>
    intro h
    rw [tinyT] at h
    rw [mildT]
    unfold tinyI at h
    unfold mildI
    refine ⟨by omega, by omega, mildK_mk fun k hk => ih k hk (tinyK_iff.1 h.2.2 k hk)⟩
theorem symB_tiny {g : Gr} (hc : CheckG g) {s : Int} (h : symB g s = true) : 1 ≤ s ∧ s ≤ 108 := by
  have h1 := hc.t8
  have h2 := hc.n8
  unfold symB nonB at h
  simp at h
  omega
theorem check_tinyT {g : Gr} (hc : CheckG g) (t : Tr) : ∀ root, checkT g t root = true → tinyT t := by
  induction t using Tr.ind with
  | h s p ks ih =>
    intro root h
    rw [tinyT]
    unfold tinyI
    rcases (check_cases h).2 with ⟨h1, h2, h3⟩ | ⟨n, h1, h2, h3⟩
    · have := symB_tiny hc h3
      exact ⟨by omega, by omega, by rw [h2]; trivial⟩
    · have h4 := (List.getElem?_eq_some_iff.1 h2).1
      have h5 := hc.p24
      have h6 := symB_tiny hc (left_symB hc h2).1
      simp only at h6
      exact ⟨by omega, by omega, tinyK_iff.2 fun k hk => ih k hk _ (h3 k hk)⟩
/-! The tree that grows, kid by kid, in its block. -/
structure Kd (T : Nat) (sym p : Int) (w W : World) (kv rv : Value) (cnt : Nat) (xs : List Value) (ks : List Tl) : Prop where
  t : W.heap[T]? = some (.cells #[.int .i64 sym, .int .i64 p, kv] 39)
  k : Below w.heap.size w W
  own : W.ownsRow (T + 1) 39 3 rv cnt xs
  kids : ∀ t ∈ ks, Lies (fun b => T < b ∧ rv.ownBlock ≠ some b) W t
  hT : w.heap.size ≤ T
section
variable {T : Nat} {sym p : Int} {w W : World} {kv rv : Value} {cnt : Nat} {xs : List Value} {ks : List Tl}
theorem Kd.keep (h : Kd T sym p w W kv rv cnt xs ks) {W' : World} (hb : Below w.heap.size w W') (hs : W.heap.size ≤ W'.heap.size) (hk : ∀ b, b < W.heap.size → W'.heap[b]? = W.heap[b]?) : Kd T sym p w W' kv rv cnt xs ks where
  t := (hk T (heap_lt h.t)).trans h.t
  k := hb
  own := own_same h.own fun g _ hl => hk g hl
  kids := fun t ht => (h.kids t ht).keep hs (fun b _ hl => hk b hl) (fun _ hp _ => hp)
  hT := h.hT
theorem Kd.below (h : Kd T sym p w W kv rv cnt xs ks) {W' : World} (hb : Below W.heap.size W W') : Kd T sym p w W' kv rv cnt xs ks := h.keep (h.k.trans (hb.mono h.k.size)) hb.size fun b hl => hb.block b hl
theorem Kd.add (h : Kd T sym p w W kv rv cnt xs ks) {W' : World} {tk : Tl} (h' : Kd T sym p w W' kv rv cnt xs ks) (hl : Lies (fun b => W.heap.size ≤ b) W' tk) : Kd T sym p w W' kv rv cnt xs (ks ++ [tk]) := by
  refine ⟨h'.t, h'.k, h'.own, fun t ht => ?_, h'.hT⟩
  rcases List.mem_append.1 ht with ht | ht
  · exact h'.kids t ht
  · rw [List.mem_singleton] at ht
    subst ht
    have hlt := heap_lt h.t
    refine hl.weak fun b hb _ => ⟨by omega, fun e => ?_⟩
    have := (own_block h.own e).2.1
    omega
theorem Kd.grow (h : Kd T sym p w W kv rv cnt xs ks) {W' : World} {g cap cnt' : Nat} {xs' : List Value} (ho : W'.ownsRow (T + 1) 39 3 (.slice (some ⟨g, 0, none⟩) cnt' cap) cnt' xs') (hg : W.grownBy W' rv.ownBlock) (ha : rv.ownBlock = some g ∨ g = W.heap.size) : Kd T sym p w W' kv (.slice (some ⟨g, 0, none⟩) cnt' cap) cnt' xs' ks := by
  have hk : ∀ b, b < W.heap.size → rv.ownBlock ≠ some b → W'.heap[b]? = W.heap[b]? := fun b hb hn => hg.block b hb hn.symm
  have hlo : ∀ b, b ≤ T → rv.ownBlock ≠ some b := fun b hb e => by have := (own_block h.own e).1; omega
  have hlt := heap_lt h.t
  have hbel : Below (T + 1) W W' := (Below.refl _ _).grown hg (by omega) fun k hk => (own_block h.own hk).1
  refine ⟨(hk T hlt (hlo T (Nat.le_refl _))).trans h.t, h.k.trans (hbel.mono (by have := h.hT; omega)), ho, ?_, h.hT⟩
  intro t ht
  refine (h.kids t ht).keep hbel.size (fun b hb hl => hk b hl hb.2) (fun b hb hl => ⟨hb.1, fun e => ?_⟩)
  have e' : g = b := by simpa [Value.ownBlock] using e
  rcases ha with ha | ha
  · exact hb.2 (e' ▸ ha)
  · omega
end
theorem Kd.done {T : Nat} {sym p : Int} {w W : World} {g cap : Nat} {ks : List Tl} {t : Tl} (h : Kd T sym p w W (.slice (some ⟨g, 0, none⟩) (ks.length + 1) cap) (.slice (some ⟨g, 0, none⟩) (ks.length + 1) cap) (ks.length + 1) (tls ks ++ [.int .i64 t.sym, .int .i64 t.prod, .slice t.a t.kids.length t.c]) (ks ++ [t])) :
    Kd T sym p w W (.slice (some ⟨g, 0, none⟩) (ks ++ [t]).length cap) (.slice (some ⟨g, 0, none⟩) (ks ++ [t]).length cap) (ks ++ [t]).length (tls (ks ++ [t])) (ks ++ [t]) := by
  have e : (ks ++ [t]).length = ks.length + 1 := by simp
  have e2 : tls (ks ++ [t]) = tls ks ++ [.int .i64 t.sym, .int .i64 t.prod, .slice t.a t.kids.length t.c] := by rw [tls_app]; rfl
  rw [e, e2]
  exact h
theorem infoTq : (Try.prog.info? 39).map (fun i => (i.zero, i.size, i.bytes)) = some (some (.agg #[.int .i64 0, .int .i64 0, .slice none 0 0]), 3, 40) := by kernel_rfl
end Go.Proofs.Ytgfkkbpnphbdgaa

set_option linter.unusedVariables false
set_option linter.unusedSimpArgs false
namespace Go.Proofs.Ytgfkkbpnphbdgaa
open Go.RowKit
open Doc Dr

theorem intU : Try.prog.underlying 3 = some (.int .i64) := by kernel_rfl
theorem zeros_size (z : Array Value) (k : Nat) : (Builtin.zeroCells z k).size = k * z.size := by
  simp [Builtin.zeroCells]
set_option maxRecDepth 100000 in
set_option maxHeartbeats 2000000 in
theorem growT_any (n : Nat) (hn : n ≤ 6) (w : World) :
    Calls Try.prog 57 #[.slice none 0 0, .int .i64 n] w fun e w' => ∃ (a : Option Addr) (c : Nat), e = .returned (.slice a 0 c) ∧ w'.ownsRow w.heap.size 39 3 (.slice a 0 c) 0 [] ∧ Below w.heap.size w w' := by
  obtain ⟨i0, hi0, hz0, hz1, hz2⟩ := info_of infoTq
  by_cases h0 : n = 0
  · subst h0
    go_enter Try.func57, Try.ntmps57
    go_wp2
    go_ret
    exact ⟨none, 0, rfl, World.ownsRow_nil _ _ _ _, Below.refl _ _⟩
  · have e1 : (0 : Int) < n := by omega
    have e2 : ¬ (n : Int) < 0 := by omega
    have hrz : ∀ ty, (Builtin.append_ #[34, 3] ty #[.slice none 0 0, .int .i64 (n : Int)]).run Try.prog w =
        .ok (.slice (some ⟨w.heap.size, 0, none⟩) (0 + n) (grownCap w (0 + n) 0 39)) (w.drew.alloc (.cells (([] : List Value).toArray ++ Builtin.zeroCells (Value.agg #[.int .i64 0, .int .i64 0, .slice none 0 0]).cells n ++ Builtin.zeroCells (Value.agg #[.int .i64 0, .int .i64 0, .slice none 0 0]).cells (grownCap w (0 + n) 0 39 - (0 + n))) 39)) := fun ty =>
      Lib.run_append_grow_zeros w 34 3 ty 39 i0 _ .i64 .i64 Try.underlying34 intU hi0 hz0 none 0 0 [] (run_firstCells_none w.drew i0.size 0 0 0) n (by omega) (by omega) (by omega) (by omega) (by rw [hz2]; omega) (growslice_fits (by omega) (by rw [hz2]; omega))
    have hG := grownCap_ge w (0 + n) 0 39
    have hM := grownCap_le_maxLen w (0 + n) 0 39 (by unfold maxLen; omega)
    rw [Nat.zero_add] at *
    generalize hGG : grownCap w n 0 39 = G at *
    have HM := Lib.hid hM
    have HOB := Lib.hid (show (w.drew.alloc (.cells (([] : List Value).toArray ++ Builtin.zeroCells (Value.agg #[.int .i64 0, .int .i64 0, .slice none 0 0]).cells n ++ Builtin.zeroCells (Value.agg #[.int .i64 0, .int .i64 0, .slice none 0 0]).cells (G - n)) 39)).ownsRow w.heap.size 39 3 (.slice (some ⟨w.heap.size, 0, none⟩) 0 G) 0 [] from World.ownsRow_made w.drew _ G (Nat.le_refl _) hM (by rw [Array.size_append, Array.size_append, zeros_size, zeros_size]; simp [Value.cells]; omega))
    have HBB := Lib.hid (show Below w.heap.size w (w.drew.alloc (.cells (([] : List Value).toArray ++ Builtin.zeroCells (Value.agg #[.int .i64 0, .int .i64 0, .slice none 0 0]).cells n ++ Builtin.zeroCells (Value.agg #[.int .i64 0, .int .i64 0, .slice none 0 0]).cells (G - n)) 39)) from (Below.refl _ _).drew.alloc (Nat.le_refl _) _)
    generalize w.drew.alloc (.cells (([] : List Value).toArray ++ Builtin.zeroCells (Value.agg #[.int .i64 0, .int .i64 0, .slice none 0 0]).cells n ++ Builtin.zeroCells (Value.agg #[.int .i64 0, .int .i64 0, .slice none 0 0]).cells (G - n)) 39) = W at *
    have hG63 : G ≤ 9223372036854775807 := by unfold maxLen at hM; omega
    clear hGG hM h0
    go_enter Try.func57, Try.ntmps57
    go_wp2_with (at_builtin; refine Lib.wpList_append_run _ rfl _ _ _ _ rfl _ _ rfl rfl _ _ (hrz _) ?_)
    all_goals
      go_ret
      exact ⟨some ⟨w.heap.size, 0, none⟩, G, rfl, HOB.out, HBB.out⟩
end Go.Proofs.Ytgfkkbpnphbdgaa

set_option linter.unusedVariables false
set_option linter.unusedSimpArgs false
namespace Go.Proofs.Ytgfkkbpnphbdgaa
open Go.RowKit
open Doc Dr

variable {g : List (Int × List Int)} {u : List Int} {m C M1 M2 pc wc : Nat} {pa wa : Option Addr} {ls : List Lay}
/-- Two maps and a row may have turned. -/
structure KeptR (M1 M2 : Nat) (r : Option Nat) (w w' : World) : Prop where
  os : w'.os = w.os
  tape : w'.tape = w.tape
  output : w'.output = w.output
  size : w.heap.size ≤ w'.heap.size
  block : ∀ k, k < w.heap.size → k ≠ M1 → k ≠ M2 → some k ≠ r → w'.heap[k]? = w.heap[k]?
theorem KeptD.row {w w' : World} (h : KeptD M1 M2 w w') (r : Option Nat) : KeptR M1 M2 r w w' := ⟨h.os, h.tape, h.output, h.size, fun k hk h1 h2 _ => h.block k hk h1 h2⟩
theorem KeptR.trans {r : Option Nat} {a b c : World} (h : KeptR M1 M2 r a b) (k : KeptR M1 M2 r b c) : KeptR M1 M2 r a c :=
  ⟨k.os.trans h.os, k.tape.trans h.tape, k.output.trans h.output, Nat.le_trans h.size k.size, fun i hi h1 h2 h3 => (k.block i (Nat.lt_of_lt_of_le hi h.size) h1 h2 h3).trans (h.block i hi h1 h2 h3)⟩
/-- The second row is the first, or new. -/
theorem KeptR.then {r r' : Option Nat} {a b c : World} (h : KeptR M1 M2 r a b) (k : KeptR M1 M2 r' b c) (hr : ∀ x, r' = some x → r = some x ∨ a.heap.size ≤ x) : KeptR M1 M2 r a c :=
  ⟨k.os.trans h.os, k.tape.trans h.tape, k.output.trans h.output, Nat.le_trans h.size k.size, fun i hi h1 h2 h3 => (k.block i (Nat.lt_of_lt_of_le hi h.size) h1 h2 (fun e => by
    rcases hr i e.symm with h4 | h4
    · exact h3 h4.symm
    · omega)).trans (h.block i hi h1 h2 h3)⟩
theorem KeptR.grown {r : Option Nat} {w w' : World} (h : w.grownBy w' r) : KeptR M1 M2 r w w' := ⟨h.os, h.tape, h.output, h.size, fun k hk _ _ h3 => h.block k hk h3⟩
/-- The counter lies below B. -/
structure CtrB (g : List (Int × List Int)) (u : List Int) (m C M1 M2 : Nat) (pa : Option Addr) (pc : Nat) (wa : Option Addr) (wc : Nat) (ls : List Lay) (B : Nat) (W : World) : Prop where
  ex : ∃ S0 : World, S0.heap.size ≤ B ∧ Ctr g u m C M1 M2 pa pc wa wc ls S0 ∧ KeptD M1 M2 S0 W
  mg : MemG g u m M1 W
  mr : MemR g u m M2 W
theorem CtrB.ctr {B : Nat} {W : World} (h : CtrB g u m C M1 M2 pa pc wa wc ls B W) : Ctr g u m C M1 M2 pa pc wa wc ls W := by
  obtain ⟨⟨S0, _, hc, hk⟩, h1, h2⟩ := h
  exact hc.to hk h1 h2
theorem CtrB.low {B : Nat} {W : World} (h : CtrB g u m C M1 M2 pa pc wa wc ls B W) : M1 < B ∧ M2 < B := by
  obtain ⟨⟨S0, hl, hc, hk⟩, _, _⟩ := h
  obtain ⟨_, _, h1⟩ := hc.mg.map
  obtain ⟨_, _, h2⟩ := hc.mr.map
  have := heap_lt h1; have := heap_lt h2
  omega
theorem Ctr.low {W : World} (h : Ctr g u m C M1 M2 pa pc wa wc ls W) : M1 < W.heap.size ∧ M2 < W.heap.size := by
  obtain ⟨_, _, h1⟩ := h.mg.map
  obtain ⟨_, _, h2⟩ := h.mr.map
  exact ⟨heap_lt h1, heap_lt h2⟩
theorem Ctr.atB {W : World} (h : Ctr g u m C M1 M2 pa pc wa wc ls W) : CtrB g u m C M1 M2 pa pc wa wc ls W.heap.size W := ⟨⟨W, Nat.le_refl _, h, KeptD.refl _ _ _⟩, h.mg, h.mr⟩
theorem CtrB.up {B B' : Nat} {W : World} (h : CtrB g u m C M1 M2 pa pc wa wc ls B W) (hB : B ≤ B') : CtrB g u m C M1 M2 pa pc wa wc ls B' W := by
  obtain ⟨⟨S0, hl, hc, hk⟩, h1, h2⟩ := h
  exact ⟨⟨S0, by omega, hc, hk⟩, h1, h2⟩
theorem CtrB.to {B : Nat} {r : Option Nat} {W W' : World} (h : CtrB g u m C M1 M2 pa pc wa wc ls B W) (hk : KeptR M1 M2 r W W') (hr : ∀ x, r = some x → B ≤ x) (h1 : MemG g u m M1 W') (h2 : MemR g u m M2 W') : CtrB g u m C M1 M2 pa pc wa wc ls B W' := by
  obtain ⟨⟨S0, hl, hc, hk0⟩, _, _⟩ := h
  refine ⟨⟨S0, hl, hc, ⟨hk.os.trans hk0.os, hk.tape.trans hk0.tape, hk.output.trans hk0.output, Nat.le_trans hk0.size hk.size, fun k h3 h4 h5 => (hk.block k (Nat.lt_of_lt_of_le h3 hk0.size) h4 h5 (fun e => by have := hr k e.symm; omega)).trans (hk0.block k h3 h4 h5)⟩⟩, h1, h2⟩
/-- Where only a row of one's own has turned. -/
theorem CtrB.grow {B : Nat} {r : Option Nat} {W W' : World} (h : CtrB g u m C M1 M2 pa pc wa wc ls B W) (hg : W.grownBy W' r) (hr : ∀ x, r = some x → B ≤ x) : CtrB g u m C M1 M2 pa pc wa wc ls B W' := by
  have hl := h.low
  have hs := h.ctr.low
  exact h.to (KeptR.grown hg) hr (h.mg.at (hg.block _ hs.1 (fun e => by have := hr _ e.symm; omega))) (h.mr.at (hg.block _ hs.2 (fun e => by have := hr _ e.symm; omega)))
/-- Kids, in a row of one's own. -/
structure KidsD (B : Nat) (W : World) (rv : Value) (ks : List Tl) : Prop where
  own : W.ownsRow B 39 3 rv ks.length (tls ks)
  kids : ∀ t ∈ ks, Lies (fun b => B ≤ b ∧ rv.ownBlock ≠ some b) W t
theorem KidsD.low {B : Nat} {W : World} {rv : Value} {ks : List Tl} (h : KidsD B W rv ks) : ∀ x, rv.ownBlock = some x → B ≤ x := fun x hx => (own_block h.own hx).1
theorem KidsD.kept {B : Nat} {W W' : World} {rv : Value} {ks : List Tl} (h : KidsD B W rv ks) (hk : KeptD M1 M2 W W') (h1 : M1 < B) (h2 : M2 < B) : KidsD B W' rv ks where
  own := own_same h.own fun x hx hl => hk.block x hl (by have := h.low x hx; omega) (by have := h.low x hx; omega)
  kids := fun t ht => (h.kids t ht).keep hk.size (fun b hb hl => hk.block b hl (by have := hb.1; omega) (by have := hb.1; omega)) (fun b hb _ => hb)
theorem KidsD.grow {B g0 cap : Nat} {W W0 W' : World} {rv : Value} {ks : List Tl} {t : Tl} (h : KidsD B W rv ks) (ht : Lies (fun b => W0.heap.size ≤ b) W t) (hr0 : ∀ x, rv.ownBlock = some x → x < W0.heap.size) (hB : B ≤ W0.heap.size)
    (ho : W'.ownsRow B 39 3 (.slice (some ⟨g0, 0, none⟩) (ks.length + 1) cap) (ks.length + 1) (tls (ks ++ [t]))) (hg : W.grownBy W' rv.ownBlock) (ha : rv.ownBlock = some g0 ∨ g0 = W.heap.size) : KidsD B W' (.slice (some ⟨g0, 0, none⟩) (ks ++ [t]).length cap) (ks ++ [t]) := by
  have hlen : (ks ++ [t]).length = ks.length + 1 := by simp
  refine ⟨by rw [hlen]; exact ho, fun s hs => ?_⟩
  have key : Lies (fun b => B ≤ b ∧ rv.ownBlock ≠ some b) W s := by
    rcases List.mem_append.1 hs with hs | hs
    · exact h.kids s hs
    · rw [List.mem_singleton.1 hs]
      exact ht.weak fun b hb _ => ⟨by omega, fun e => by have := hr0 b e; omega⟩
  refine key.keep hg.size (fun b hb hl => hg.block b hl (fun e => hb.2 e.symm)) (fun b hb hl => ⟨hb.1, fun e => ?_⟩)
  have e' : g0 = b := by simpa [Value.ownBlock] using e
  rcases ha with ha | ha
  · exact hb.2 (e' ▸ ha)
  · omega
def TreeEndD (g : List (Int × List Int)) (u : List Int) (m C M1 M2 : Nat) (pa : Option Addr) (pc : Nat) (wa : Option Addr) (wc : Nat) (ls : List Lay) (x : Int) (s : Spn) (q : Nat) (W : World) (e : Ending) (W' : World) : Prop :=
  ∃ t : Tl, e = .returned (.agg #[.int .i64 t.sym, .int .i64 t.prod, .slice t.a t.kids.length t.c]) ∧ Lies (fun b => W.heap.size ≤ b) W' t ∧ [t.plain] = (all g u (.goal x s)).getD q [] ∧ KeptD M1 M2 W W' ∧ Ctr g u m C M1 M2 pa pc wa wc ls W'
def KidsEndD (g : List (Int × List Int)) (u : List Int) (m C M1 M2 : Nat) (pa : Option Addr) (pc : Nat) (wa : Option Addr) (wc : Nat) (ls : List Lay) (B : Nat) (r : Option Nat) (ks : List Tl) (p d : Nat) (s : Spn) (q : Nat) (W : World) (e : Ending) (W' : World) : Prop :=
  ∃ (a : Option Addr) (c : Nat) (kt : List Tl), e = .returned (.slice a (ks ++ kt).length c) ∧ KidsD B W' (.slice a (ks ++ kt).length c) (ks ++ kt) ∧ kt.map Tl.plain = (all g u (.row p d s)).getD q [] ∧ KeptR M1 M2 r W W' ∧ CtrB g u m C M1 M2 pa pc wa wc ls B W'
def KQd (BG BR : Nat) (G R : Array Value) (w' : World) : Prop := w'.heap[BG]? = some (.cells G 86) ∧ w'.heap[BR]? = some (.cells R 108)
/-- Where a kid is looked for: the counter, the kids by now, the two boxes. -/
structure StD (g : List (Int × List Int)) (u : List Int) (m C M1 M2 : Nat) (pa : Option Addr) (pc : Nat) (wa : Option Addr) (wc : Nat) (ls : List Lay) (B : Nat) (rv : Value) (ks : List Tl) (BG BR : Nat) (G R : Array Value) (S W : World) : Prop where
  cb : CtrB g u m C M1 M2 pa pc wa wc ls B W
  kd : KidsD B W rv ks
  k : KeptD M1 M2 S W
  kq : KQd BG BR G R W
theorem StD.call {B BG BR : Nat} {rv : Value} {ks : List Tl} {G R : Array Value} {S W W' : World} (h : StD g u m C M1 M2 pa pc wa wc ls B rv ks BG BR G R S W) (hk : KeptD M1 M2 W W') (hc : Ctr g u m C M1 M2 pa pc wa wc ls W') : StD g u m C M1 M2 pa pc wa wc ls B rv ks BG BR G R S W' where
  cb := h.cb.to (hk.row none) (fun x hx => by cases hx) hc.mg hc.mr
  kd := h.kd.kept hk h.cb.low.1 h.cb.low.2
  k := h.k.trans hk
  kq := ⟨h.cb.ctr.keeps hk h.kq.1, h.cb.ctr.keeps hk h.kq.2⟩
theorem StD.below {B BG BR : Nat} {rv : Value} {ks : List Tl} {G R : Array Value} {S W W' : World} (h : StD g u m C M1 M2 pa pc wa wc ls B rv ks BG BR G R S W) (hb : Below W.heap.size W W') : StD g u m C M1 M2 pa pc wa wc ls B rv ks BG BR G R S W' := h.call (KeptD.of hb) (h.cb.ctr.below hb)
/-- Behind the append of a kid. -/
structure ApD (g : List (Int × List Int)) (u : List Int) (m C M1 M2 : Nat) (pa : Option Addr) (pc : Nat) (wa : Option Addr) (wc : Nat) (ls : List Lay) (B : Nat) (r : Option Nat) (rv : Value) (ks : List Tl) (BG BR : Nat) (G R : Array Value) (S W : World) : Prop where
  cb : CtrB g u m C M1 M2 pa pc wa wc ls B W
  kd : KidsD B W rv ks
  k : KeptR M1 M2 r S W
  kq : KQd BG BR G R W
  hB : B ≤ W.heap.size
  own : ∀ x, rv.ownBlock = some x → r = some x ∨ S.heap.size ≤ x
  far : ∀ x, rv.ownBlock = some x → x ≠ BG ∧ x ≠ BR
theorem StD.app {B BG BR g0 cap : Nat} {rv : Value} {ks : List Tl} {G R : Array Value} {S W8 W W' : World} {t : Tl} (h : StD g u m C M1 M2 pa pc wa wc ls B rv ks BG BR G R S W) (ht : Lies (fun b => W8.heap.size ≤ b) W t) (hS : S.heap.size ≤ W8.heap.size) (hr0 : ∀ x, rv.ownBlock = some x → x < S.heap.size) (hB : B ≤ S.heap.size) (hG : S.heap.size ≤ BG) (hR : S.heap.size ≤ BR)
    (ho : W'.ownsRow B 39 3 (.slice (some ⟨g0, 0, none⟩) (ks.length + 1) cap) (ks.length + 1) (tls (ks ++ [t]))) (hg : W.grownBy W' rv.ownBlock) (ha : rv.ownBlock = some g0 ∨ g0 = W.heap.size) :
    ApD g u m C M1 M2 pa pc wa wc ls B rv.ownBlock (.slice (some ⟨g0, 0, none⟩) (ks ++ [t]).length cap) (ks ++ [t]) BG BR G R S W' where
  cb := h.cb.grow hg h.kd.low
  kd := h.kd.grow (W0 := W8) ht (fun x hx => by have := hr0 x hx; omega) (by omega) ho hg ha
  k := (h.k.row _).trans (KeptR.grown hg)
  kq := ⟨(hg.block _ (heap_lt h.kq.1) (fun e => by have := hr0 _ e.symm; omega)).trans h.kq.1, (hg.block _ (heap_lt h.kq.2) (fun e => by have := hr0 _ e.symm; omega)).trans h.kq.2⟩
  hB := Nat.le_trans hB (Nat.le_trans h.k.size hg.size)
  own := fun x hx => by
    have e : g0 = x := by simpa [Value.ownBlock] using hx
    subst e
    rcases ha with ha | ha
    · exact .inl ha
    · exact .inr (by have := h.k.size; omega)
  far := fun x hx => by
    have e : g0 = x := by simpa [Value.ownBlock] using hx
    subst e
    have h1 := heap_lt h.kq.1
    have h2 := heap_lt h.kq.2
    rcases ha with ha | ha
    · have := hr0 _ ha
      omega
    · omega
theorem ApD.kids {B BG BR : Nat} {r : Option Nat} {rv : Value} {ks : List Tl} {G R : Array Value} {S W W' : World} (h : ApD g u m C M1 M2 pa pc wa wc ls B r rv ks BG BR G R S W) (hk : KeptR M1 M2 rv.ownBlock W W') : KQd BG BR G R W' := by
  have hne : ∀ k cs t, W.heap[k]? = some (.cells cs t) → k ≠ M1 ∧ k ≠ M2 := fun k cs t hkk => by
    obtain ⟨_, _, h1⟩ := h.cb.ctr.mg.map
    obtain ⟨_, _, h2⟩ := h.cb.ctr.mr.map
    constructor
    · rintro rfl; rw [h1] at hkk; cases hkk
    · rintro rfl; rw [h2] at hkk; cases hkk
  exact ⟨(hk.block _ (heap_lt h.kq.1) (hne _ _ _ h.kq.1).1 (hne _ _ _ h.kq.1).2 (fun e => (h.far _ e.symm).1 rfl)).trans h.kq.1, (hk.block _ (heap_lt h.kq.2) (hne _ _ _ h.kq.2).1 (hne _ _ _ h.kq.2).2 (fun e => (h.far _ e.symm).2 rfl)).trans h.kq.2⟩
theorem row_of_own {B : Nat} {W : World} {rv : Value} {ks : List Tl} (h : KidsD B W rv ks) : ∀ x, rv.ownBlock = some x → x < W.heap.size := fun x hx => (own_block h.own hx).2.1
end Go.Proofs.Ytgfkkbpnphbdgaa

set_option linter.unusedVariables false
set_option linter.unusedSimpArgs false
namespace Go.Proofs.Ytgfkkbpnphbdgaa
open Go.RowKit
open Doc Dr

variable {g : List (Int × List Int)} {u : List Int} {m C M1 M2 pc wc : Nat} {pa wa : Option Addr} {ls : List Lay}
set_option maxRecDepth 100000 in
set_option maxHeartbeats 16000000 in
theorem addKids_of (ok : OkD g u m) (p d : Nat) (s : Spn) (hp : p < g.length) (hd : d ≤ (g.getD p (0, [])).2.length) (hs : InD u s)
    (ihT : ∀ i, d < (g.getD p (0, [])).2.length → i ≤ s.b - s.a → ∀ (q : Nat) W, q < m → q < (all g u (.goal ((g.getD p (0, [])).2.getD d 0) (fst_ s i))).length → Ctr g u m C M1 M2 pa pc wa wc ls W → Calls Try.prog 38 #[.pointer (some ⟨C, 0, none⟩), codeG ((g.getD p (0, [])).2.getD d 0, fst_ s i), .int .i64 q] W (TreeEndD g u m C M1 M2 pa pc wa wc ls ((g.getD p (0, [])).2.getD d 0) (fst_ s i) q W))
    (ihK : ∀ i, d < (g.getD p (0, [])).2.length → i ≤ s.b - s.a → ∀ (q B : Nat) (a' : Option Addr) (c' : Nat) (ks : List Tl) W, q < m → q < (all g u (.row p (d + 1) (snd_ s i))).length → B ≤ W.heap.size → CtrB g u m C M1 M2 pa pc wa wc ls B W → KidsD B W (.slice a' ks.length c') ks → ks.length ≤ d + 1 → Calls Try.prog 56 #[.pointer (some ⟨C, 0, none⟩), .slice a' ks.length c', codeR (p, d + 1, snd_ s i), .int .i64 q] W (KidsEndD g u m C M1 M2 pa pc wa wc ls B (Value.slice a' ks.length c').ownBlock ks p (d + 1) (snd_ s i) q W))
    {S : World} {B : Nat} (q0 : Nat) (ra : Option Addr) (rc : Nat) (ks : List Tl) (hq : q0 < m) (hql : q0 < (all g u (.row p d s)).length) (hBS : B ≤ S.heap.size) (hc : CtrB g u m C M1 M2 pa pc wa wc ls B S) (hks : KidsD B S (.slice ra ks.length rc) ks) (hkd : ks.length ≤ d) :
    Calls Try.prog 56 #[.pointer (some ⟨C, 0, none⟩), .slice ra ks.length rc, codeR (p, d, s), .int .i64 q0] S (KidsEndD g u m C M1 M2 pa pc wa wc ls B (Value.slice ra ks.length rc).ownBlock ks p d s q0 S) := by
  have hall := all_row g u ok.six (p := p) (d := d) (s := s) ⟨hs.ab, hs.le⟩
  have HD := Lib.hid fun W (h : Ctr g u m C M1 M2 pa pc wa wc ls W) => dn_any h ok.len p d s hp hd (ok.six.len p)
  have HU := Lib.hid fun W (h : Ctr g u m C M1 M2 pa pc wa wc ls W) (k : Nat) (hdl : d < (g.getD p (0, [])).2.length) (hk : k ≤ s.b - s.a) => dccut_any h ok p d k s hp hdl hs hk
  have HT := Lib.hid ihT
  have HK := Lib.hid ihK
  have HTN := Lib.hid fun (i : Nat) (hdl : d < (g.getD p (0, [])).2.length) (hi : i ≤ s.b - s.a) W (hW : Ctr g u m C M1 M2 pa pc wa wc ls W) => trees_any ok ((g.getD p (0, [])).2.getD d 0) (fst_ s i) (by
    have hm := getD_mem (d := d) hdl
    rw [List.getD_eq_getElem?_getD (l := g), List.getElem?_eq_getElem hp] at hm ⊢
    exact ok.syms _ (List.getElem_mem hp) _ hm) (hs.fst hi) hW
  have HRN := Lib.hid fun (i : Nat) (hdl : d < (g.getD p (0, [])).2.length) (hi : i ≤ s.b - s.a) W (hW : Ctr g u m C M1 M2 pa pc wa wc ls W) => kidRows_any ok p (d + 1) (snd_ s i) hp hdl (hs.snd hi) hW
  have hd7 : d ≤ 6 := by have := ok.six.len p; omega
  have HS := Lib.hid hs
  have hml := ok.ml
  have hle := hs.le
  have hhi := hs.hi
  have hul := ok.ul
  have HQL := Lib.hid hql
  have HKS := Lib.hid hks
  have HCB := Lib.hid hc
  have HOK := Lib.hid ok
  have hb := box_belowT S (.cells (Value.int .i64 p :: .int .i64 d :: .int .i64 s.a :: .int .i64 s.b :: bools s.ab).toArray 108)
  have q1 := heap_alloc_new S (.cells (Value.int .i64 p :: .int .i64 d :: .int .i64 s.a :: .int .i64 s.b :: bools s.ab).toArray 108)
  have HYY0 : Hid (∃ y, (g.getD p (0, [])).2.getD d 0 = y) := Lib.hid ⟨_, rfl⟩
  obtain ⟨y, hY⟩ := HYY0.out
  rw [hY] at HU HT HTN
  have HYY := Lib.hid hY
  clear HYY0
  have HLO := Lib.hid hc.low
  have HALL := Lib.hid hall
  obtain ⟨a, b, ab⟩ := s
  have h8 : ab.length = 8 := hs.ab
  obtain ⟨y0, y1, y2, y3, y4, y5, y6, y7, rfl⟩ := eight h8
  simp only [codeR, bools, List.map_cons, List.map_nil] at HD q1 hb
  have HUU := Lib.hid (show ∀ W (h : Ctr g u m C M1 M2 pa pc wa wc ls W) (k : Nat) (hdl : d < (g.getD p (0, [])).2.length) (hk : k ≤ b - a), Calls Try.prog 67 #[.pointer (some ⟨C, 0, none⟩), .agg #[.int .i64 p, .int .i64 d, .int .i64 a, .int .i64 b, .bool y0, .bool y1, .bool y2, .bool y3, .bool y4, .bool y5, .bool y6, .bool y7], .int .i64 k] W _ from HU.out)
  simp only at hle hhi
  have HC := Lib.hid (hc.ctr.below hb)
  have HQ := Lib.hid q1
  have HB := Lib.hid (KeptD.of (M1 := M1) (M2 := M2) hb)
  unfold codeR bools
  simp only [List.map_cons, List.map_nil]
  clear hall ihT ihK hb q1 hs h8 hc ok hY hd hp HU hks hql
  go_enter Try.func56, Try.ntmps56
  go_upto_region 1 with fail
  generalize S.alloc (.cells #[.int .i64 p, .int .i64 d, .int .i64 a, .int .i64 b, .bool y0, .bool y1, .bool y2, .bool y3, .bool y4, .bool y5, .bool y6, .bool y7] 108) = S1 at *
  have l0 := heap_lt HQ.out
  generalize hBX : S.heap.size = BX at *
  have HBX := Lib.hid hBX
  clear hBX
  obtain ⟨r0, r1, r2, r3, r4, r5, r6, r7, r8, r9, r10, r11, _⟩ := rowD_cells HQ.out
  go_upto_if 16 with (go_at_call 66; (with_reducible refine (HD.out _ HC.out).mono ?_); rintro e w2 ⟨rfl, hb2⟩)
  have HK2 := Lib.hid (HB.out.below hb2)
  have HC2 := Lib.hid (HC.out.below hb2)
  have HQ2 := Lib.hid ((hb2.block _ l0).trans HQ.out)
  clear r0 r1 r2 r3 r4 r5 r6 r7 r8 r9 r10 r11 hb2 HB HC HQ l0 HD
  obtain ⟨r0, r1, r2, r3, r4, r5, r6, r7, r8, r9, r10, r11, l0⟩ := rowD_cells HQ2.out
  by_cases hdl : (g.getD p (0, [])).2.length ≤ d
  · have HN2 := Lib.hid (HALL.out.trans (if_pos hdl))
    have hdb : dnB g p d = true := decide_eq_true hdl
    rw [hdb]
    clear hdb HALL
    go_wp2
    go_ret
    refine ⟨ra, rc, [], by rw [List.append_nil]; rfl, by rw [List.append_nil]; exact HKS.out.kept HK2.out HLO.out.1 HLO.out.2, ?_, HK2.out.row _, HCB.out.to (HK2.out.row none) (fun x h => by cases h) HC2.out.mg HC2.out.mr⟩
    have h1 := HQL.out
    rw [HN2.out] at h1 ⊢
    by_cases hab : a = b
    · rw [if_pos hab] at h1 ⊢
      obtain rfl : q0 = 0 := by simpa using h1
      rfl
    · rw [if_neg hab] at h1; simp at h1
  · have HN2 := Lib.hid ((HALL.out.trans (if_neg hdl)).trans (rTail_all g u (p := p) (d := d) (s := ⟨a, b, [y0, y1, y2, y3, y4, y5, y6, y7]⟩)).symm)
    have hdb : dnB g p d = false := decide_eq_false hdl
    have HDL := Lib.hid (show d < (g.getD p (0, [])).2.length by omega)
    rw [hdb]
    clear hdb hdl HALL
    obtain ⟨n0, hn0⟩ : ∃ n0 : Nat, b - a = n0 := ⟨_, rfl⟩
    have hba : (b : Int) - (a : Int) = (n0 : Int) := by omega
    have hwr0 : IntKind.i64.wrap ((b : Int) - (a : Int)) = (n0 : Int) := by rw [hba]; exact IntWalk.i64_in _ (by omega)
    have hwr1 : IntKind.i64.wrap ((n0 : Int) + 1) = (n0 : Int) + 1 := IntWalk.i64_in _ (by omega)
    have hn12 : n0 ≤ 12 := by omega
    have HN0 := Lib.hid hn0
    clear hn0 hba
    go_upto_region 4 with fail
    clear r0 r1 r2 r3 r4 r5 r6 r7 r8 r9 r10 r11
    go_loopw [3, 26] (fun pv iv wr => ∃ q k : Nat, pv = .int .i64 q ∧ iv = .int .i64 k ∧ k ≤ n0 + 1 ∧ q ≤ q0 ∧ Hid (q < (rTail g u p d ⟨a, b, [y0, y1, y2, y3, y4, y5, y6, y7]⟩ k).length ∧ (rTail g u p d ⟨a, b, [y0, y1, y2, y3, y4, y5, y6, y7]⟩ k).getD q [] = (all g u (.row p d ⟨a, b, [y0, y1, y2, y3, y4, y5, y6, y7]⟩)).getD q0 []) ∧ Hid (KeptD M1 M2 S wr) ∧ Hid (Ctr g u m C M1 M2 pa pc wa wc ls wr) ∧ Hid (wr.heap[BX]? = some (.cells #[.int .i64 p, .int .i64 d, .int .i64 a, .int .i64 b, .bool y0, .bool y1, .bool y2, .bool y3, .bool y4, .bool y5, .bool y6, .bool y7] 108))) (fun _ iv _ => n0 + 1 - (intOf iv).toNat)
    case atStart => exact ⟨q0, 0, rfl, rfl, by omega, by omega, Lib.hid ⟨by rw [← HN2.out]; exact HQL.out, by rw [← HN2.out]⟩, HK2, HC2, HQ2⟩
    case round =>
      obtain ⟨q, k, rfl, rfl, hk, hqq, HQT, HKR, HCR, HQR⟩ := hrel
      clear HK2 HC2 HQ2
      have hBXl := heap_lt HQR.out
      obtain ⟨r0, r1, r2, r3, r4, r5, r6, r7, r8, r9, r10, r11, l0⟩ := rowD_cells HQR.out
      obtain ⟨c0, c1, c2, c3, c4, lc⟩ := HCR.out.five
      by_cases hkl : k ≤ n0
      · have e1 : (k : Int) < (n0 : Int) + 1 := by omega
        have hk2 : k ≤ b - a := by have := HN0.out; omega
        obtain ⟨f0, f1, f2, f3, f4, f5, f6, f7, hf⟩ := eight (HS.out.fst hk2).ab
        obtain ⟨z0, z1, z2, z3, z4, z5, z6, z7, hz⟩ := eight (HS.out.snd hk2).ab
        have hfe : fst_ ⟨a, b, [y0, y1, y2, y3, y4, y5, y6, y7]⟩ k = ⟨a, a + k, [f0, f1, f2, f3, f4, f5, f6, f7]⟩ := by rw [← hf]; rfl
        have hze : snd_ ⟨a, b, [y0, y1, y2, y3, y4, y5, y6, y7]⟩ k = ⟨a + k, b, [z0, z1, z2, z3, z4, z5, z6, z7]⟩ := by rw [← hz]; rfl
        have hu := HUU.out wr HCR.out k HDL.out hk2
        have ht := HTN.out k HDL.out hk2
        have hkk := HRN.out k HDL.out hk2
        have hT := HT.out k HDL.out hk2
        have hK := HK.out k HDL.out hk2
        have HSTEP := Lib.hid (rTail_step g u (p := p) (d := d) (s := ⟨a, b, [y0, y1, y2, y3, y4, y5, y6, y7]⟩) (n := k) (by show k ≤ b - a; omega))
        have HOFN := Lib.hid (show ofN g u p d ⟨a, b, [y0, y1, y2, y3, y4, y5, y6, y7]⟩ k = (all g u (.goal y (fst_ ⟨a, b, [y0, y1, y2, y3, y4, y5, y6, y7]⟩ k))).flatMap fun t => (all g u (.row p (d + 1) (snd_ ⟨a, b, [y0, y1, y2, y3, y4, y5, y6, y7]⟩ k))).map fun ks => t ++ ks by unfold ofN; rw [HYY.out])
        have hNX := num_all m g u (.goal y (fst_ ⟨a, b, [y0, y1, y2, y3, y4, y5, y6, y7]⟩ k))
        have hNY := num_all m g u (.row p (d + 1) (snd_ ⟨a, b, [y0, y1, y2, y3, y4, y5, y6, y7]⟩ k))
        unfold TreeEndD at hT
        unfold KidsEndD at hK
        unfold JobEnd at ht hkk
        rw [hfe, hze] at hu
        generalize hAX : all g u (.goal y (fst_ ⟨a, b, [y0, y1, y2, y3, y4, y5, y6, y7]⟩ k)) = AX at *
        generalize hAY : all g u (.row p (d + 1) (snd_ ⟨a, b, [y0, y1, y2, y3, y4, y5, y6, y7]⟩ k)) = AY at *
        obtain ⟨nx, hnx⟩ : ∃ nx, min m AX.length = nx := ⟨_, rfl⟩
        obtain ⟨ny, hny⟩ : ∃ ny, min m AY.length = ny := ⟨_, rfl⟩
        rw [hNX, hnx] at ht
        rw [hNY, hny] at hkk
        rw [hfe] at ht hT
        rw [hze] at hkk hK
        simp only [codeG, codeR, bools, List.map_cons, List.map_nil] at hu ht hkk hT hK
        push_cast at ht hkk hT hK
        have HU1 := Lib.hid hu
        have HT1 := Lib.hid ht
        have HK1 := Lib.hid hkk
        have HTT := Lib.hid hT
        have HKK := Lib.hid hK
        have HNX := Lib.hid hnx
        have HNY := Lib.hid hny
        have hnxm : nx ≤ 200 := by omega
        have hnym : ny ≤ 200 := by omega
        have hmul : nx * ny ≤ 40000 := Nat.mul_le_mul hnxm hnym
        have hmi : ((nx : Int) * (ny : Int)) = ((nx * ny : Nat) : Int) := by push_cast; rfl
        have hw1 : IntKind.i64.wrap ((nx : Int) * (ny : Int)) = (nx : Int) * (ny : Int) := IntWalk.i64_in _ (by rw [hmi]; omega)
        have HMU := Lib.hid hmul
        have HMI := Lib.hid hmi
        have HKL := Lib.hid hkl
        have HQM := Lib.hid (show q < m by omega)
        clear hu ht hkk hT hK hfe hze hf hz hNX hNY hAX hAY hnx hny hmul hmi hkl hk2
        go_upto_region 7 with (go_at_call 67; (with_reducible refine HU1.out.mono ?_); rintro e w5 ⟨rfl, hb5⟩)
        obtain ⟨hbA, hsA, qA0, qA1⟩ := twin_alloc w5 (.cells #[.int .i64 y, .int .i64 a, .int .i64 ((a : Int) + (k : Int)), .bool f0, .bool f1, .bool f2, .bool f3, .bool f4, .bool f5, .bool f6, .bool f7] 86) (.cells #[.int .i64 p, .int .i64 ((d : Int) + 1), .int .i64 ((a : Int) + (k : Int)), .int .i64 b, .bool z0, .bool z1, .bool z2, .bool z3, .bool z4, .bool z5, .bool z6, .bool z7] 108)
        have HCA := Lib.hid ((HCR.out.below hb5).below hbA)
        have HKA := Lib.hid ((HKR.out.below hb5).below hbA)
        have HQA := Lib.hid ((hbA.block _ (Nat.lt_of_lt_of_le hBXl hb5.size)).trans ((hb5.block _ hBXl).trans HQR.out))
        have HG := Lib.hid qA0
        have HR := Lib.hid qA1
        have HBG := Lib.hid (show S.heap.size ≤ w5.heap.size from Nat.le_trans HKR.out.size hb5.size)
        clear r0 r1 r2 r3 r4 r5 r6 r7 r8 r9 r10 r11 l0 c0 c1 c2 c3 c4 lc hb5 hbA hsA qA0 qA1 HKR HCR HQR HU1 hBXl
        generalize (w5.alloc (.cells #[.int .i64 y, .int .i64 a, .int .i64 ((a : Int) + (k : Int)), .bool f0, .bool f1, .bool f2, .bool f3, .bool f4, .bool f5, .bool f6, .bool f7] 86)).alloc (.cells #[.int .i64 p, .int .i64 ((d : Int) + 1), .int .i64 ((a : Int) + (k : Int)), .int .i64 b, .bool z0, .bool z1, .bool z2, .bool z3, .bool z4, .bool z5, .bool z6, .bool z7] 108) = W6 at *
        have HBG1 := Lib.hid (show S.heap.size ≤ w5.heap.size + 1 by have := HBG.out; omega)
        generalize w5.heap.size + 1 = BR at *
        generalize w5.heap.size = BG at *
        obtain ⟨r0, r1, r2, r3, r4, r5, r6, r7, r8, r9, r10, r11, l0⟩ := rowD_cells HR.out
        go_upto_region 8 with (go_at_call 55; (with_reducible refine (HK1.out _ HCA.out).mono ?_); rintro e w7 ⟨rfl, hk7, hc7⟩)
        have HC7 := Lib.hid hc7
        have HK7 := Lib.hid (HKA.out.trans hk7)
        have HQ7 := Lib.hid (HCA.out.keeps hk7 HQA.out)
        have HR7 := Lib.hid (HCA.out.keeps hk7 HR.out)
        have HG7 := Lib.hid (HCA.out.keeps hk7 HG.out)
        clear r0 r1 r2 r3 r4 r5 r6 r7 r8 r9 r10 r11 l0 hk7 hc7 HCA HKA HQA HG HR HK1
        obtain ⟨g0, g1, g2, g3, g4, g5, g6, g7, g8, g9, g10, gl⟩ := goalD_cells HG7.out
        go_upto_region 9 with (go_at_call 36; (with_reducible refine (HT1.out _ HC7.out).mono ?_); rintro e w8 ⟨rfl, hk8, hc8⟩)
        have HC8 := Lib.hid hc8
        have HK8 := Lib.hid (HK7.out.trans hk8)
        have HQ8 := Lib.hid (HC7.out.keeps hk8 HQ7.out)
        have HR8 := Lib.hid (HC7.out.keeps hk8 HR7.out)
        have HG8 := Lib.hid (HC7.out.keeps hk8 HG7.out)
        clear g0 g1 g2 g3 g4 g5 g6 g7 g8 g9 g10 gl hk8 hc8 HC7 HK7 HQ7 HG7 HR7 HT1
        by_cases hlt : q < nx * ny
        · have e2 : (q : Int) < (nx : Int) * (ny : Int) := by rw [HMI.out]; omega
          obtain ⟨v1, v2, v3, v4, v5, v6, v7, v8⟩ := cut_lt (x := AX.length) (y := AY.length) HQM.out (by rw [HNX.out, HNY.out]; exact hlt)
          rw [HNY.out] at v1 v2 v3
          obtain ⟨i0, hi0, hz0, hz1, hz2⟩ := info_of infoTq
          obtain ⟨qd, hqd⟩ : ∃ qd, q / ny = qd := ⟨_, rfl⟩
          obtain ⟨qm, hqm⟩ : ∃ qm, q % ny = qm := ⟨_, rfl⟩
          have hqdl : qd ≤ q := by rw [← hqd]; exact Nat.div_le_self _ _
          have hqml : qm ≤ q := by rw [← hqm]; exact Nat.mod_le _ _
          have hq1 : (q : Int).tdiv (ny : Int) = (qd : Int) := by rw [Int.tdiv_eq_ediv_of_nonneg (by omega), ← hqd]; exact (Int.natCast_ediv q ny).symm
          have hq2 : (q : Int).tmod (ny : Int) = (qm : Int) := by rw [Int.tmod_eq_emod_of_nonneg (by omega), ← hqm]; exact (Int.natCast_emod q ny).symm
          have hw3 : IntKind.i64.wrap (qd : Int) = qd := IntWalk.i64_in _ (by omega)
          have hw4 : IntKind.i64.wrap (qm : Int) = qm := IntWalk.i64_in _ (by omega)
          have hn0 : ((ny : Int) == 0) = false := beq_eq_false_iff_ne.2 (by omega)
          have hn1 : ¬ (ny : Int) = 0 := by omega
          have hn2 : ¬ ny = 0 := by omega
          have hc1 : ((q / ny : Nat) : Int) = (qd : Int) := by rw [hqd]
          have hc2 : ((q % ny : Nat) : Int) = (qm : Int) := by rw [hqm]
          have hc3 : (q : Int) / (ny : Int) = (qd : Int) := by rw [← hc1]; exact (Int.natCast_ediv q ny).symm
          have hc4 : (q : Int) % (ny : Int) = (qm : Int) := by rw [← hc2]; exact (Int.natCast_emod q ny).symm
          have HFIN := Lib.hid (show ∀ (tp : Tr) (kp : List Tr), [tp] = AX.getD qd [] → kp = AY.getD qm [] → tp :: kp = (all g u (.row p d ⟨a, b, [y0, y1, y2, y3, y4, y5, y6, y7]⟩)).getD q0 [] from fun tp kp h1 h2 => by
            have h3 := HQT.out.2
            have hl := len_pairs (β := Tr) AX AY
            rw [HSTEP.out, HOFN.out, List.getD_eq_getElem?_getD, List.getElem?_append_left (by rw [hl]; exact v6), pairs_get AX AY q v6] at h3
            rw [← h3, ← v2, ← v3, hqd, hqm, ← h1, ← h2]; rfl)
          have HST8 := Lib.hid (⟨HCB.out.to (HK8.out.row none) (fun x hx => by cases hx) HC8.out.mg HC8.out.mr, HKS.out.kept HK8.out HLO.out.1 HLO.out.2, HK8.out, HG8.out, HR8.out⟩ : StD g u m C M1 M2 pa pc wa wc ls B (.slice ra ks.length rc) ks BG BR #[.int .i64 y, .int .i64 a, .int .i64 ((a : Int) + (k : Int)), .bool f0, .bool f1, .bool f2, .bool f3, .bool f4, .bool f5, .bool f6, .bool f7] #[.int .i64 p, .int .i64 ((d : Int) + 1), .int .i64 ((a : Int) + (k : Int)), .int .i64 b, .bool z0, .bool z1, .bool z2, .bool z3, .bool z4, .bool z5, .bool z6, .bool z7] S w8)
          have HSTD := Lib.hid (HST8.out.below (W' := w8.drew) ⟨rfl, rfl, rfl, Nat.le_refl _, fun _ _ => rfl⟩)
          have HKQD := Lib.hid HSTD.out.kq
          have HTQ := Lib.hid (HTT.out qd w8.drew (by omega) (by omega) HSTD.out.cb.ctr)
          have HKQ : Hid (∀ w', Hid (KQd BG BR #[.int .i64 y, .int .i64 a, .int .i64 ((a : Int) + (k : Int)), .bool f0, .bool f1, .bool f2, .bool f3, .bool f4, .bool f5, .bool f6, .bool f7] #[.int .i64 p, .int .i64 ((d : Int) + 1), .int .i64 ((a : Int) + (k : Int)), .int .i64 b, .bool z0, .bool z1, .bool z2, .bool z3, .bool z4, .bool z5, .bool z6, .bool z7] w') → (((w'.cell? ⟨BG, 0, none⟩ = some (.int .i64 y) ∧ w'.cell? ⟨BG, 1, none⟩ = some (.int .i64 a) ∧ w'.cell? ⟨BG, 2, none⟩ = some (.int .i64 ((a : Int) + (k : Int))) ∧ w'.cell? ⟨BG, 3, none⟩ = some (.bool f0) ∧ w'.cell? ⟨BG, 4, none⟩ = some (.bool f1) ∧ w'.cell? ⟨BG, 5, none⟩ = some (.bool f2) ∧ w'.cell? ⟨BG, 6, none⟩ = some (.bool f3) ∧ w'.cell? ⟨BG, 7, none⟩ = some (.bool f4) ∧ w'.cell? ⟨BG, 8, none⟩ = some (.bool f5) ∧ w'.cell? ⟨BG, 9, none⟩ = some (.bool f6) ∧ w'.cell? ⟨BG, 10, none⟩ = some (.bool f7)) ∧ (w'.cell? ⟨BR, 0, none⟩ = some (.int .i64 p) ∧ w'.cell? ⟨BR, 1, none⟩ = some (.int .i64 ((d : Int) + 1)) ∧ w'.cell? ⟨BR, 2, none⟩ = some (.int .i64 ((a : Int) + (k : Int))) ∧ w'.cell? ⟨BR, 3, none⟩ = some (.int .i64 b) ∧ w'.cell? ⟨BR, 4, none⟩ = some (.bool z0) ∧ w'.cell? ⟨BR, 5, none⟩ = some (.bool z1) ∧ w'.cell? ⟨BR, 6, none⟩ = some (.bool z2) ∧ w'.cell? ⟨BR, 7, none⟩ = some (.bool z3) ∧ w'.cell? ⟨BR, 8, none⟩ = some (.bool z4) ∧ w'.cell? ⟨BR, 9, none⟩ = some (.bool z5) ∧ w'.cell? ⟨BR, 10, none⟩ = some (.bool z6) ∧ w'.cell? ⟨BR, 11, none⟩ = some (.bool z7))) ∧ (BG < w'.heap.size ∧ BR < w'.heap.size)) ∧ Hid (KQd BG BR #[.int .i64 y, .int .i64 a, .int .i64 ((a : Int) + (k : Int)), .bool f0, .bool f1, .bool f2, .bool f3, .bool f4, .bool f5, .bool f6, .bool f7] #[.int .i64 p, .int .i64 ((d : Int) + 1), .int .i64 ((a : Int) + (k : Int)), .int .i64 b, .bool z0, .bool z1, .bool z2, .bool z3, .bool z4, .bool z5, .bool z6, .bool z7] w')) := Lib.hid fun w' h => by
            obtain ⟨h0, h1, h2, h3, h4, h5, h6, h7, h8, h9, h10, h11⟩ := goalD_cells h.out.1
            obtain ⟨j0, j1, j2, j3, j4, j5, j6, j7, j8, j9, j10, j11, j12⟩ := rowD_cells h.out.2
            exact ⟨⟨⟨⟨h0, h1, h2, h3, h4, h5, h6, h7, h8, h9, h10⟩, ⟨j0, j1, j2, j3, j4, j5, j6, j7, j8, j9, j10, j11⟩⟩, h11, j12⟩, h⟩
          have HOW := Lib.hid (row_of_own HKS.out)
          have HQML := Lib.hid (show qm < m ∧ qm < AY.length by omega)
          have hkl7 : ks.length ≤ 6 := by omega
          have HBS := Lib.hid (show B ≤ S.heap.size by rw [HBX.out]; exact hBS)
          clear hqd hqm v1 v2 v3 v4 v5 v6 v7 v8 HST8 hlt
          go_upto_region 10 with fail
          go_region_held3 (fun w' => (((w'.cell? ⟨BG, 0, none⟩ = some (.int .i64 y) ∧ w'.cell? ⟨BG, 1, none⟩ = some (.int .i64 a) ∧ w'.cell? ⟨BG, 2, none⟩ = some (.int .i64 ((a : Int) + (k : Int))) ∧ w'.cell? ⟨BG, 3, none⟩ = some (.bool f0) ∧ w'.cell? ⟨BG, 4, none⟩ = some (.bool f1) ∧ w'.cell? ⟨BG, 5, none⟩ = some (.bool f2) ∧ w'.cell? ⟨BG, 6, none⟩ = some (.bool f3) ∧ w'.cell? ⟨BG, 7, none⟩ = some (.bool f4) ∧ w'.cell? ⟨BG, 8, none⟩ = some (.bool f5) ∧ w'.cell? ⟨BG, 9, none⟩ = some (.bool f6) ∧ w'.cell? ⟨BG, 10, none⟩ = some (.bool f7)) ∧ (w'.cell? ⟨BR, 0, none⟩ = some (.int .i64 p) ∧ w'.cell? ⟨BR, 1, none⟩ = some (.int .i64 ((d : Int) + 1)) ∧ w'.cell? ⟨BR, 2, none⟩ = some (.int .i64 ((a : Int) + (k : Int))) ∧ w'.cell? ⟨BR, 3, none⟩ = some (.int .i64 b) ∧ w'.cell? ⟨BR, 4, none⟩ = some (.bool z0) ∧ w'.cell? ⟨BR, 5, none⟩ = some (.bool z1) ∧ w'.cell? ⟨BR, 6, none⟩ = some (.bool z2) ∧ w'.cell? ⟨BR, 7, none⟩ = some (.bool z3) ∧ w'.cell? ⟨BR, 8, none⟩ = some (.bool z4) ∧ w'.cell? ⟨BR, 9, none⟩ = some (.bool z5) ∧ w'.cell? ⟨BR, 10, none⟩ = some (.bool z6) ∧ w'.cell? ⟨BR, 11, none⟩ = some (.bool z7))) ∧ (BG < w'.heap.size ∧ BR < w'.heap.size)) ∧ Hid (KQd BG BR #[.int .i64 y, .int .i64 a, .int .i64 ((a : Int) + (k : Int)), .bool f0, .bool f1, .bool f2, .bool f3, .bool f4, .bool f5, .bool f6, .bool f7] #[.int .i64 p, .int .i64 ((d : Int) + 1), .int .i64 ((a : Int) + (k : Int)), .int .i64 b, .bool z0, .bool z1, .bool z2, .bool z3, .bool z4, .bool z5, .bool z6, .bool z7] w')) (first | exact HKQ.out _ (by assumption)) (first
            | (go_at_call 38; (with_reducible refine HTQ.out.mono ?_); rintro e w9 ⟨t, rfl, hl9, hp9, hk9, hc9⟩; have HST9 := Lib.hid (HSTD.out.call hk9 hc9); have HSTA := Lib.hid (HST9.out.below (box_belowT w9 (.cells #[.int .i64 t.sym, .int .i64 t.prod, .slice t.a t.kids.length t.c] 39))); have HKQ9 := Lib.hid HST9.out.kq; have HKQA := Lib.hid HSTA.out.kq; have HLA := Lib.hid (hl9.under (box_belowT w9 (.cells #[.int .i64 t.sym, .int .i64 t.prod, .slice t.a t.kids.length t.c] 39))); have HPL := Lib.hid hp9; have HS9 := Lib.hid (show S.heap.size ≤ w8.drew.heap.size from HSTD.out.k.size); have HZ9 := Lib.hid (show w8.drew.heap.size ≤ w9.heap.size from hk9.size); clear hl9 hp9 hk9 hc9)
            | (refine step_append_lies _ ?_ (.tmp 48) (.tmp 55) 34 ?_ B 39 i0 (.agg #[.int .i64 0, .int .i64 0, .slice none 0 0]) 3 40 Try.underlying34 hi0 hz0 hz1 hz2 rfl (by decide) (.slice ra ks.length rc) ks.length (tls ks) ?_ HSTA.out.kd.own ⟨w9.heap.size, 0, none⟩ 1 1 [.int .i64 t.sym, .int .i64 t.prod, .slice t.a t.kids.length t.c] ?_ ?_ (World.news_of_block (cs := #[.int .i64 t.sym, .int .i64 t.prod, .slice t.a t.kids.length t.c]) (t := 39) (fr := (0, 0)) (heap_alloc_new w9 (.cells #[.int .i64 t.sym, .int .i64 t.prod, .slice t.a t.kids.length t.c] 39))) ?_ (by decide) ?_ ?_ ?_ (w9.heap.size + 1) ?_ ?_; (rfl); (rfl); (rfl); (rfl); (rfl); (simp [Value.oneCell']); (unfold maxLen; omega); (omega); (have h1 := HBS.out; have h2 := HS9.out; have h3 := HZ9.out; simp; omega); (simp); intro gg cap w10 hown10 hgrow10 hat10 hlt10; have HAP := Lib.hid (HSTA.out.app HLA.out HS9.out HOW.out HBS.out HBG.out HBG1.out (by rw [tls_app]; exact hown10) hgrow10 (by rcases hat10 with h | h; exact .inl h; exact .inr (by rw [h]; simp))); have HKQ10 := Lib.hid HAP.out.kq; have HKN0 := HKK.out qm B (some ⟨gg, 0, none⟩) cap (ks ++ [t]) w10 HQML.out.1 HQML.out.2 HAP.out.hB HAP.out.cb HAP.out.kd (by simp; omega); simp only [List.append_assoc, List.cons_append, List.nil_append] at HKN0; rw [show (ks ++ [t]).length = ks.length + 1 by simp] at HKN0; have HKN := Lib.hid HKN0; clear HKN0 hown10 hgrow10 hat10)
            | (go_at_call 56; (with_reducible refine HKN.out.mono ?_); rintro e w11 ⟨a2, c2, kt, rfl, hkd2, hpl2, hkr2, hcb2⟩; have HKQ11 := Lib.hid (HAP.out.kids (by rw [show (ks ++ [t]).length = ks.length + 1 by simp]; exact hkr2)); have HE11 := Lib.hid (⟨hkd2, hpl2, hkr2, hcb2⟩ : _ ∧ _ ∧ _ ∧ _); clear hkd2 hpl2 hkr2 hcb2))
          all_goals
            go_wp2
            go_ret
            obtain ⟨h1, h2, h3, h4⟩ := HE11.out
            exact ⟨a2, c2, t :: kt, by (first | rfl | simp), h1, by rw [List.map_cons]; exact HFIN.out _ _ HPL.out h2, HAP.out.k.then (by rw [show (ks ++ [t]).length = ks.length + 1 by simp]; exact h3) HAP.out.own, h4⟩
        · have e2 : ¬ (q : Int) < (nx : Int) * (ny : Int) := by rw [HMI.out]; omega
          obtain ⟨v1, v2⟩ := cut_ge (x := AX.length) (y := AY.length) HQM.out (by rw [HNX.out, HNY.out]; exact hlt)
          rw [HNX.out, HNY.out] at v1
          have hsub : (q : Int) - (nx : Int) * (ny : Int) = ((q - nx * ny : Nat) : Int) := by rw [HMI.out]; omega
          have hw2 : IntKind.i64.wrap ((q : Int) - (nx : Int) * (ny : Int)) = ((q - nx * ny : Nat) : Int) := by rw [hsub]; exact IntWalk.i64_in _ (by omega)
          have HNEW := Lib.hid (show q - nx * ny < (rTail g u p d ⟨a, b, [y0, y1, y2, y3, y4, y5, y6, y7]⟩ (k + 1)).length ∧ (rTail g u p d ⟨a, b, [y0, y1, y2, y3, y4, y5, y6, y7]⟩ (k + 1)).getD (q - nx * ny) [] = (all g u (.row p d ⟨a, b, [y0, y1, y2, y3, y4, y5, y6, y7]⟩)).getD q0 [] by
            obtain ⟨h1, h2⟩ := HQT.out
            rw [HSTEP.out, HOFN.out] at h1 h2
            have hl := len_pairs (β := Tr) AX AY
            rw [List.length_append, hl] at h1
            rw [List.getD_eq_getElem?_getD, List.getElem?_append_right (by rw [hl]; exact v2), hl] at h2
            rw [v1]
            exact ⟨by omega, by rw [List.getD_eq_getElem?_getD]; exact h2⟩)
          clear hlt v1 v2 hsub
          go_wp2
          exact ⟨⟨q - nx * ny, k + 1, rfl, by go_num, by have := HKL.out; omega, by omega, HNEW, HK8, HC8, HQ8⟩, by have := HKL.out; simp [intOf]; omega⟩
      · have h1 := HQT.out.1
        rw [rTail_end g u (by show b - a < k; have := HN0.out; omega)] at h1
        simp at h1
end Go.Proofs.Ytgfkkbpnphbdgaa

set_option linter.unusedVariables false
set_option linter.unusedSimpArgs false
namespace Go.Proofs.Ytgfkkbpnphbdgaa
open Go.RowKit
open Doc Dr

variable {g : List (Int × List Int)} {u : List Int} {m C M1 M2 pc wc : Nat} {pa wa : Option Addr} {ls : List Lay}
def KQt (GX PB RX : Nat) (G P R : Array Value) (w' : World) : Prop := w'.heap[GX]? = some (.cells G 86) ∧ w'.heap[PB]? = some (.cells P 63) ∧ w'.heap[RX]? = some (.cells R 108)
theorem KeptR.drop {r : Option Nat} {W W' : World} (h : KeptR M1 M2 r W W') (hr : ∀ x, r = some x → W.heap.size ≤ x) : KeptD M1 M2 W W' := ⟨h.os, h.tape, h.output, h.size, fun k hk h1 h2 => h.block k hk h1 h2 (fun e => by have := hr k e.symm; omega)⟩
theorem ne_maps {W : World} {k : Nat} {cs : Array Value} {ty : TypeId} (h : Ctr g u m C M1 M2 pa pc wa wc ls W) (hk : W.heap[k]? = some (.cells cs ty)) : k ≠ M1 ∧ k ≠ M2 := by
  obtain ⟨_, _, h1⟩ := h.mg.map
  obtain ⟨_, _, h2⟩ := h.mr.map
  constructor
  · rintro rfl; rw [h1] at hk; cases hk
  · rintro rfl; rw [h2] at hk; cases hk
theorem cell_kept {W W' : World} {r : Option Nat} {k : Nat} {cs : Array Value} {ty : TypeId} (h : Ctr g u m C M1 M2 pa pc wa wc ls W) (hk : W.heap[k]? = some (.cells cs ty)) (hr : KeptR M1 M2 r W W') (hx : ∀ x, r = some x → k < x) : W'.heap[k]? = some (.cells cs ty) :=
  (hr.block k (heap_lt hk) (ne_maps h hk).1 (ne_maps h hk).2 (fun e => by have := hx k e.symm; omega)).trans hk
theorem kqt_kept {W W' : World} {r : Option Nat} {GX PB RX B : Nat} {G P R : Array Value} (h : Ctr g u m C M1 M2 pa pc wa wc ls W) (hk : KQt GX PB RX G P R W) (hr : KeptR M1 M2 r W W') (hx : ∀ x, r = some x → B ≤ x) (hB : GX < B ∧ PB < B ∧ RX < B) : KQt GX PB RX G P R W' :=
  ⟨cell_kept h hk.1 hr (fun x e => by have := hx x e; omega), cell_kept h hk.2.1 hr (fun x e => by have := hx x e; omega), cell_kept h hk.2.2 hr (fun x e => by have := hx x e; omega)⟩
theorem kqt_set {W : World} {GX PB RX : Nat} {G P R : Array Value} (h : KQt GX PB RX G P R W) (h1 : GX + 1 < PB) (h2 : GX + 1 < RX) (u0 u1 u2 : Value) : KQt GX PB RX G P R (((W.setCell ⟨GX + 1, 0, none⟩ u0).setCell ⟨GX + 1, 1, none⟩ u1).setCell ⟨GX + 1, 2, none⟩ u2) :=
  ⟨(store3_far _ _ _ _ (by omega)).trans h.1, (store3_far _ _ _ _ (by omega)).trans h.2.1, (store3_far _ _ _ _ (by omega)).trans h.2.2⟩
set_option maxRecDepth 100000 in
/-- How a tree is handed out. -/
theorem tree_end {W F0 : World} {t : Tl} {B x : Int} {s : Spn} {q : Nat} (hc : Ctr g u m C M1 M2 pa pc wa wc ls W) (hk : KeptD M1 M2 W F0) (hc0 : Ctr g u m C M1 M2 pa pc wa wc ls F0)
    (hq : F0.heap[W.heap.size + 1]? = some (.cells #[.int .i64 0, .int .i64 0, .slice none 0 0] 39)) (hl : Lies (fun b => W.heap.size ≤ b ∧ b ≠ W.heap.size + 1) F0 t) (hp : [t.plain] = (all g u (.goal x s)).getD q [])
    (a : Act) (ha : a.tmps.getD 6 undef = .pointer (some ⟨W.heap.size + 1, 0, none⟩)) (hd : a.defers = []) :
    bodyPost Try.prog Try.f38 (TreeEndD g u m C M1 M2 pa pc wa wc ls x s q W) .ret a (((F0.setCell ⟨W.heap.size + 1, 0, none⟩ (.int .i64 t.sym)).setCell ⟨W.heap.size + 1, 1, none⟩ (.int .i64 t.prod)).setCell ⟨W.heap.size + 1, 2, none⟩ (.slice t.a t.kids.length t.c)) := by
  have hst := store3 hq (.int .i64 t.sym) (.int .i64 t.prod) (.slice t.a t.kids.length t.c)
  have hfar := fun k hk => store3_far (w := F0) (b := W.heap.size + 1) (.int .i64 t.sym) (.int .i64 t.prod) (.slice t.a t.kids.length t.c) k hk
  have hlow := hc.low
  have hsz : (((F0.setCell ⟨W.heap.size + 1, 0, none⟩ (.int .i64 t.sym)).setCell ⟨W.heap.size + 1, 1, none⟩ (.int .i64 t.prod)).setCell ⟨W.heap.size + 1, 2, none⟩ (.slice t.a t.kids.length t.c)).heap.size = F0.heap.size := by simp [World.setCell]
  have hkept : KeptR M1 M2 (some (W.heap.size + 1)) F0 (((F0.setCell ⟨W.heap.size + 1, 0, none⟩ (.int .i64 t.sym)).setCell ⟨W.heap.size + 1, 1, none⟩ (.int .i64 t.prod)).setCell ⟨W.heap.size + 1, 2, none⟩ (.slice t.a t.kids.length t.c)) :=
    ⟨rfl, rfl, rfl, by omega, fun k hk h1 h2 h3 => hfar k (fun e => h3 (by rw [e]))⟩
  generalize ((F0.setCell ⟨W.heap.size + 1, 0, none⟩ (.int .i64 t.sym)).setCell ⟨W.heap.size + 1, 1, none⟩ (.int .i64 t.prod)).setCell ⟨W.heap.size + 1, 2, none⟩ (.slice t.a t.kids.length t.c) = F at *
  have hkd : KeptD M1 M2 W F := ⟨hkept.os.trans hk.os, hkept.tape.trans hk.tape, hkept.output.trans hk.output, Nat.le_trans hk.size hkept.size, fun k h1 h2 h3 => (hfar k (by omega)).trans (hk.block k h1 h2 h3)⟩
  refine bodyPost_ret (v := .agg #[.int .i64 t.sym, .int .i64 t.prod, .slice t.a t.kids.length t.c]) ?_ hd ⟨t, rfl, hl.keep (by omega) (fun b hb _ => hfar b hb.2) (fun b hb _ => hb.1), hp, hkd, hc.to hkd (hc0.mg.at (hfar _ (by omega))) (hc0.mr.at (hfar _ (by omega)))⟩
  rw [results_cell1 (p := 6) (ty := 39) rfl, ha]
  show ((asAddr (.pointer (some ⟨W.heap.size + 1, 0, none⟩))).run _ _).andThen _ = _
  exact run_loadVar_row _ (W.heap.size + 1) 39 39 _ (0, 0) _ hst Try.underlying39 rfl (by kernel_rfl)
set_option maxRecDepth 100000 in
set_option maxHeartbeats 16000000 in
theorem tree_of (ok : OkD g u m) (x : Int) (s : Spn) (hx : -1000000 ≤ x ∧ x < 108) (hs : InD u s)
    (ihK : ∀ k, k ∈ prodsOf g x → hasA s.ab x = false → ∀ (q B : Nat) (a' : Option Addr) (c' : Nat) W, q < m → q < (all g u (.row k 0 ⟨s.a, s.b, withA s.ab x⟩)).length → B ≤ W.heap.size → CtrB g u m C M1 M2 pa pc wa wc ls B W → KidsD B W (.slice a' 0 c') [] → Calls Try.prog 56 #[.pointer (some ⟨C, 0, none⟩), .slice a' 0 c', codeR (k, 0, ⟨s.a, s.b, withA s.ab x⟩), .int .i64 q] W (KidsEndD g u m C M1 M2 pa pc wa wc ls B (Value.slice a' 0 c').ownBlock [] k 0 ⟨s.a, s.b, withA s.ab x⟩ q W))
    {S : World} (q0 : Nat) (hq : q0 < m) (hql : q0 < (all g u (.goal x s)).length) (hc : Ctr g u m C M1 M2 pa pc wa wc ls S) :
    Calls Try.prog 38 #[.pointer (some ⟨C, 0, none⟩), codeG (x, s), .int .i64 q0] S (TreeEndD g u m C M1 M2 pa pc wa wc ls x s q0 S) := by
  have hall := all_goal g u ok.six (sym := x) (s := s) ⟨hs.ab, hs.le⟩
  have hnh : hasA s.ab x = false := by
    cases h : hasA s.ab x with
    | false => rfl
    | true => rw [hall, if_pos h] at hql; simp at hql
  rw [if_neg (by rw [hnh]; simp)] at hall
  have HLF := Lib.hid fun W (h : Ctr g u m C M1 M2 pa pc wa wc ls W) => lf_any h ok.ul x s hs
  have HU := Lib.hid fun (k : Nat) (h0 : 100 ≤ x) W => dunder_any x s k hs.ab h0 hx.2 W
  have HRN := Lib.hid fun (k : Nat) (hk : k < g.length) W (hW : Ctr g u m C M1 M2 pa pc wa wc ls W) => kidRows_any ok k 0 ⟨s.a, s.b, withA s.ab x⟩ hk (Nat.zero_le _) (hs.with x) hW
  have HKK := Lib.hid fun k hk => ihK k hk hnh
  have hml := ok.ml
  have hgl := ok.len
  have HOK := Lib.hid ok
  have hll : ls.length = g.length := by rw [← hc.eq, List.length_map]
  have HLL := Lib.hid hll
  have hls : ls.length ≤ 1000 := by omega
  obtain ⟨hbS, hsS, qg, qt⟩ := twin_alloc S (.cells (Value.int .i64 x :: .int .i64 s.a :: .int .i64 s.b :: bools s.ab).toArray 86) (.cells #[.int .i64 0, .int .i64 0, .slice none 0 0] 39)
  have HALL := Lib.hid hall
  have HQL := Lib.hid hql
  have HC0 := Lib.hid hc
  obtain ⟨a, b, ab⟩ := s
  have h8 : ab.length = 8 := hs.ab
  obtain ⟨y0, y1, y2, y3, y4, y5, y6, y7, rfl⟩ := eight h8
  obtain ⟨z0, z1, z2, z3, z4, z5, z6, z7, hz⟩ := eight (withA_len h8 x)
  simp only [codeG, bools, List.map_cons, List.map_nil] at HLF HU qg qt hbS
  have HC := Lib.hid (hc.below hbS)
  have HQ := Lib.hid qg
  have HT := Lib.hid qt
  have HB := Lib.hid (KeptD.of (M1 := M1) (M2 := M2) hbS)
  have HZ := Lib.hid hz
  unfold codeG bools
  simp only [List.map_cons, List.map_nil]
  clear hall ihK hbS hsS qg qt hs h8 hc ok hgl hll hql hnh hz
  go_enter Try.func38, Try.ntmps38
  go_upto_region 1 with fail
  generalize (S.alloc (.cells #[.int .i64 x, .int .i64 a, .int .i64 b, .bool y0, .bool y1, .bool y2, .bool y3, .bool y4, .bool y5, .bool y6, .bool y7] 86)).alloc (.cells #[.int .i64 0, .int .i64 0, .slice none 0 0] 39) = S1 at *
  generalize hGX : S.heap.size = GX at *
  have HGX := Lib.hid hGX
  clear hGX
  obtain ⟨r0, r1, r2, r3, r4, r5, r6, r7, r8, r9, r10, l0⟩ := goalD_cells HQ.out
  go_upto_if 13 with (go_at_call 53; (with_reducible refine (HLF.out _ HC.out).mono ?_); rintro e w2 ⟨rfl, hb2⟩)
  have HK2 := Lib.hid (HB.out.below hb2)
  have HC2 := Lib.hid (HC.out.below hb2)
  have HQ2 := Lib.hid ((hb2.block _ (heap_lt HQ.out)).trans HQ.out)
  have HT2 := Lib.hid ((hb2.block _ (heap_lt HT.out)).trans HT.out)
  clear r0 r1 r2 r3 r4 r5 r6 r7 r8 r9 r10 l0 hb2 HB HC HQ HT HLF
  by_cases hlf : b = a + 1 ∧ u[a]? = some x
  · have hdb : lfB u x ⟨a, b, [y0, y1, y2, y3, y4, y5, y6, y7]⟩ = true := decide_eq_true hlf
    rw [hdb]
    have HA1 := Lib.hid (HALL.out.trans (if_pos hlf))
    obtain ⟨r0, r1, r2, r3, r4, r5, r6, r7, r8, r9, r10, l0⟩ := goalD_cells HQ2.out
    obtain ⟨t0, s0⟩ := blk_cell (i := 0) HT2.out rfl
    obtain ⟨t1, s1⟩ := blk_cell (i := 1) HT2.out rfl
    obtain ⟨t2, s2⟩ := blk_cell (i := 2) HT2.out rfl
    have lt := heap_lt HT2.out
    clear hdb hlf
    go_wp2
    have hE := tree_end (t := .mk x (-1) none 0 []) (B := 0) (q := q0) (x := x) (s := ⟨a, b, [y0, y1, y2, y3, y4, y5, y6, y7]⟩) HC0.out HK2.out HC2.out (by rw [HGX.out]; exact HT2.out) (.mk (.inl rfl) (by simp) (fun h => absurd rfl h) (fun k hk => by cases hk)) (by
      have h1 := HQL.out
      rw [HA1.out] at h1 ⊢
      obtain rfl : q0 = 0 := by simpa using h1
      rw [Tl.plain_mk]; rfl)
    rw [HGX.out] at hE
    exact hE _ rfl rfl
  · have hdb : lfB u x ⟨a, b, [y0, y1, y2, y3, y4, y5, y6, y7]⟩ = false := decide_eq_false hlf
    rw [hdb]
    have HA1 := Lib.hid ((HALL.out.trans (if_neg hlf)).trans (gTail_all g u (x := x) (s := ⟨a, b, withA [y0, y1, y2, y3, y4, y5, y6, y7] x⟩)).symm)
    clear hdb hlf HALL
    obtain ⟨c0, c1, c2, c3, c4, lc⟩ := HC2.out.five
    go_upto_region 4 with fail
    clear c0 c1 c2 c3 c4 lc
    go_loopw [2, 22] (fun pv iv wr => ∃ q k : Nat, pv = .int .i64 q ∧ iv = .int .i64 k ∧ k ≤ ls.length ∧ q ≤ q0 ∧ Hid (q < (gTail g u x ⟨a, b, withA [y0, y1, y2, y3, y4, y5, y6, y7] x⟩ k).length ∧ (gTail g u x ⟨a, b, withA [y0, y1, y2, y3, y4, y5, y6, y7] x⟩ k).getD q [] = (all g u (.goal x ⟨a, b, [y0, y1, y2, y3, y4, y5, y6, y7]⟩)).getD q0 []) ∧ Hid (KeptD M1 M2 S wr) ∧ Hid (Ctr g u m C M1 M2 pa pc wa wc ls wr) ∧ Hid (wr.heap[GX]? = some (.cells #[.int .i64 x, .int .i64 a, .int .i64 b, .bool y0, .bool y1, .bool y2, .bool y3, .bool y4, .bool y5, .bool y6, .bool y7] 86)) ∧ Hid (wr.heap[GX + 1]? = some (.cells #[.int .i64 0, .int .i64 0, .slice none 0 0] 39))) (fun _ iv _ => ls.length - (intOf iv).toNat)
    case atStart => exact ⟨q0, 0, rfl, rfl, by omega, by omega, Lib.hid ⟨by rw [← HA1.out]; exact HQL.out, by rw [← HA1.out]⟩, HK2, HC2, HQ2, HT2⟩
    case round =>
      obtain ⟨q, k, rfl, rfl, hk, hqq, HQT, HKR, HCR, HQR, HTR⟩ := hrel
      clear HK2 HC2 HQ2 HT2
      by_cases hkl : k < ls.length
      · obtain ⟨pq, hpq, hpe, hpm⟩ := lay_of HCR.out (show k < g.length by have := HLL.out; omega)
        obtain ⟨b1, o1, rfl, hb1, hcc⟩ := HCR.out.prods.get (by intro e; have := (lays_at ls k _ hpq).1; rw [e] at this; simp at this)
        have x0 := hcc _ _ (lays_at ls k _ hpq).1
        have x1 := hcc _ _ (lays_at ls k _ hpq).2
        rw [← Nat.add_assoc] at x1
        obtain ⟨pl, pr, pra, prc⟩ := pq
        simp only at x0 x1 hpe
        have e1 : (k : Int) < ls.length := by omega
        have hkg : k < g.length := by have := HLL.out; omega
        have HSTEP := Lib.hid (gTail_step g u (x := x) (s := ⟨a, b, withA [y0, y1, y2, y3, y4, y5, y6, y7] x⟩) hkg)
        have hpr6 : pr.length ≤ 6 := by have := HOK.out.six.len k; rw [hpe] at this; exact this
        obtain ⟨c0, c1, c2, c3, c4, lc⟩ := HCR.out.five
        have hbp := box_belowT wr (.cells #[.int .i64 pl, .slice pra pr.length prc] 63)
        have HQP := Lib.hid (heap_alloc_new wr (.cells #[.int .i64 pl, .slice pra pr.length prc] 63))
        have HKW := Lib.hid (HKR.out.below hbp)
        have HCW := Lib.hid (HCR.out.below hbp)
        have HQW := Lib.hid ((hbp.block _ (heap_lt HQR.out)).trans HQR.out)
        have HTW := Lib.hid ((hbp.block _ (heap_lt HTR.out)).trans HTR.out)
        have HPE := Lib.hid hpe
        have HKL := Lib.hid hkl
        have HKG := Lib.hid hkg
        have HPBT := Lib.hid (show GX + 1 < wr.heap.size from heap_lt HTR.out)
        clear hpq hpm hcc hbp hpe HKR HCR HQR HTR c1 c3 c4 c2
        go_upto_region 6 with fail
        generalize wr.alloc (.cells #[.int .i64 pl, .slice pra pr.length prc] 63) = W2 at *
        generalize wr.heap.size = PB at *
        clear x0 x1 c0 lc hb1 hkg hkl
        have p0 := (blk_cell (i := 0) HQP.out rfl).1
        have p1 := (blk_cell (i := 1) HQP.out rfl).1
        have lp := heap_lt HQP.out
        obtain ⟨r0, r1, r2, r3, r4, r5, r6, r7, r8, r9, r10, l0⟩ := goalD_cells HQW.out
        by_cases hpx : pl = x
        · have e3 : (pl == x) = true := beq_iff_eq.2 hpx
          have e4 : (pl != x) = false := by rw [bne, e3]; rfl
          have hmem : k ∈ prodsOf g x := mem_prodsOf.2 ⟨HKG.out, by rw [HPE.out]; exact hpx⟩
          have h100 : 100 ≤ x := (Dr.sym_in HOK.out.six hmem).1
          have hu := HU.out k h100
          have hrn := HRN.out k HKG.out
          have hkk := HKK.out k hmem
          have HOFP := Lib.hid (show ofP g u x ⟨a, b, withA [y0, y1, y2, y3, y4, y5, y6, y7] x⟩ k = (all g u (.row k 0 ⟨a, b, withA [y0, y1, y2, y3, y4, y5, y6, y7] x⟩)).map fun ks => [.mk x k ks] by unfold ofP; rw [HPE.out, if_pos hpx])
          have hNY := num_all m g u (.row k 0 ⟨a, b, withA [y0, y1, y2, y3, y4, y5, y6, y7] x⟩)
          unfold JobEnd at hrn
          unfold KidsEndD at hkk
          rw [hNY] at hrn
          generalize hAY : all g u (.row k 0 ⟨a, b, withA [y0, y1, y2, y3, y4, y5, y6, y7] x⟩) = AY at *
          obtain ⟨ny, hny⟩ : ∃ ny, min m AY.length = ny := ⟨_, rfl⟩
          rw [hny] at hrn
          rw [HZ.out] at hu hrn hkk
          simp only [codeR, bools, List.map_cons, List.map_nil] at hu hrn hkk
          push_cast at hu hrn hkk
          have HUK := Lib.hid hu
          have HRK := Lib.hid hrn
          have HKKK := Lib.hid hkk
          have HNY := Lib.hid hny
          have HQM := Lib.hid (show q < m by omega)
          have hnym : ny ≤ 200 := by omega
          have HPX := Lib.hid hpx
          clear hpx hmem hu hrn hkk hNY hAY hny
          go_upto_region 8 with (go_at_call 54; (with_reducible refine (HUK.out _).mono ?_); rintro e w5 ⟨rfl, hb5⟩)
          have hbR := box_belowT w5 (.cells #[.int .i64 k, .int .i64 0, .int .i64 a, .int .i64 b, .bool z0, .bool z1, .bool z2, .bool z3, .bool z4, .bool z5, .bool z6, .bool z7] 108)
          have HRX := Lib.hid (heap_alloc_new w5 (.cells #[.int .i64 k, .int .i64 0, .int .i64 a, .int .i64 b, .bool z0, .bool z1, .bool z2, .bool z3, .bool z4, .bool z5, .bool z6, .bool z7] 108))
          have HC6 := Lib.hid ((HCW.out.below hb5).below hbR)
          have HK6 := Lib.hid ((HKW.out.below hb5).below hbR)
          have HQ6 := Lib.hid ((hbR.block _ (Nat.lt_of_lt_of_le (heap_lt HQW.out) hb5.size)).trans ((hb5.block _ (heap_lt HQW.out)).trans HQW.out))
          have HT6 := Lib.hid ((hbR.block _ (Nat.lt_of_lt_of_le (heap_lt HTW.out) hb5.size)).trans ((hb5.block _ (heap_lt HTW.out)).trans HTW.out))
          have HP6 := Lib.hid ((hbR.block _ (Nat.lt_of_lt_of_le (heap_lt HQP.out) hb5.size)).trans ((hb5.block _ (heap_lt HQP.out)).trans HQP.out))
          have HLR := Lib.hid (show GX + 1 < w5.heap.size from Nat.lt_of_lt_of_le (heap_lt HTW.out) hb5.size)
          clear r0 r1 r2 r3 r4 r5 r6 r7 r8 r9 r10 l0 p0 p1 lp hb5 hbR HCW HKW HQW HTW HQP HUK
          generalize w5.alloc (.cells #[.int .i64 k, .int .i64 0, .int .i64 a, .int .i64 b, .bool z0, .bool z1, .bool z2, .bool z3, .bool z4, .bool z5, .bool z6, .bool z7] 108) = W6 at *
          generalize w5.heap.size = RX at *
          obtain ⟨k0, k1, k2, k3, k4, k5, k6, k7, k8, k9, k10, k11, l0⟩ := rowD_cells HRX.out
          go_upto_region 9 with (go_at_call 55; (with_reducible refine (HRK.out _ HC6.out).mono ?_); rintro e w7 ⟨rfl, hk7, hc7⟩)
          have HC7 := Lib.hid hc7
          have HK7 := Lib.hid (HK6.out.trans hk7)
          have HQ7 := Lib.hid (HC6.out.keeps hk7 HQ6.out)
          have HT7 := Lib.hid (HC6.out.keeps hk7 HT6.out)
          have HP7 := Lib.hid (HC6.out.keeps hk7 HP6.out)
          have HR7 := Lib.hid (HC6.out.keeps hk7 HRX.out)
          clear k0 k1 k2 k3 k4 k5 k6 k7 k8 k9 k10 k11 l0 hk7 hc7 HC6 HK6 HQ6 HT6 HP6 HRX HRK
          by_cases hlt : q < ny
          · have e2 : (q : Int) < (ny : Int) := by omega
            have hqy : q < AY.length := by have := HNY.out; omega
            have HFIN := Lib.hid (show ∀ (kp : List Tr), kp = AY.getD q [] → [Tr.mk x k kp] = (all g u (.goal x ⟨a, b, [y0, y1, y2, y3, y4, y5, y6, y7]⟩)).getD q0 [] from fun kp h => by
              have h3 := HQT.out.2
              rw [HSTEP.out, HOFP.out, List.getD_eq_getElem?_getD, List.getElem?_append_left (by rw [List.length_map]; exact hqy), List.getElem?_map, List.getElem?_eq_getElem hqy] at h3
              rw [← h3, h, List.getD_eq_getElem?_getD, List.getElem?_eq_getElem hqy]; rfl)
            have HKQ : Hid (∀ w', Hid (KQt GX PB RX #[.int .i64 x, .int .i64 a, .int .i64 b, .bool y0, .bool y1, .bool y2, .bool y3, .bool y4, .bool y5, .bool y6, .bool y7] #[.int .i64 pl, .slice pra pr.length prc] #[.int .i64 k, .int .i64 0, .int .i64 a, .int .i64 b, .bool z0, .bool z1, .bool z2, .bool z3, .bool z4, .bool z5, .bool z6, .bool z7] w') → ((w'.cell? ⟨GX, 0, none⟩ = some (.int .i64 x) ∧ (w'.cell? ⟨PB, 0, none⟩ = some (.int .i64 pl) ∧ w'.cell? ⟨PB, 1, none⟩ = some (.slice pra pr.length prc)) ∧ (w'.cell? ⟨RX, 0, none⟩ = some (.int .i64 k) ∧ w'.cell? ⟨RX, 1, none⟩ = some (.int .i64 0) ∧ w'.cell? ⟨RX, 2, none⟩ = some (.int .i64 a) ∧ w'.cell? ⟨RX, 3, none⟩ = some (.int .i64 b) ∧ w'.cell? ⟨RX, 4, none⟩ = some (.bool z0) ∧ w'.cell? ⟨RX, 5, none⟩ = some (.bool z1) ∧ w'.cell? ⟨RX, 6, none⟩ = some (.bool z2) ∧ w'.cell? ⟨RX, 7, none⟩ = some (.bool z3) ∧ w'.cell? ⟨RX, 8, none⟩ = some (.bool z4) ∧ w'.cell? ⟨RX, 9, none⟩ = some (.bool z5) ∧ w'.cell? ⟨RX, 10, none⟩ = some (.bool z6) ∧ w'.cell? ⟨RX, 11, none⟩ = some (.bool z7))) ∧ (GX < w'.heap.size ∧ PB < w'.heap.size ∧ RX < w'.heap.size)) ∧ Hid (KQt GX PB RX #[.int .i64 x, .int .i64 a, .int .i64 b, .bool y0, .bool y1, .bool y2, .bool y3, .bool y4, .bool y5, .bool y6, .bool y7] #[.int .i64 pl, .slice pra pr.length prc] #[.int .i64 k, .int .i64 0, .int .i64 a, .int .i64 b, .bool z0, .bool z1, .bool z2, .bool z3, .bool z4, .bool z5, .bool z6, .bool z7] w')) := Lib.hid fun w' h => by
              obtain ⟨h0, _, _, _, _, _, _, _, _, _, _, h11⟩ := goalD_cells h.out.1
              obtain ⟨j0, j1, j2, j3, j4, j5, j6, j7, j8, j9, j10, j11, j12⟩ := rowD_cells h.out.2.2
              exact ⟨⟨⟨h0, ⟨(blk_cell (i := 0) h.out.2.1 rfl).1, (blk_cell (i := 1) h.out.2.1 rfl).1⟩, ⟨j0, j1, j2, j3, j4, j5, j6, j7, j8, j9, j10, j11⟩⟩, h11, heap_lt h.out.2.1, j12⟩, h⟩
            have HC8 := Lib.hid (HC7.out.below (S' := w7.drew) ⟨rfl, rfl, rfl, Nat.le_refl _, fun _ _ => rfl⟩)
            have HK8 := Lib.hid (HK7.out.below (w' := w7.drew) ⟨rfl, rfl, rfl, Nat.le_refl _, fun _ _ => rfl⟩)
            have HKQ8 : Hid (KQt GX PB RX #[.int .i64 x, .int .i64 a, .int .i64 b, .bool y0, .bool y1, .bool y2, .bool y3, .bool y4, .bool y5, .bool y6, .bool y7] #[.int .i64 pl, .slice pra pr.length prc] #[.int .i64 k, .int .i64 0, .int .i64 a, .int .i64 b, .bool z0, .bool z1, .bool z2, .bool z3, .bool z4, .bool z5, .bool z6, .bool z7] w7.drew) := Lib.hid ⟨HQ7.out, HP7.out, HR7.out⟩
            have HT8 : Hid (w7.drew.heap[GX + 1]? = some (.cells #[.int .i64 0, .int .i64 0, .slice none 0 0] 39)) := HT7
            have HGW := Lib.hid (growT_any pr.length hpr6 w7.drew)
            have HQY := Lib.hid (show q < m ∧ q < AY.length from ⟨HQM.out, hqy⟩)
            have HLW := Lib.hid (show GX + 1 < w7.drew.heap.size from heap_lt HT7.out)
            clear hlt hqy
            go_upto_region 10 with fail
            go_region_held3 (fun w' => ((w'.cell? ⟨GX, 0, none⟩ = some (.int .i64 x) ∧ (w'.cell? ⟨PB, 0, none⟩ = some (.int .i64 pl) ∧ w'.cell? ⟨PB, 1, none⟩ = some (.slice pra pr.length prc)) ∧ (w'.cell? ⟨RX, 0, none⟩ = some (.int .i64 k) ∧ w'.cell? ⟨RX, 1, none⟩ = some (.int .i64 0) ∧ w'.cell? ⟨RX, 2, none⟩ = some (.int .i64 a) ∧ w'.cell? ⟨RX, 3, none⟩ = some (.int .i64 b) ∧ w'.cell? ⟨RX, 4, none⟩ = some (.bool z0) ∧ w'.cell? ⟨RX, 5, none⟩ = some (.bool z1) ∧ w'.cell? ⟨RX, 6, none⟩ = some (.bool z2) ∧ w'.cell? ⟨RX, 7, none⟩ = some (.bool z3) ∧ w'.cell? ⟨RX, 8, none⟩ = some (.bool z4) ∧ w'.cell? ⟨RX, 9, none⟩ = some (.bool z5) ∧ w'.cell? ⟨RX, 10, none⟩ = some (.bool z6) ∧ w'.cell? ⟨RX, 11, none⟩ = some (.bool z7))) ∧ (GX < w'.heap.size ∧ PB < w'.heap.size ∧ RX < w'.heap.size)) ∧ Hid (KQt GX PB RX #[.int .i64 x, .int .i64 a, .int .i64 b, .bool y0, .bool y1, .bool y2, .bool y3, .bool y4, .bool y5, .bool y6, .bool y7] #[.int .i64 pl, .slice pra pr.length prc] #[.int .i64 k, .int .i64 0, .int .i64 a, .int .i64 b, .bool z0, .bool z1, .bool z2, .bool z3, .bool z4, .bool z5, .bool z6, .bool z7] w')) (first | exact HKQ.out _ (by assumption) | exact HKQ.out _ (Lib.hid (kqt_set HKQ10.out HPBT.out HLR.out _ _ _))) (first
              | (go_at_call 57; (with_reducible refine HGW.out.mono ?_); rintro e w9 ⟨a1, c1, rfl, ho1, hb1⟩; have HC9 := Lib.hid (HC8.out.below hb1); have HK9 := Lib.hid (HK8.out.below hb1); have HKQ9 : Hid (KQt GX PB RX #[.int .i64 x, .int .i64 a, .int .i64 b, .bool y0, .bool y1, .bool y2, .bool y3, .bool y4, .bool y5, .bool y6, .bool y7] #[.int .i64 pl, .slice pra pr.length prc] #[.int .i64 k, .int .i64 0, .int .i64 a, .int .i64 b, .bool z0, .bool z1, .bool z2, .bool z3, .bool z4, .bool z5, .bool z6, .bool z7] w9) := Lib.hid ⟨(hb1.block _ (heap_lt HKQ8.out.1)).trans HKQ8.out.1, (hb1.block _ (heap_lt HKQ8.out.2.1)).trans HKQ8.out.2.1, (hb1.block _ (heap_lt HKQ8.out.2.2)).trans HKQ8.out.2.2⟩; have HT9 := Lib.hid ((hb1.block _ (heap_lt HT8.out)).trans HT8.out); have HB9 := Lib.hid hb1.size; have HCB9 := Lib.hid ((HC8.out.atB).to ((KeptD.of (M1 := M1) (M2 := M2) hb1).row none) (fun x hx => by cases hx) HC9.out.mg HC9.out.mr); have HKD9 := Lib.hid (⟨ho1, fun t ht => by cases ht⟩ : KidsD w7.drew.heap.size w9 (.slice a1 0 c1) []); have HOB := Lib.hid (show ∀ x, (Value.slice a1 0 c1).ownBlock = some x → w7.drew.heap.size ≤ x from fun x hx => (own_block ho1 hx).1); have HKN := Lib.hid (HKKK.out q w7.drew.heap.size a1 c1 w9 HQY.out.1 HQY.out.2 hb1.size HCB9.out HKD9.out); clear ho1 hb1)
              | (go_at_call 56; (with_reducible refine HKN.out.mono ?_); rintro e w10 ⟨a2, c2, kt, rfl, hkd2, hpl2, hkr2, hcb2⟩; have HKQ10 : Hid (KQt GX PB RX #[.int .i64 x, .int .i64 a, .int .i64 b, .bool y0, .bool y1, .bool y2, .bool y3, .bool y4, .bool y5, .bool y6, .bool y7] #[.int .i64 pl, .slice pra pr.length prc] #[.int .i64 k, .int .i64 0, .int .i64 a, .int .i64 b, .bool z0, .bool z1, .bool z2, .bool z3, .bool z4, .bool z5, .bool z6, .bool z7] w10) := Lib.hid (kqt_kept HC9.out HKQ9.out hkr2 HOB.out ⟨heap_lt HKQ8.out.1, heap_lt HKQ8.out.2.1, heap_lt HKQ8.out.2.2⟩); have HT10 := Lib.hid (cell_kept HC9.out HT9.out hkr2 (fun x hx => by have h1 := HOB.out x hx; have h2 := HLW.out; omega)); obtain ⟨t0, s0⟩ := blk_cell (i := 0) HT10.out rfl; obtain ⟨t1, s1⟩ := blk_cell (i := 1) HT10.out rfl; obtain ⟨t2, s2⟩ := blk_cell (i := 2) HT10.out rfl; have lt10 := heap_lt HT10.out; have HE10 := Lib.hid (⟨hkd2, hpl2, hkr2, hcb2⟩ : _ ∧ _ ∧ _ ∧ _); clear hkd2 hpl2 hkr2 hcb2))
            all_goals
              go_wp2
              obtain ⟨hkd2, hpl2, hkr2, hcb2⟩ := HE10.out
              have hsz : S.heap.size + 1 < w7.drew.heap.size := by have := HLW.out; have := HGX.out; omega
              have hE := tree_end (t := .mk x k a2 c2 kt) (q := q0) (x := x) (s := ⟨a, b, [y0, y1, y2, y3, y4, y5, y6, y7]⟩) (B := 0) HC0.out (((HK9.out.row _).trans hkr2).drop (fun y hy => by have := HOB.out y hy; omega)) hcb2.ctr (by rw [HGX.out]; exact HT10.out)
                (.mk (own_cells hkd2.own).1 (own_cells hkd2.own).2 (fun _ y hy => by subst hy; have h1 := hkd2.low y.block (by simp [Value.ownBlock]); exact ⟨by omega, by omega⟩) (fun s hs => (hkd2.kids s hs).weak fun b hb _ => ⟨by have := hb.1; omega, by have := hb.1; omega⟩))
                (by rw [Tl.plain_mk]; exact HFIN.out _ hpl2)
              rw [HGX.out] at hE
              exact hE _ rfl rfl
          · have e2 : ¬ (q : Int) < (ny : Int) := by omega
            obtain ⟨v1, v2⟩ := cut_ge1 (x := AY.length) HQM.out (by rw [HNY.out]; exact hlt)
            rw [HNY.out] at v1
            have hsub : (q : Int) - (ny : Int) = ((q - ny : Nat) : Int) := by omega
            have hw2 : IntKind.i64.wrap ((q : Int) - (ny : Int)) = ((q - ny : Nat) : Int) := by rw [hsub]; exact IntWalk.i64_in _ (by omega)
            have HNEW := Lib.hid (show q - ny < (gTail g u x ⟨a, b, withA [y0, y1, y2, y3, y4, y5, y6, y7] x⟩ (k + 1)).length ∧ (gTail g u x ⟨a, b, withA [y0, y1, y2, y3, y4, y5, y6, y7] x⟩ (k + 1)).getD (q - ny) [] = (all g u (.goal x ⟨a, b, [y0, y1, y2, y3, y4, y5, y6, y7]⟩)).getD q0 [] by
              obtain ⟨h1, h2⟩ := HQT.out
              rw [HSTEP.out, HOFP.out] at h1 h2
              rw [List.length_append, List.length_map] at h1
              rw [List.getD_eq_getElem?_getD, List.getElem?_append_right (by rw [List.length_map]; exact v2), List.length_map] at h2
              rw [v1]
              exact ⟨by omega, by rw [List.getD_eq_getElem?_getD]; exact h2⟩)
            clear hlt v1 v2 hsub
            go_wp2
            exact ⟨⟨q - ny, k + 1, rfl, by go_num, by have := HKL.out; omega, by omega, HNEW, HK7, HC7, HQ7, HT7⟩, by have := HKL.out; simp [intOf]; omega⟩
        · have e3 : (pl == x) = false := beq_eq_false_iff_ne.2 hpx
          have e4 : (pl != x) = true := by rw [bne, e3]; rfl
          have HNEW := Lib.hid (show q < (gTail g u x ⟨a, b, withA [y0, y1, y2, y3, y4, y5, y6, y7] x⟩ (k + 1)).length ∧ (gTail g u x ⟨a, b, withA [y0, y1, y2, y3, y4, y5, y6, y7] x⟩ (k + 1)).getD q [] = (all g u (.goal x ⟨a, b, [y0, y1, y2, y3, y4, y5, y6, y7]⟩)).getD q0 [] by
            have h1 := HQT.out
            rw [HSTEP.out, show ofP g u x ⟨a, b, withA [y0, y1, y2, y3, y4, y5, y6, y7] x⟩ k = [] by unfold ofP; rw [HPE.out, if_neg hpx], List.nil_append] at h1
            exact h1)
          clear hpx
          go_wp2
          exact ⟨⟨q, k + 1, rfl, by go_num, by have := HKL.out; omega, by omega, HNEW, HKW, HCW, HQW, HTW⟩, by have := HKL.out; simp [intOf]; omega⟩
      · have h1 := HQT.out.1
        rw [gTail_end g u (by have := HLL.out; omega)] at h1
        simp at h1
/-- Both, however deep. -/
theorem finds_all (ok : OkD g u m) : ∀ (n : Nat),
    (∀ (x : Int) (s : Spn), -1000000 ≤ x ∧ x < 108 → InD u s → mu g (.goal x s) ≤ n → ∀ (q : Nat) W, q < m → q < (all g u (.goal x s)).length → Ctr g u m C M1 M2 pa pc wa wc ls W → Calls Try.prog 38 #[.pointer (some ⟨C, 0, none⟩), codeG (x, s), .int .i64 q] W (TreeEndD g u m C M1 M2 pa pc wa wc ls x s q W)) ∧
    (∀ (p d : Nat) (s : Spn), p < g.length → d ≤ (g.getD p (0, [])).2.length → InD u s → mu g (.row p d s) ≤ n → ∀ (q B : Nat) (a' : Option Addr) (c' : Nat) (ks : List Tl) W, q < m → q < (all g u (.row p d s)).length → B ≤ W.heap.size → CtrB g u m C M1 M2 pa pc wa wc ls B W → KidsD B W (.slice a' ks.length c') ks → ks.length ≤ d → Calls Try.prog 56 #[.pointer (some ⟨C, 0, none⟩), .slice a' ks.length c', codeR (p, d, s), .int .i64 q] W (KidsEndD g u m C M1 M2 pa pc wa wc ls B (Value.slice a' ks.length c').ownBlock ks p d s q W)) := by
  intro n
  induction n using Nat.strongRecOn with
  | ind n ih =>
    have key : ∀ (k : Nat), k < g.length → ∀ y ∈ (g.getD k (0, [])).2, -1000000 ≤ y ∧ y < 108 := fun k hk y hy => by
      rw [List.getD_eq_getElem?_getD, List.getElem?_eq_getElem hk] at hy
      exact ok.syms _ (List.getElem_mem hk) y hy
    refine ⟨fun x s hx hs hm q W hq hl hW => ?_, fun p d s hp hd hs hm q B a' c' ks W hq hl hB hC hK hkd => ?_⟩
    · refine tree_of ok x s hx hs (fun k hk ha q B a' c' W hq hl hB hC hK => ?_) q hq hl hW
      have h1 := mu_row g (k := k) hs.ab (ok.six.len k) (Dr.sym_in ok.six hk) ha
      exact (ih _ (Nat.lt_of_lt_of_le h1 hm)).2 k 0 _ (mem_prodsOf.1 hk).1 (Nat.zero_le _) (hs.with x) (Nat.le_refl _) q B a' c' [] W hq hl hB hC hK (Nat.le_refl _)
    · have h6 := ok.six.len p
      refine addKids_of ok p d s hp hd hs (fun i hdl hi q W hq hl hW => ?_) (fun i hdl hi q B a' c' ks W hq hl hB hC hK hkd => ?_) q a' c' ks hq hl hB hC hK hkd
      · have h1 := mu_fst g (p := p) (d := d) (y := (g.getD p (0, [])).2.getD d 0) hs.ab hi hs.le
        exact (ih _ (Nat.lt_of_lt_of_le h1 hm)).1 _ _ (key p hp _ (getD_mem hdl)) (hs.fst hi) (Nat.le_refl _) q W hq hl hW
      · have h1 := mu_snd g (p := p) (d := d) hs.ab h6 hdl hi hs.le
        exact (ih _ (Nat.lt_of_lt_of_le h1 hm)).2 p (d + 1) _ hp hdl (hs.snd hi) (Nat.le_refl _) q B a' c' ks W hq hl hB hC hK hkd
theorem tree_any (ok : OkD g u m) (x : Int) (s : Spn) (hx : -1000000 ≤ x ∧ x < 108) (hs : InD u s) (q : Nat) {W : World} (hq : q < m) (hl : q < (all g u (.goal x s)).length) (hW : Ctr g u m C M1 M2 pa pc wa wc ls W) :
    Calls Try.prog 38 #[.pointer (some ⟨C, 0, none⟩), codeG (x, s), .int .i64 q] W (TreeEndD g u m C M1 M2 pa pc wa wc ls x s q W) := (finds_all ok _).1 x s hx hs (Nat.le_refl _) q W hq hl hW
end Go.Proofs.Ytgfkkbpnphbdgaa

set_option linter.unusedVariables false
set_option linter.unusedSimpArgs false
namespace Go.Proofs.Ytgfkkbpnphbdgaa
open Go.RowKit
open Doc Dr

/-- How Trees ends: the first of all, in their order, in memory of its own. -/
def TreesEnd (g : Gr) (root : Int) (u : List Int) (m : Int) (w : World) (e : Ending) (w' : World) : Prop :=
  if askB g root u m = true then ∃ (a : Option Addr) (c : Nat) (ts : List Tl), e = .returned (.tuple #[.slice a ts.length c, .int .i64 0]) ∧ w'.ownsRow w.heap.size 39 3 (.slice a ts.length c) ts.length (tls ts) ∧ (∀ t ∈ ts, Lies (fun b => w.heap.size ≤ b) w' t) ∧ ts.map (fun t => [t.plain]) = (all g.prods u (wholeJ u root)).take m.toNat
  else e = .returned (.tuple #[.slice none 0 0, .int .i64 1])
variable {g : List (Int × List Int)} {u : List Int} {m C M1 M2 pc wc : Nat} {pa wa : Option Addr} {ls : List Lay}
theorem KidsD.under {B : Nat} {W W' : World} {rv : Value} {ks : List Tl} (h : KidsD B W rv ks) (hb : Below W.heap.size W W') : KidsD B W' rv ks where
  own := own_same h.own fun x hx hl => hb.block x hl
  kids := fun t ht => (h.kids t ht).under hb
set_option maxRecDepth 100000 in
set_option maxHeartbeats 8000000 in
theorem trees_calls (v : Value) (g : Gr) (root : Int) (wa : Option Addr) (wc : Nat) (u : List Int) (m : Int) (w : World) (hg : GramAt w v g) (hm : MidG g) (hr : wideI root) (hu : Cells w wa (nums u)) (hul : u.length ≤ 1000000000000) (huw : ∀ s ∈ u, wideI s) :
    Calls Try.prog 14 #[v, .int .i64 root, .slice wa u.length wc, .int .i64 m] w fun e w' => TreesEnd g root u m w e w' ∧ Below w.heap.size w w' := by
  have HG0 := Lib.hid hg
  obtain ⟨a1, a2, a3, c1, c2, c3, ls, rfl, hp, k1, k2, k3, k4, k5, k6, k7⟩ := hg
  obtain ⟨hbS, hsS, q0⟩ := one_alloc w (.cells #[.slice a1 g.terms.length c1, .slice a2 g.nons.length c2, .slice a3 ls.length c3] 25)
  have HG := Lib.hid (HG0.out.below hbS)
  have HU := Lib.hid (hu.below hbS)
  have HB := Lib.hid hbS
  have HQ := Lib.hid q0
  have HA := Lib.hid fun W (hW : GramAt W (.agg #[.slice a1 g.terms.length c1, .slice a2 g.nons.length c2, .slice a3 ls.length c3]) g) (hU : Cells W wa (nums u)) => asked_any _ g root wa wc u m W hW hm hr hU hul huw
  clear hp k1 k2 k3 k4 k5 k6 k7 HG0 hsS q0 hbS hu huw hr hm
  unfold TreesEnd
  by_cases hA : AskP g root u m
  · obtain ⟨M, rfl⟩ : ∃ M : Nat, m = M := Int.eq_ofNat_of_zero_le hA.2.2.2.1
    have hok := okD_of hA
    rw [Int.toNat_natCast] at hok
    rw [askB_true hA] at *
    have HNC := Lib.hid fun W (hW : GramAt W (.agg #[.slice a1 g.terms.length c1, .slice a2 g.nons.length c2, .slice a3 ls.length c3]) g) (hU : Cells W wa (nums u)) => newCounter_any _ g wa wc u M W hW hU hok.len
    have hw0 := fun W => whole_any root wa wc u W hok.ul
    have HR := Lib.hid (root_in hA)
    have HOK := Lib.hid hok
    have hul12 := hok.ul
    have hml := hok.ml
    simp only [codeG, bools, none8, List.replicate, List.map_cons, List.map_nil] at hw0
    push_cast at hw0
    have HW := Lib.hid hw0
    clear hA hok hw0
    simp only [↓reduceIte, Int.toNat_natCast]
    go_enter Try.func14, Try.ntmps14
    go_upto_region 1 with fail
    generalize w.alloc (.cells #[.slice a1 g.terms.length c1, .slice a2 g.nons.length c2, .slice a3 ls.length c3] 25) = S at *
    have g0 := (blk_cell (i := 0) HQ.out rfl).1
    have g1 := (blk_cell (i := 1) HQ.out rfl).1
    have g2 := (blk_cell (i := 2) HQ.out rfl).1
    have l0 := heap_lt HQ.out
    go_upto_region 3 with (go_at_call 34; (with_reducible refine (HA.out _ HG.out HU.out).mono ?_); rintro e w2 ⟨rfl, hb2⟩)
    have HQ2 := Lib.hid ((hb2.block _ l0).trans HQ.out)
    have HG2 := Lib.hid (HG.out.below hb2)
    have HU2 := Lib.hid (HU.out.below hb2)
    have HB2 := Lib.hid (HB.out.trans (hb2.mono HB.out.size))
    clear g0 g1 g2 l0 hb2
    have g0 := (blk_cell (i := 0) HQ2.out rfl).1
    have g1 := (blk_cell (i := 1) HQ2.out rfl).1
    have g2 := (blk_cell (i := 2) HQ2.out rfl).1
    have l0 := heap_lt HQ2.out
    go_upto_region 6 with (first
      | (go_at_call 35; (with_reducible refine (HNC.out _ HG2.out HU2.out).mono ?_); rintro e w3 ⟨hb3, C, M1, M2, pa, pc, ls', rfl, hc3, hM1, hM2⟩; have HB3 := Lib.hid (HB2.out.trans (hb3.mono HB2.out.size)); have HC3 := Lib.hid hc3; have HM := Lib.hid (⟨Nat.le_trans HB2.out.size hM1, Nat.le_trans HB2.out.size hM2⟩ : w.heap.size ≤ M1 ∧ w.heap.size ≤ M2); clear hc3 hM1 hM2)
      | (go_at_call 37; (with_reducible refine (HW.out _).mono ?_); rintro e w4 ⟨rfl, hb4⟩; have HC4 := Lib.hid (HC3.out.below hb4); have HB4 := Lib.hid (HB3.out.trans (hb4.mono HB3.out.size))))
    have hbX := box_belowT w4 (.cells #[.int .i64 root, .int .i64 0, .int .i64 (u.length : Int), .bool false, .bool false, .bool false, .bool false, .bool false, .bool false, .bool false, .bool false] 86)
    have HQX := Lib.hid (heap_alloc_new w4 (.cells #[.int .i64 root, .int .i64 0, .int .i64 (u.length : Int), .bool false, .bool false, .bool false, .bool false, .bool false, .bool false, .bool false, .bool false] 86))
    have HC5 := Lib.hid (HC4.out.below hbX)
    have HB5 := Lib.hid (HB4.out.trans (hbX.mono HB4.out.size))
    clear g0 g1 g2 l0 hbX
    generalize w4.alloc (.cells #[.int .i64 root, .int .i64 0, .int .i64 (u.length : Int), .bool false, .bool false, .bool false, .bool false, .bool false, .bool false, .bool false, .bool false] 86) = S5 at *
    generalize w4.heap.size = XB at *
    have ht := trees_any HOK.out root ⟨0, u.length, none8⟩ HR.out (inD_whole u) HC5.out
    have hfind := fun (q : Nat) (W : World) (hq : q < M) (hl : q < (all g.prods u (.goal root ⟨0, u.length, none8⟩)).length) (hW : Ctr g.prods u M C M1 M2 pa pc wa wc ls' W) => tree_any HOK.out root ⟨0, u.length, none8⟩ HR.out (inD_whole u) q hq hl hW
    unfold JobEnd at ht
    rw [num_all] at ht
    unfold TreeEndD at hfind
    have HALL := Lib.hid (show all g.prods u (wholeJ u root) = all g.prods u (.goal root ⟨0, u.length, none8⟩) from rfl)
    generalize all g.prods u (.goal root ⟨0, u.length, none8⟩) = AL at *
    obtain ⟨N, hN⟩ : ∃ N, min M AL.length = N := ⟨_, rfl⟩
    rw [hN] at ht
    simp only [codeG, bools, none8, List.replicate, List.map_cons, List.map_nil] at ht hfind
    push_cast at ht hfind
    have HT := Lib.hid ht
    have HFD := Lib.hid hfind
    have HN := Lib.hid hN
    have hN200 : N ≤ 200 := by omega
    clear ht hfind hN
    obtain ⟨r0, r1, r2, r3, r4, r5, r6, r7, r8, r9, r10, l0⟩ := goalD_cells HQX.out
    go_upto_region 7 with (go_at_call 36; (with_reducible refine HT.out.mono ?_); rintro e w6 ⟨rfl, hk6, hc6⟩)
    have HC6 := Lib.hid hc6
    have HB6 := Lib.hid (HB5.out.trans (hk6.out HM.out.1 HM.out.2 HB5.out.size))
    have HQ6 := Lib.hid (HC5.out.keeps hk6 HQX.out)
    clear r0 r1 r2 r3 r4 r5 r6 r7 r8 r9 r10 l0 hk6 hc6 HT
    have HXB := Lib.hid (heap_lt HQ6.out)
    go_loopw [12, 30] (fun lv iv wr => ∃ (k : Nat) (a : Option Addr) (c : Nat) (ts : List Tl), lv = .slice a ts.length c ∧ iv = .int .i64 k ∧ ts.length = k ∧ k ≤ N ∧ Hid (KidsD w6.heap.size wr (.slice a ts.length c) ts) ∧ Hid (CtrB g.prods u M C M1 M2 pa pc wa wc ls' w6.heap.size wr) ∧ Hid (ts.map (fun t => [t.plain]) = AL.take k) ∧ Hid (Below w.heap.size w wr) ∧ Hid (wr.heap[XB]? = some (.cells #[.int .i64 root, .int .i64 0, .int .i64 (u.length : Int), .bool false, .bool false, .bool false, .bool false, .bool false, .bool false, .bool false, .bool false] 86)) ∧ Hid (w6.heap.size ≤ wr.heap.size)) (fun _ iv _ => N - (intOf iv).toNat)
    case atStart => exact ⟨0, none, 0, [], rfl, rfl, rfl, by omega, Lib.hid ⟨World.ownsRow_nil _ _ _ _, fun t ht => by cases ht⟩, Lib.hid HC6.out.atB, Lib.hid rfl, HB6, HQ6, Lib.hid (Nat.le_refl _)⟩
    case round =>
      obtain ⟨k, a, c, ts, rfl, rfl, hlen, hk, HKD, HCB, HPL, HBW, HQR, HSZ⟩ := hrel
      by_cases hkl : k < N
      · obtain ⟨i0, hi0, hz0, hz1, hz2⟩ := info_of infoTq
        have e1 : (k : Int) < N := by omega
        obtain ⟨r0, r1, r2, r3, r4, r5, r6, r7, r8, r9, r10, l0⟩ := goalD_cells HQR.out
        have hkA : k < AL.length := by have := HN.out; omega
        have HFK := Lib.hid (HFD.out k wr (by have := HN.out; omega) hkA HCB.out.ctr)
        have HLEN := Lib.hid hlen
        have hl200 : ts.length ≤ 200 := by omega
        have HKL := Lib.hid hkl
        have HKA := Lib.hid hkA
        clear hlen hkl hkA
        go_wp2_with (first
          | (go_at_call 38; (with_reducible refine HFK.out.mono ?_); rintro e w7 ⟨t, rfl, hl7, hp7, hk7, hc7⟩; have HKD7 := Lib.hid (HKD.out.kept hk7 HCB.out.low.1 HCB.out.low.2); have HCB7 := Lib.hid (HCB.out.to (hk7.row none) (fun x hx => by cases hx) hc7.mg hc7.mr); have HQ7 := Lib.hid (HCB.out.ctr.keeps hk7 HQR.out); have HBW7 := Lib.hid (HBW.out.trans (hk7.out HM.out.1 HM.out.2 HBW.out.size)); have HKA7 := Lib.hid (HKD7.out.under (box_belowT w7 (.cells #[.int .i64 t.sym, .int .i64 t.prod, .slice t.a t.kids.length t.c] 39))); have HCA7 := Lib.hid (HCB7.out.to ((KeptD.of (M1 := M1) (M2 := M2) (box_belowT w7 (.cells #[.int .i64 t.sym, .int .i64 t.prod, .slice t.a t.kids.length t.c] 39))).row none) (fun x hx => by cases hx) (hc7.below (box_belowT w7 (.cells #[.int .i64 t.sym, .int .i64 t.prod, .slice t.a t.kids.length t.c] 39))).mg (hc7.below (box_belowT w7 (.cells #[.int .i64 t.sym, .int .i64 t.prod, .slice t.a t.kids.length t.c] 39))).mr); have HLA7 := Lib.hid (hl7.under (box_belowT w7 (.cells #[.int .i64 t.sym, .int .i64 t.prod, .slice t.a t.kids.length t.c] 39))); have HP7 := Lib.hid hp7; have HS7 := Lib.hid hk7.size; have HR0 := Lib.hid (row_of_own HKD.out); clear hl7 hp7 hk7 hc7)
          | (at_builtin; refine wpList_append_lies _ rfl (.tmp 33) (.tmp 38) 34 rfl w6.heap.size 39 i0 (.agg #[.int .i64 0, .int .i64 0, .slice none 0 0]) 3 40 Try.underlying34 hi0 hz0 hz1 hz2 rfl (by decide) (.slice a ts.length c) ts.length (tls ts) rfl HKA7.out.own ⟨w7.heap.size, 0, none⟩ 1 1 [.int .i64 t.sym, .int .i64 t.prod, .slice t.a t.kids.length t.c] rfl rfl (World.news_of_block (cs := #[.int .i64 t.sym, .int .i64 t.prod, .slice t.a t.kids.length t.c]) (t := 39) (fr := (0, 0)) (heap_alloc_new w7 (.cells #[.int .i64 t.sym, .int .i64 t.prod, .slice t.a t.kids.length t.c] 39))) (by simp [Value.oneCell']) (by decide) (by unfold maxLen; omega) (by omega) (by have h1 := HSZ.out; have h2 := HS7.out; simp; omega) (w7.heap.size + 1) (by simp) ?_; intro gg cap w8 hown8 hgrow8 hat8 hlt8))
        have hkd8 : KidsD w6.heap.size w8 (.slice (some ⟨gg, 0, none⟩) (ts ++ [t]).length cap) (ts ++ [t]) := HKA7.out.grow (W0 := wr) HLA7.out HR0.out HSZ.out (by rw [tls_app]; exact hown8) hgrow8 (by rcases hat8 with h | h; exact .inl h; exact .inr (by rw [h]; simp))
        have hlen2 : (ts ++ [t]).length = ts.length + 1 := by simp
        refine ⟨⟨k + 1, some ⟨gg, 0, none⟩, cap, ts ++ [t], by rw [hlen2], by go_num, by rw [hlen2, HLEN.out], by have := HKL.out; omega, Lib.hid hkd8, Lib.hid (HCA7.out.grow hgrow8 HKA7.out.low), Lib.hid ?_, Lib.hid ((HBW7.out.alloc HBW7.out.size _).grown hgrow8 (by have := HBW7.out.size; simp; omega) (fun x hx => by have h1 := HKA7.out.low x hx; have h2 := HB6.out.size; omega)), Lib.hid ((hgrow8.block XB (Nat.lt_of_lt_of_le (heap_lt HQ7.out) (box_belowT w7 (.cells #[.int .i64 t.sym, .int .i64 t.prod, .slice t.a t.kids.length t.c] 39)).size) (fun e => by have h1 := HKA7.out.low XB e.symm; have h2 := HXB.out; omega)).trans (((box_belowT w7 (.cells #[.int .i64 t.sym, .int .i64 t.prod, .slice t.a t.kids.length t.c] 39)).block _ (heap_lt HQ7.out)).trans HQ7.out)), Lib.hid (Nat.le_trans HSZ.out (Nat.le_trans HS7.out (Nat.le_trans (box_belowT w7 (.cells #[.int .i64 t.sym, .int .i64 t.prod, .slice t.a t.kids.length t.c] 39)).size hgrow8.size)))⟩, by have := HKL.out; simp [intOf]; omega⟩
        rw [List.map_append, HPL.out, List.take_add_one, List.getElem?_eq_getElem HKA.out, List.map_cons, List.map_nil, HP7.out, List.getD_eq_getElem?_getD, List.getElem?_eq_getElem HKA.out]
        rfl
      · have e1 : ¬ (k : Int) < N := by omega
        have HKL := Lib.hid hkl
        have HLEN := Lib.hid hlen
        clear hkl hlen
        go_wp2
        go_ret2
        refine ⟨⟨a, c, ts, rfl, own_base' HKD.out.own HB6.out.size, fun t ht => (HKD.out.kids t ht).weak fun b hb _ => by have h1 := hb.1; have h2 := HB6.out.size; omega, ?_⟩, HBW.out⟩
        rw [HALL.out, HPL.out, show k = N by have := HKL.out; omega, ← HN.out]
        rcases Nat.le_total M AL.length with h | h
        · rw [Nat.min_eq_left h]
        · rw [Nat.min_eq_right h, List.take_length, List.take_of_length_le h]
  · rw [askB_false hA] at *
    clear hA
    go_enter Try.func14, Try.ntmps14
    go_upto_region 1 with fail
    generalize w.alloc (.cells #[.slice a1 g.terms.length c1, .slice a2 g.nons.length c2, .slice a3 ls.length c3] 25) = S at *
    have g0 := (blk_cell (i := 0) HQ.out rfl).1
    have g1 := (blk_cell (i := 1) HQ.out rfl).1
    have g2 := (blk_cell (i := 2) HQ.out rfl).1
    have l0 := heap_lt HQ.out
    go_wp2_with (go_at_call 34; (with_reducible refine (HA.out _ HG.out HU.out).mono ?_); rintro e w2 ⟨rfl, hb2⟩; have HB2 := Lib.hid (HB.out.trans (hb2.mono HB.out.size)))
    go_ret2
    exact ⟨rfl, HB2.out⟩
end Go.Proofs.Ytgfkkbpnphbdgaa
