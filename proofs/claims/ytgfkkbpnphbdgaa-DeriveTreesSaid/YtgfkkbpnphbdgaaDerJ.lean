/- slices.Grow of no trees. derive: the tree at a place in the order: what its two calls keep. derive: addKids, where tree and addKids further on are as they should be. -/
import Derived.Test.YtgfkkbpnphbdgaaDerX
import Derived.Test.YtgfkkbpnphbdgaaTreeQ
import Derived.Lib.AppendZerosOnto
import Derived.Lib.AppendZeros
import Derived.Lib.SliceRun
import Derived.Test.YtgfkkbpnphbdgaaDerA
import Derived.Deep.AppendLies
import Derived.Deep.RegionLaw
set_option linter.unusedVariables false
set_option linter.unusedSimpArgs false
namespace Go.Proofs.Ytgfkkbpnphbdgaa
open Go.RowKit
open Doc Dr

theorem intU : Try.prog.underlying 3 = some (.int .i64) := by kernel_rfl
theorem zeros_size (z : Array Value) (k : Nat) : (Builtin.zeroCells z k).size = k * z.size := by
  simp [Builtin.zeroCells]
set_option maxRecDepth 100000 in
set_option maxHeartbeats 2000000 in
theorem growT_any (n : Nat) (hn : n ≤ 6) (w : World) :
    Calls Try.prog 57 #[.slice none 0 0, .int .i64 n] w fun e w' => ∃ (a : Option Addr) (c : Nat), e = .returned (.slice a 0 c) ∧ w'.ownsRow w.heap.size 39 3 (.slice a 0 c) 0 [] ∧ Below w.heap.size w w' := by
  obtain ⟨i0, hi0, hz0, hz1, hz2⟩ := info_of infoTq
  by_cases h0 : n = 0
  · subst h0
    go_enter Try.func57, Try.ntmps57
    go_wp2
    go_ret
    exact ⟨none, 0, rfl, World.ownsRow_nil _ _ _ _, Below.refl _ _⟩
  · have e1 : (0 : Int) < n := by omega
    have e2 : ¬ (n : Int) < 0 := by omega
    have hrz : ∀ ty, (Builtin.append_ #[34, 3] ty #[.slice none 0 0, .int .i64 (n : Int)]).run Try.prog w =
        .ok (.slice (some ⟨w.heap.size, 0, none⟩) (0 + n) (grownCap w (0 + n) 0 39)) (w.drew.alloc (.cells (([] : List Value).toArray ++ Builtin.zeroCells (Value.agg #[.int .i64 0, .int .i64 0, .slice none 0 0]).cells n ++ Builtin.zeroCells (Value.agg #[.int .i64 0, .int .i64 0, .slice none 0 0]).cells (grownCap w (0 + n) 0 39 - (0 + n))) 39)) := fun ty =>
      Lib.run_append_grow_zeros w 34 3 ty 39 i0 _ .i64 .i64 Try.underlying34 intU hi0 hz0 none 0 0 [] (run_firstCells_none w.drew i0.size 0 0 0) n (by omega) (by omega) (by omega) (by omega) (by rw [hz2]; omega) (growslice_fits (by omega) (by rw [hz2]; omega))
    have hG := grownCap_ge w (0 + n) 0 39
    have hM := grownCap_le_maxLen w (0 + n) 0 39 (by unfold maxLen; omega)
    rw [Nat.zero_add] at *
    generalize hGG : grownCap w n 0 39 = G at *
    have HM := Lib.hid hM
    have HOB := Lib.hid (show (w.drew.alloc (.cells (([] : List Value).toArray ++ Builtin.zeroCells (Value.agg #[.int .i64 0, .int .i64 0, .slice none 0 0]).cells n ++ Builtin.zeroCells (Value.agg #[.int .i64 0, .int .i64 0, .slice none 0 0]).cells (G - n)) 39)).ownsRow w.heap.size 39 3 (.slice (some ⟨w.heap.size, 0, none⟩) 0 G) 0 [] from World.ownsRow_made w.drew _ G (Nat.le_refl _) hM (by rw [Array.size_append, Array.size_append, zeros_size, zeros_size]; simp [Value.cells]; omega))
    have HBB := Lib.hid (show Below w.heap.size w (w.drew.alloc (.cells (([] : List Value).toArray ++ Builtin.zeroCells (Value.agg #[.int .i64 0, .int .i64 0, .slice none 0 0]).cells n ++ Builtin.zeroCells (Value.agg #[.int .i64 0, .int .i64 0, .slice none 0 0]).cells (G - n)) 39)) from (Below.refl _ _).drew.alloc (Nat.le_refl _) _)
    generalize w.drew.alloc (.cells (([] : List Value).toArray ++ Builtin.zeroCells (Value.agg #[.int .i64 0, .int .i64 0, .slice none 0 0]).cells n ++ Builtin.zeroCells (Value.agg #[.int .i64 0, .int .i64 0, .slice none 0 0]).cells (G - n)) 39) = W at *
    have hG63 : G ≤ 9223372036854775807 := by unfold maxLen at hM; omega
    clear hGG hM h0
    go_enter Try.func57, Try.ntmps57
    go_wp2_with (at_builtin; refine Lib.wpList_append_run _ rfl _ _ _ _ rfl _ _ rfl rfl _ _ (hrz _) ?_)
    all_goals
      go_ret
      exact ⟨some ⟨w.heap.size, 0, none⟩, G, rfl, HOB.out, HBB.out⟩
end Go.Proofs.Ytgfkkbpnphbdgaa

set_option linter.unusedVariables false
set_option linter.unusedSimpArgs false
namespace Go.Proofs.Ytgfkkbpnphbdgaa
open Go.RowKit
open Doc Dr

variable {g : List (Int × List Int)} {u : List Int} {m C M1 M2 pc wc : Nat} {pa wa : Option Addr} {ls : List Lay}
/-- Two maps and a row may have turned. -/
structure KeptR (M1 M2 : Nat) (r : Option Nat) (w w' : World) : Prop where
  os : w'.os = w.os
  tape : w'.tape = w.tape
  output : w'.output = w.output
  size : w.heap.size ≤ w'.heap.size
  block : ∀ k, k < w.heap.size → k ≠ M1 → k ≠ M2 → some k ≠ r → w'.heap[k]? = w.heap[k]?
theorem KeptD.row {w w' : World} (h : KeptD M1 M2 w w') (r : Option Nat) : KeptR M1 M2 r w w' := ⟨h.os, h.tape, h.output, h.size, fun k hk h1 h2 _ => h.block k hk h1 h2⟩
theorem KeptR.trans {r : Option Nat} {a b c : World} (h : KeptR M1 M2 r a b) (k : KeptR M1 M2 r b c) : KeptR M1 M2 r a c :=
  ⟨k.os.trans h.os, k.tape.trans h.tape, k.output.trans h.output, Nat.le_trans h.size k.size, fun i hi h1 h2 h3 => (k.block i (Nat.lt_of_lt_of_le hi h.size) h1 h2 h3).trans (h.block i hi h1 h2 h3)⟩
/-- The second row is the first, or new. -/
theorem KeptR.then {r r' : Option Nat} {a b c : World} (h : KeptR M1 M2 r a b) (k : KeptR M1 M2 r' b c) (hr : ∀ x, r' = some x → r = some x ∨ a.heap.size ≤ x) : KeptR M1 M2 r a c :=
  ⟨k.os.trans h.os, k.tape.trans h.tape, k.output.trans h.output, Nat.le_trans h.size k.size, fun i hi h1 h2 h3 => (k.block i (Nat.lt_of_lt_of_le hi h.size) h1 h2 (fun e => by
    rcases hr i e.symm with h4 | h4
    · exact h3 h4.symm
    · omega)).trans (h.block i hi h1 h2 h3)⟩
theorem KeptR.grown {r : Option Nat} {w w' : World} (h : w.grownBy w' r) : KeptR M1 M2 r w w' := ⟨h.os, h.tape, h.output, h.size, fun k hk _ _ h3 => h.block k hk h3⟩
/-- The counter lies below B. -/
structure CtrB (g : List (Int × List Int)) (u : List Int) (m C M1 M2 : Nat) (pa : Option Addr) (pc : Nat) (wa : Option Addr) (wc : Nat) (ls : List Lay) (B : Nat) (W : World) : Prop where
  ex : ∃ S0 : World, S0.heap.size ≤ B ∧ Ctr g u m C M1 M2 pa pc wa wc ls S0 ∧ KeptD M1 M2 S0 W
  mg : MemG g u m M1 W
  mr : MemR g u m M2 W
theorem CtrB.ctr {B : Nat} {W : World} (h : CtrB g u m C M1 M2 pa pc wa wc ls B W) : Ctr g u m C M1 M2 pa pc wa wc ls W := by
  obtain ⟨⟨S0, _, hc, hk⟩, h1, h2⟩ := h
  exact hc.to hk h1 h2
theorem CtrB.low {B : Nat} {W : World} (h : CtrB g u m C M1 M2 pa pc wa wc ls B W) : M1 < B ∧ M2 < B := by
  obtain ⟨⟨S0, hl, hc, hk⟩, _, _⟩ := h
  obtain ⟨_, _, h1⟩ := hc.mg.map
  obtain ⟨_, _, h2⟩ := hc.mr.map
  have := heap_lt h1; have := heap_lt h2
  omega
theorem Ctr.low {W : World} (h : Ctr g u m C M1 M2 pa pc wa wc ls W) : M1 < W.heap.size ∧ M2 < W.heap.size := by
  obtain ⟨_, _, h1⟩ := h.mg.map
  obtain ⟨_, _, h2⟩ := h.mr.map
  exact ⟨heap_lt h1, heap_lt h2⟩
theorem Ctr.atB {W : World} (h : Ctr g u m C M1 M2 pa pc wa wc ls W) : CtrB g u m C M1 M2 pa pc wa wc ls W.heap.size W := ⟨⟨W, Nat.le_refl _, h, KeptD.refl _ _ _⟩, h.mg, h.mr⟩
theorem CtrB.up {B B' : Nat} {W : World} (h : CtrB g u m C M1 M2 pa pc wa wc ls B W) (hB : B ≤ B') : CtrB g u m C M1 M2 pa pc wa wc ls B' W := by
  obtain ⟨⟨S0, hl, hc, hk⟩, h1, h2⟩ := h
  exact ⟨⟨S0, by omega, hc, hk⟩, h1, h2⟩
theorem CtrB.to {B : Nat} {r : Option Nat} {W W' : World} (h : CtrB g u m C M1 M2 pa pc wa wc ls B W) (hk : KeptR M1 M2 r W W') (hr : ∀ x, r = some x → B ≤ x) (h1 : MemG g u m M1 W') (h2 : MemR g u m M2 W') : CtrB g u m C M1 M2 pa pc wa wc ls B W' := by
  obtain ⟨⟨S0, hl, hc, hk0⟩, _, _⟩ := h
  refine ⟨⟨S0, hl, hc, ⟨hk.os.trans hk0.os, hk.tape.trans hk0.tape, hk.output.trans hk0.output, Nat.le_trans hk0.size hk.size, fun k h3 h4 h5 => (hk.block k (Nat.lt_of_lt_of_le h3 hk0.size) h4 h5 (fun e => by have := hr k e.symm; omega)).trans (hk0.block k h3 h4 h5)⟩⟩, h1, h2⟩
/-- Where only a row of one's own has turned. -/
theorem CtrB.grow {B : Nat} {r : Option Nat} {W W' : World} (h : CtrB g u m C M1 M2 pa pc wa wc ls B W) (hg : W.grownBy W' r) (hr : ∀ x, r = some x → B ≤ x) : CtrB g u m C M1 M2 pa pc wa wc ls B W' := by
  have hl := h.low
  have hs := h.ctr.low
  exact h.to (KeptR.grown hg) hr (h.mg.at (hg.block _ hs.1 (fun e => by have := hr _ e.symm; omega))) (h.mr.at (hg.block _ hs.2 (fun e => by have := hr _ e.symm; omega)))
/-- Kids, in a row of one's own. -/
structure KidsD (B : Nat) (W : World) (rv : Value) (ks : List Tl) : Prop where
  own : W.ownsRow B 39 3 rv ks.length (tls ks)
  kids : ∀ t ∈ ks, Lies (fun b => B ≤ b ∧ rv.ownBlock ≠ some b) W t
theorem KidsD.low {B : Nat} {W : World} {rv : Value} {ks : List Tl} (h : KidsD B W rv ks) : ∀ x, rv.ownBlock = some x → B ≤ x := fun x hx => (own_block h.own hx).1
theorem KidsD.kept {B : Nat} {W W' : World} {rv : Value} {ks : List Tl} (h : KidsD B W rv ks) (hk : KeptD M1 M2 W W') (h1 : M1 < B) (h2 : M2 < B) : KidsD B W' rv ks where
  own := own_same h.own fun x hx hl => hk.block x hl (by have := h.low x hx; omega) (by have := h.low x hx; omega)
  kids := fun t ht => (h.kids t ht).keep hk.size (fun b hb hl => hk.block b hl (by have := hb.1; omega) (by have := hb.1; omega)) (fun b hb _ => hb)
theorem KidsD.grow {B g0 cap : Nat} {W W0 W' : World} {rv : Value} {ks : List Tl} {t : Tl} (h : KidsD B W rv ks) (ht : Lies (fun b => W0.heap.size ≤ b) W t) (hr0 : ∀ x, rv.ownBlock = some x → x < W0.heap.size) (hB : B ≤ W0.heap.size)
    (ho : W'.ownsRow B 39 3 (.slice (some ⟨g0, 0, none⟩) (ks.length + 1) cap) (ks.length + 1) (tls (ks ++ [t]))) (hg : W.grownBy W' rv.ownBlock) (ha : rv.ownBlock = some g0 ∨ g0 = W.heap.size) : KidsD B W' (.slice (some ⟨g0, 0, none⟩) (ks ++ [t]).length cap) (ks ++ [t]) := by
  have hlen : (ks ++ [t]).length = ks.length + 1 := by simp
  refine ⟨by rw [hlen]; exact ho, fun s hs => ?_⟩
  have key : Lies (fun b => B ≤ b ∧ rv.ownBlock ≠ some b) W s := by
    rcases List.mem_append.1 hs with hs | hs
    · exact h.kids s hs
    · rw [List.mem_singleton.1 hs]
      exact ht.weak fun b hb _ => ⟨by omega, fun e => by have := hr0 b e; omega⟩
  refine key.keep hg.size (fun b hb hl => hg.block b hl (fun e => hb.2 e.symm)) (fun b hb hl => ⟨hb.1, fun e => ?_⟩)
  have e' : g0 = b := by simpa [Value.ownBlock] using e
  rcases ha with ha | ha
  · exact hb.2 (e' ▸ ha)
  · omega
def TreeEndD (g : List (Int × List Int)) (u : List Int) (m C M1 M2 : Nat) (pa : Option Addr) (pc : Nat) (wa : Option Addr) (wc : Nat) (ls : List Lay) (x : Int) (s : Spn) (q : Nat) (W : World) (e : Ending) (W' : World) : Prop :=
  ∃ t : Tl, e = .returned (.agg #[.int .i64 t.sym, .int .i64 t.prod, .slice t.a t.kids.length t.c]) ∧ Lies (fun b => W.heap.size ≤ b) W' t ∧ [t.plain] = (all g u (.goal x s)).getD q [] ∧ KeptD M1 M2 W W' ∧ Ctr g u m C M1 M2 pa pc wa wc ls W'
def KidsEndD (g : List (Int × List Int)) (u : List Int) (m C M1 M2 : Nat) (pa : Option Addr) (pc : Nat) (wa : Option Addr) (wc : Nat) (ls : List Lay) (B : Nat) (r : Option Nat) (ks : List Tl) (p d : Nat) (s : Spn) (q : Nat) (W : World) (e : Ending) (W' : World) : Prop :=
  ∃ (a : Option Addr) (c : Nat) (kt : List Tl), e = .returned (.slice a (ks ++ kt).length c) ∧ KidsD B W' (.slice a (ks ++ kt).length c) (ks ++ kt) ∧ kt.map Tl.plain = (all g u (.row p d s)).getD q [] ∧ KeptR M1 M2 r W W' ∧ CtrB g u m C M1 M2 pa pc wa wc ls B W'
def KQd (BG BR : Nat) (G R : Array Value) (w' : World) : Prop := w'.heap[BG]? = some (.cells G 86) ∧ w'.heap[BR]? = some (.cells R 108)
/-- Where a kid is looked for: the counter, the kids by now, the two boxes. -/
structure StD (g : List (Int × List Int)) (u : List Int) (m C M1 M2 : Nat) (pa : Option Addr) (pc : Nat) (wa : Option Addr) (wc : Nat) (ls : List Lay) (B : Nat) (rv : Value) (ks : List Tl) (BG BR : Nat) (G R : Array Value) (S W : World) : Prop where
  cb : CtrB g u m C M1 M2 pa pc wa wc ls B W
  kd : KidsD B W rv ks
  k : KeptD M1 M2 S W
  kq : KQd BG BR G R W
theorem StD.call {B BG BR : Nat} {rv : Value} {ks : List Tl} {G R : Array Value} {S W W' : World} (h : StD g u m C M1 M2 pa pc wa wc ls B rv ks BG BR G R S W) (hk : KeptD M1 M2 W W') (hc : Ctr g u m C M1 M2 pa pc wa wc ls W') : StD g u m C M1 M2 pa pc wa wc ls B rv ks BG BR G R S W' where
  cb := h.cb.to (hk.row none) (fun x hx => by cases hx) hc.mg hc.mr
  kd := h.kd.kept hk h.cb.low.1 h.cb.low.2
  k := h.k.trans hk
  kq := ⟨h.cb.ctr.keeps hk h.kq.1, h.cb.ctr.keeps hk h.kq.2⟩
theorem StD.below {B BG BR : Nat} {rv : Value} {ks : List Tl} {G R : Array Value} {S W W' : World} (h : StD g u m C M1 M2 pa pc wa wc ls B rv ks BG BR G R S W) (hb : Below W.heap.size W W') : StD g u m C M1 M2 pa pc wa wc ls B rv ks BG BR G R S W' := h.call (KeptD.of hb) (h.cb.ctr.below hb)
/-- Behind the append of a kid. -/
structure ApD (g : List (Int × List Int)) (u : List Int) (m C M1 M2 : Nat) (pa : Option Addr) (pc : Nat) (wa : Option Addr) (wc : Nat) (ls : List Lay) (B : Nat) (r : Option Nat) (rv : Value) (ks : List Tl) (BG BR : Nat) (G R : Array Value) (S W : World) : Prop where
  cb : CtrB g u m C M1 M2 pa pc wa wc ls B W
  kd : KidsD B W rv ks
  k : KeptR M1 M2 r S W
  kq : KQd BG BR G R W
  hB : B ≤ W.heap.size
  own : ∀ x, rv.ownBlock = some x → r = some x ∨ S.heap.size ≤ x
  far : ∀ x, rv.ownBlock = some x → x ≠ BG ∧ x ≠ BR
theorem StD.app {B BG BR g0 cap : Nat} {rv : Value} {ks : List Tl} {G R : Array Value} {S W8 W W' : World} {t : Tl} (h : StD g u m C M1 M2 pa pc wa wc ls B rv ks BG BR G R S W) (ht : Lies (fun b => W8.heap.size ≤ b) W t) (hS : S.heap.size ≤ W8.heap.size) (hr0 : ∀ x, rv.ownBlock = some x → x < S.heap.size) (hB : B ≤ S.heap.size) (hG : S.heap.size ≤ BG) (hR : S.heap.size ≤ BR)
    (ho : W'.ownsRow B 39 3 (.slice (some ⟨g0, 0, none⟩) (ks.length + 1) cap) (ks.length + 1) (tls (ks ++ [t]))) (hg : W.grownBy W' rv.ownBlock) (ha : rv.ownBlock = some g0 ∨ g0 = W.heap.size) :
    ApD g u m C M1 M2 pa pc wa wc ls B rv.ownBlock (.slice (some ⟨g0, 0, none⟩) (ks ++ [t]).length cap) (ks ++ [t]) BG BR G R S W' where
  cb := h.cb.grow hg h.kd.low
  kd := h.kd.grow (W0 := W8) ht (fun x hx => by have := hr0 x hx; omega) (by omega) ho hg ha
  k := (h.k.row _).trans (KeptR.grown hg)
  kq := ⟨(hg.block _ (heap_lt h.kq.1) (fun e => by have := hr0 _ e.symm; omega)).trans h.kq.1, (hg.block _ (heap_lt h.kq.2) (fun e => by have := hr0 _ e.symm; omega)).trans h.kq.2⟩
  hB := Nat.le_trans hB (Nat.le_trans h.k.size hg.size)
  own := fun x hx => by
    have e : g0 = x := by simpa [Value.ownBlock] using hx
    subst e
    rcases ha with ha | ha
    · exact .inl ha
    · exact .inr (by have := h.k.size; omega)
  far := fun x hx => by
    have e : g0 = x := by simpa [Value.ownBlock] using hx
    subst e
    have h1 := heap_lt h.kq.1
    have h2 := heap_lt h.kq.2
    rcases ha with ha | ha
    · have := hr0 _ ha
      omega
    · omega
theorem ApD.kids {B BG BR : Nat} {r : Option Nat} {rv : Value} {ks : List Tl} {G R : Array Value} {S W W' : World} (h : ApD g u m C M1 M2 pa pc wa wc ls B r rv ks BG BR G R S W) (hk : KeptR M1 M2 rv.ownBlock W W') : KQd BG BR G R W' := by
  have hne : ∀ k cs t, W.heap[k]? = some (.cells cs t) → k ≠ M1 ∧ k ≠ M2 := fun k cs t hkk => by
    obtain ⟨_, _, h1⟩ := h.cb.ctr.mg.map
    obtain ⟨_, _, h2⟩ := h.cb.ctr.mr.map
    constructor
    · rintro rfl; rw [h1] at hkk; cases hkk
    · rintro rfl; rw [h2] at hkk; cases hkk
  exact ⟨(hk.block _ (heap_lt h.kq.1) (hne _ _ _ h.kq.1).1 (hne _ _ _ h.kq.1).2 (fun e => (h.far _ e.symm).1 rfl)).trans h.kq.1, (hk.block _ (heap_lt h.kq.2) (hne _ _ _ h.kq.2).1 (hne _ _ _ h.kq.2).2 (fun e => (h.far _ e.symm).2 rfl)).trans h.kq.2⟩
theorem row_of_own {B : Nat} {W : World} {rv : Value} {ks : List Tl} (h : KidsD B W rv ks) : ∀ x, rv.ownBlock = some x → x < W.heap.size := fun x hx => (own_block h.own hx).2.1
end Go.Proofs.Ytgfkkbpnphbdgaa

set_option linter.unusedVariables false
set_option linter.unusedSimpArgs false
namespace Go.Proofs.Ytgfkkbpnphbdgaa
open Go.RowKit
open Doc Dr

variable {g : List (Int × List Int)} {u : List Int} {m C M1 M2 pc wc : Nat} {pa wa : Option Addr} {ls : List Lay}
set_option maxRecDepth 100000 in
set_option maxHeartbeats 16000000 in
theorem addKids_of (ok : OkD g u m) (p d : Nat) (s : Spn) (hp : p < g.length) (hd : d ≤ (g.getD p (0, [])).2.length) (hs : InD u s)
    (ihT : ∀ i, d < (g.getD p (0, [])).2.length → i ≤ s.b - s.a → ∀ (q : Nat) W, q < m → q < (all g u (.goal ((g.getD p (0, [])).2.getD d 0) (fst_ s i))).length → Ctr g u m C M1 M2 pa pc wa wc ls W → Calls Try.prog 38 #[.pointer (some ⟨C, 0, none⟩), codeG ((g.getD p (0, [])).2.getD d 0, fst_ s i), .int .i64 q] W (TreeEndD g u m C M1 M2 pa pc wa wc ls ((g.getD p (0, [])).2.getD d 0) (fst_ s i) q W))
    (ihK : ∀ i, d < (g.getD p (0, [])).2.length → i ≤ s.b - s.a → ∀ (q B : Nat) (a' : Option Addr) (c' : Nat) (ks : List Tl) W, q < m → q < (all g u (.row p (d + 1) (snd_ s i))).length → B ≤ W.heap.size → CtrB g u m C M1 M2 pa pc wa wc ls B W → KidsD B W (.slice a' ks.length c') ks → ks.length ≤ d + 1 → Calls Try.prog 56 #[.pointer (some ⟨C, 0, none⟩), .slice a' ks.length c', codeR (p, d + 1, snd_ s i), .int .i64 q] W (KidsEndD g u m C M1 M2 pa pc wa wc ls B (Value.slice a' ks.length c').ownBlock ks p (d + 1) (snd_ s i) q W))
    {S : World} {B : Nat} (q0 : Nat) (ra : Option Addr) (rc : Nat) (ks : List Tl) (hq : q0 < m) (hql : q0 < (all g u (.row p d s)).length) (hBS : B ≤ S.heap.size) (hc : CtrB g u m C M1 M2 pa pc wa wc ls B S) (hks : KidsD B S (.slice ra ks.length rc) ks) (hkd : ks.length ≤ d) :
    Calls Try.prog 56 #[.pointer (some ⟨C, 0, none⟩), .slice ra ks.length rc, codeR (p, d, s), .int .i64 q0] S (KidsEndD g u m C M1 M2 pa pc wa wc ls B (Value.slice ra ks.length rc).ownBlock ks p d s q0 S) := by
  have hall := all_row g u ok.six (p := p) (d := d) (s := s) ⟨hs.ab, hs.le⟩
  have HD := Lib.hid fun W (h : Ctr g u m C M1 M2 pa pc wa wc ls W) => dn_any h ok.len p d s hp hd (ok.six.len p)
  have HU := Lib.hid fun W (h : Ctr g u m C M1 M2 pa pc wa wc ls W) (k : Nat) (hdl : d < (g.getD p (0, [])).2.length) (hk : k ≤ s.b - s.a) => dccut_any h ok p d k s hp hdl hs hk
  have HT := Lib.hid ihT
  have HK := Lib.hid ihK
  have HTN := Lib.hid fun (i : Nat) (hdl : d < (g.getD p (0, [])).2.length) (hi : i ≤ s.b - s.a) W (hW : Ctr g u m C M1 M2 pa pc wa wc ls W) => trees_any ok ((g.getD p (0, [])).2.getD d 0) (fst_ s i) (by
    have hm := getD_mem (d := d) hdl
    rw [List.getD_eq_getElem?_getD (l := g), List.getElem?_eq_getElem hp] at hm ⊢
    exact ok.syms _ (List.getElem_mem hp) _ hm) (hs.fst hi) hW
  have HRN := Lib.hid fun (i : Nat) (hdl : d < (g.getD p (0, [])).2.length) (hi : i ≤ s.b - s.a) W (hW : Ctr g u m C M1 M2 pa pc wa wc ls W) => kidRows_any ok p (d + 1) (snd_ s i) hp hdl (hs.snd hi) hW
  have hd7 : d ≤ 6 := by have := ok.six.len p; omega
  have HS := Lib.hid hs
  have hml := ok.ml
  have hle := hs.le
  have hhi := hs.hi
  have hul := ok.ul
  have HQL := Lib.hid hql
  have HKS := Lib.hid hks
  have HCB := Lib.hid hc
  have HOK := Lib.hid ok
  have hb := box_belowT S (.cells (Value.int .i64 p :: .int .i64 d :: .int .i64 s.a :: .int .i64 s.b :: bools s.ab).toArray 108)
  have q1 := heap_alloc_new S (.cells (Value.int .i64 p :: .int .i64 d :: .int .i64 s.a :: .int .i64 s.b :: bools s.ab).toArray 108)
  have HYY0 : Hid (∃ y, (g.getD p (0, [])).2.getD d 0 = y) := Lib.hid ⟨_, rfl⟩
  obtain ⟨y, hY⟩ := HYY0.out
  rw [hY] at HU HT HTN
  have HYY := Lib.hid hY
  clear HYY0
  have HLO := Lib.hid hc.low
  have HALL := Lib.hid hall
  obtain ⟨a, b, ab⟩ := s
  have h8 : ab.length = 8 := hs.ab
  obtain ⟨y0, y1, y2, y3, y4, y5, y6, y7, rfl⟩ := eight h8
  simp only [codeR, bools, List.map_cons, List.map_nil] at HD q1 hb
  have HUU := Lib.hid (show ∀ W (h : Ctr g u m C M1 M2 pa pc wa wc ls W) (k : Nat) (hdl : d < (g.getD p (0, [])).2.length) (hk : k ≤ b - a), Calls Try.prog 67 #[.pointer (some ⟨C, 0, none⟩), .agg #[.int .i64 p, .int .i64 d, .int .i64 a, .int .i64 b, .bool y0, .bool y1, .bool y2, .bool y3, .bool y4, .bool y5, .bool y6, .bool y7], .int .i64 k] W _ from HU.out)
  simp only at hle hhi
  have HC := Lib.hid (hc.ctr.below hb)
  have HQ := Lib.hid q1
  have HB := Lib.hid (KeptD.of (M1 := M1) (M2 := M2) hb)
  unfold codeR bools
  simp only [List.map_cons, List.map_nil]
  clear hall ihT ihK hb q1 hs h8 hc ok hY hd hp HU hks hql
  go_enter Try.func56, Try.ntmps56
  go_upto_region 1 with fail
  generalize S.alloc (.cells #[.int .i64 p, .int .i64 d, .int .i64 a, .int .i64 b, .bool y0, .bool y1, .bool y2, .bool y3, .bool y4, .bool y5, .bool y6, .bool y7] 108) = S1 at *
  have l0 := heap_lt HQ.out
  generalize hBX : S.heap.size = BX at *
  have HBX := Lib.hid hBX
  clear hBX
  obtain ⟨r0, r1, r2, r3, r4, r5, r6, r7, r8, r9, r10, r11, _⟩ := rowD_cells HQ.out
  go_upto_if 16 with (go_at_call 66; (with_reducible refine (HD.out _ HC.out).mono ?_); rintro e w2 ⟨rfl, hb2⟩)
  have HK2 := Lib.hid (HB.out.below hb2)
  have HC2 := Lib.hid (HC.out.below hb2)
  have HQ2 := Lib.hid ((hb2.block _ l0).trans HQ.out)
  clear r0 r1 r2 r3 r4 r5 r6 r7 r8 r9 r10 r11 hb2 HB HC HQ l0 HD
  obtain ⟨r0, r1, r2, r3, r4, r5, r6, r7, r8, r9, r10, r11, l0⟩ := rowD_cells HQ2.out
  by_cases hdl : (g.getD p (0, [])).2.length ≤ d
  · have HN2 := Lib.hid (HALL.out.trans (if_pos hdl))
    have hdb : dnB g p d = true := decide_eq_true hdl
    rw [hdb]
    clear hdb HALL
    go_wp2
    go_ret
    refine ⟨ra, rc, [], by rw [List.append_nil]; rfl, by rw [List.append_nil]; exact HKS.out.kept HK2.out HLO.out.1 HLO.out.2, ?_, HK2.out.row _, HCB.out.to (HK2.out.row none) (fun x h => by cases h) HC2.out.mg HC2.out.mr⟩
    have h1 := HQL.out
    rw [HN2.out] at h1 ⊢
    by_cases hab : a = b
    · rw [if_pos hab] at h1 ⊢
      obtain rfl : q0 = 0 := by simpa using h1
      rfl
    · rw [if_neg hab] at h1; simp at h1
  · have HN2 := Lib.hid ((HALL.out.trans (if_neg hdl)).trans (rTail_all g u (p := p) (d := d) (s := ⟨a, b, [y0, y1, y2, y3, y4, y5, y6, y7]⟩)).symm)
    have hdb : dnB g p d = false := decide_eq_false hdl
    have HDL := Lib.hid (show d < (g.getD p (0, [])).2.length by omega)
    rw [hdb]
    clear hdb hdl HALL
    obtain ⟨n0, hn0⟩ : ∃ n0 : Nat, b - a = n0 := ⟨_, rfl⟩
    have hba : (b : Int) - (a : Int) = (n0 : Int) := by omega
    have hwr0 : IntKind.i64.wrap ((b : Int) - (a : Int)) = (n0 : Int) := by rw [hba]; exact IntWalk.i64_in _ (by omega)
    have hwr1 : IntKind.i64.wrap ((n0 : Int) + 1) = (n0 : Int) + 1 := IntWalk.i64_in _ (by omega)
    have hn12 : n0 ≤ 12 := by omega
    have HN0 := Lib.hid hn0
    clear hn0 hba
    go_upto_region 4 with fail
    clear r0 r1 r2 r3 r4 r5 r6 r7 r8 r9 r10 r11
    go_loopw [3, 26] (fun pv iv wr => ∃ q k : Nat, pv = .int .i64 q ∧ iv = .int .i64 k ∧ k ≤ n0 + 1 ∧ q ≤ q0 ∧ Hid (q < (rTail g u p d ⟨a, b, [y0, y1, y2, y3, y4, y5, y6, y7]⟩ k).length ∧ (rTail g u p d ⟨a, b, [y0, y1, y2, y3, y4, y5, y6, y7]⟩ k).getD q [] = (all g u (.row p d ⟨a, b, [y0, y1, y2, y3, y4, y5, y6, y7]⟩)).getD q0 []) ∧ Hid (KeptD M1 M2 S wr) ∧ Hid (Ctr g u m C M1 M2 pa pc wa wc ls wr) ∧ Hid (wr.heap[BX]? = some (.cells #[.int .i64 p, .int .i64 d, .int .i64 a, .int .i64 b, .bool y0, .bool y1, .bool y2, .bool y3, .bool y4, .bool y5, .bool y6, .bool y7] 108))) (fun _ iv _ => n0 + 1 - (intOf iv).toNat)
    case atStart => exact ⟨q0, 0, rfl, rfl, by omega, by omega, Lib.hid ⟨by rw [← HN2.out]; exact HQL.out, by rw [← HN2.out]⟩, HK2, HC2, HQ2⟩
    case round =>
      obtain ⟨q, k, rfl, rfl, hk, hqq, HQT, HKR, HCR, HQR⟩ := hrel
      clear HK2 HC2 HQ2
      have hBXl := heap_lt HQR.out
      obtain ⟨r0, r1, r2, r3, r4, r5, r6, r7, r8, r9, r10, r11, l0⟩ := rowD_cells HQR.out
      obtain ⟨c0, c1, c2, c3, c4, lc⟩ := HCR.out.five
      by_cases hkl : k ≤ n0
      · have e1 : (k : Int) < (n0 : Int) + 1 := by omega
        have hk2 : k ≤ b - a := by have := HN0.out; omega
        obtain ⟨f0, f1, f2, f3, f4, f5, f6, f7, hf⟩ := eight (HS.out.fst hk2).ab
        obtain ⟨z0, z1, z2, z3, z4, z5, z6, z7, hz⟩ := eight (HS.out.snd hk2).ab
        have hfe : fst_ ⟨a, b, [y0, y1, y2, y3, y4, y5, y6, y7]⟩ k = ⟨a, a + k, [f0, f1, f2, f3, f4, f5, f6, f7]⟩ := by rw [← hf]; rfl
        have hze : snd_ ⟨a, b, [y0, y1, y2, y3, y4, y5, y6, y7]⟩ k = ⟨a + k, b, [z0, z1, z2, z3, z4, z5, z6, z7]⟩ := by rw [← hz]; rfl
        have hu := HUU.out wr HCR.out k HDL.out hk2
        have ht := HTN.out k HDL.out hk2
        have hkk := HRN.out k HDL.out hk2
        have hT := HT.out k HDL.out hk2
        have hK := HK.out k HDL.out hk2
        have HSTEP := Lib.hid (rTail_step g u (p := p) (d := d) (s := ⟨a, b, [y0, y1, y2, y3, y4, y5, y6, y7]⟩) (n := k) (by show k ≤ b - a; omega))
        have HOFN := Lib.hid (show ofN g u p d ⟨a, b, [y0, y1, y2, y3, y4, y5, y6, y7]⟩ k = (all g u (.goal y (fst_ ⟨a, b, [y0, y1, y2, y3, y4, y5, y6, y7]⟩ k))).flatMap fun t => (all g u (.row p (d + 1) (snd_ ⟨a, b, [y0, y1, y2, y3, y4, y5, y6, y7]⟩ k))).map fun ks => t ++ ks by unfold ofN; rw [HYY.out])
        have hNX := num_all m g u (.goal y (fst_ ⟨a, b, [y0, y1, y2, y3, y4, y5, y6, y7]⟩ k))
        have hNY := num_all m g u (.row p (d + 1) (snd_ ⟨a, b, [y0, y1, y2, y3, y4, y5, y6, y7]⟩ k))
        unfold TreeEndD at hT
        unfold KidsEndD at hK
        unfold JobEnd at ht hkk
        rw [hfe, hze] at hu
        generalize hAX : all g u (.goal y (fst_ ⟨a, b, [y0, y1, y2, y3, y4, y5, y6, y7]⟩ k)) = AX at *
        generalize hAY : all g u (.row p (d + 1) (snd_ ⟨a, b, [y0, y1, y2, y3, y4, y5, y6, y7]⟩ k)) = AY at *
        obtain ⟨nx, hnx⟩ : ∃ nx, min m AX.length = nx := ⟨_, rfl⟩
        obtain ⟨ny, hny⟩ : ∃ ny, min m AY.length = ny := ⟨_, rfl⟩
        rw [hNX, hnx] at ht
        rw [hNY, hny] at hkk
        rw [hfe] at ht hT
        rw [hze] at hkk hK
        simp only [codeG, codeR, bools, List.map_cons, List.map_nil] at hu ht hkk hT hK
        push_cast at ht hkk hT hK
        have HU1 := Lib.hid hu
        have HT1 := Lib.hid ht
        have HK1 := Lib.hid hkk
        have HTT := Lib.hid hT
        have HKK := Lib.hid hK
        have HNX := Lib.hid hnx
        have HNY := Lib.hid hny
        have hnxm : nx ≤ 200 := by omega
        have hnym : ny ≤ 200 := by omega
        have hmul : nx * ny ≤ 40000 := Nat.mul_le_mul hnxm hnym
        have hmi : ((nx : Int) * (ny : Int)) = ((nx * ny : Nat) : Int) := by push_cast; rfl
        have hw1 : IntKind.i64.wrap ((nx : Int) * (ny : Int)) = (nx : Int) * (ny : Int) := IntWalk.i64_in _ (by rw [hmi]; omega)
        have HMU := Lib.hid hmul
        have HMI := Lib.hid hmi
        have HKL := Lib.hid hkl
        have HQM := Lib.hid (show q < m by omega)
        clear hu ht hkk hT hK hfe hze hf hz hNX hNY hAX hAY hnx hny hmul hmi hkl hk2
        go_upto_region 7 with (go_at_call 67; (with_reducible refine HU1.out.mono ?_); rintro e w5 ⟨rfl, hb5⟩)
        obtain ⟨hbA, hsA, qA0, qA1⟩ := twin_alloc w5 (.cells #[.int .i64 y, .int .i64 a, .int .i64 ((a : Int) + (k : Int)), .bool f0, .bool f1, .bool f2, .bool f3, .bool f4, .bool f5, .bool f6, .bool f7] 86) (.cells #[.int .i64 p, .int .i64 ((d : Int) + 1), .int .i64 ((a : Int) + (k : Int)), .int .i64 b, .bool z0, .bool z1, .bool z2, .bool z3, .bool z4, .bool z5, .bool z6, .bool z7] 108)
        have HCA := Lib.hid ((HCR.out.below hb5).below hbA)
        have HKA := Lib.hid ((HKR.out.below hb5).below hbA)
        have HQA := Lib.hid ((hbA.block _ (Nat.lt_of_lt_of_le hBXl hb5.size)).trans ((hb5.block _ hBXl).trans HQR.out))
        have HG := Lib.hid qA0
        have HR := Lib.hid qA1
        have HBG := Lib.hid (show S.heap.size ≤ w5.heap.size from Nat.le_trans HKR.out.size hb5.size)
        clear r0 r1 r2 r3 r4 r5 r6 r7 r8 r9 r10 r11 l0 c0 c1 c2 c3 c4 lc hb5 hbA hsA qA0 qA1 HKR HCR HQR HU1 hBXl
        generalize (w5.alloc (.cells #[.int .i64 y, .int .i64 a, .int .i64 ((a : Int) + (k : Int)), .bool f0, .bool f1, .bool f2, .bool f3, .bool f4, .bool f5, .bool f6, .bool f7] 86)).alloc (.cells #[.int .i64 p, .int .i64 ((d : Int) + 1), .int .i64 ((a : Int) + (k : Int)), .int .i64 b, .bool z0, .bool z1, .bool z2, .bool z3, .bool z4, .bool z5, .bool z6, .bool z7] 108) = W6 at *
        have HBG1 := Lib.hid (show S.heap.size ≤ w5.heap.size + 1 by have := HBG.out; omega)
        generalize w5.heap.size + 1 = BR at *
        generalize w5.heap.size = BG at *
        obtain ⟨r0, r1, r2, r3, r4, r5, r6, r7, r8, r9, r10, r11, l0⟩ := rowD_cells HR.out
        go_upto_region 8 with (go_at_call 55; (with_reducible refine (HK1.out _ HCA.out).mono ?_); rintro e w7 ⟨rfl, hk7, hc7⟩)
        have HC7 := Lib.hid hc7
        have HK7 := Lib.hid (HKA.out.trans hk7)
        have HQ7 := Lib.hid (HCA.out.keeps hk7 HQA.out)
        have HR7 := Lib.hid (HCA.out.keeps hk7 HR.out)
        have HG7 := Lib.hid (HCA.out.keeps hk7 HG.out)
        clear r0 r1 r2 r3 r4 r5 r6 r7 r8 r9 r10 r11 l0 hk7 hc7 HCA HKA HQA HG HR HK1
        obtain ⟨g0, g1, g2, g3, g4, g5, g6, g7, g8, g9, g10, gl⟩ := goalD_cells HG7.out
        go_upto_region 9 with (go_at_call 36; (with_reducible refine (HT1.out _ HC7.out).mono ?_); rintro e w8 ⟨rfl, hk8, hc8⟩)
        have HC8 := Lib.hid hc8
        have HK8 := Lib.hid (HK7.out.trans hk8)
        have HQ8 := Lib.hid (HC7.out.keeps hk8 HQ7.out)
        have HR8 := Lib.hid (HC7.out.keeps hk8 HR7.out)
        have HG8 := Lib.hid (HC7.out.keeps hk8 HG7.out)
        clear g0 g1 g2 g3 g4 g5 g6 g7 g8 g9 g10 gl hk8 hc8 HC7 HK7 HQ7 HG7 HR7 HT1
        by_cases hlt : q < nx * ny
        · have e2 : (q : Int) < (nx : Int) * (ny : Int) := by rw [HMI.out]; omega
          obtain ⟨v1, v2, v3, v4, v5, v6, v7, v8⟩ := cut_lt (x := AX.length) (y := AY.length) HQM.out (by rw [HNX.out, HNY.out]; exact hlt)
          rw [HNY.out] at v1 v2 v3
          obtain ⟨i0, hi0, hz0, hz1, hz2⟩ := info_of infoTq
          obtain ⟨qd, hqd⟩ : ∃ qd, q / ny = qd := ⟨_, rfl⟩
          obtain ⟨qm, hqm⟩ : ∃ qm, q % ny = qm := ⟨_, rfl⟩
          have hqdl : qd ≤ q := by rw [← hqd]; exact Nat.div_le_self _ _
          have hqml : qm ≤ q := by rw [← hqm]; exact Nat.mod_le _ _
          have hq1 : (q : Int).tdiv (ny : Int) = (qd : Int) := by rw [Int.tdiv_eq_ediv_of_nonneg (by omega), ← hqd]; exact (Int.natCast_ediv q ny).symm
          have hq2 : (q : Int).tmod (ny : Int) = (qm : Int) := by rw [Int.tmod_eq_emod_of_nonneg (by omega), ← hqm]; exact (Int.natCast_emod q ny).symm
          have hw3 : IntKind.i64.wrap (qd : Int) = qd := IntWalk.i64_in _ (by omega)
          have hw4 : IntKind.i64.wrap (qm : Int) = qm := IntWalk.i64_in _ (by omega)
          have hn0 : ((ny : Int) == 0) = false := beq_eq_false_iff_ne.2 (by omega)
          have hn1 : ¬ (ny : Int) = 0 := by omega
          have hn2 : ¬ ny = 0 := by omega
          have hc1 : ((q / ny : Nat) : Int) = (qd : Int) := by rw [hqd]
          have hc2 : ((q % ny : Nat) : Int) = (qm : Int) := by rw [hqm]
          have hc3 : (q : Int) / (ny : Int) = (qd : Int) := by rw [← hc1]; exact (Int.natCast_ediv q ny).symm
          have hc4 : (q : Int) % (ny : Int) = (qm : Int) := by rw [← hc2]; exact (Int.natCast_emod q ny).symm
          have HFIN := Lib.hid (show ∀ (tp : Tr) (kp : List Tr), [tp] = AX.getD qd [] → kp = AY.getD qm [] → tp :: kp = (all g u (.row p d ⟨a, b, [y0, y1, y2, y3, y4, y5, y6, y7]⟩)).getD q0 [] from fun tp kp h1 h2 => by
            have h3 := HQT.out.2
            have hl := len_pairs (β := Tr) AX AY
            rw [HSTEP.out, HOFN.out, List.getD_eq_getElem?_getD, List.getElem?_append_left (by rw [hl]; exact v6), pairs_get AX AY q v6] at h3
            rw [← h3, ← v2, ← v3, hqd, hqm, ← h1, ← h2]; rfl)
          have HST8 := Lib.hid (⟨HCB.out.to (HK8.out.row none) (fun x hx => by cases hx) HC8.out.mg HC8.out.mr, HKS.out.kept HK8.out HLO.out.1 HLO.out.2, HK8.out, HG8.out, HR8.out⟩ : StD g u m C M1 M2 pa pc wa wc ls B (.slice ra ks.length rc) ks BG BR #[.int .i64 y, .int .i64 a, .int .i64 ((a : Int) + (k : Int)), .bool f0, .bool f1, .bool f2, .bool f3, .bool f4, .bool f5, .bool f6, .bool f7] #[.int .i64 p, .int .i64 ((d : Int) + 1), .int .i64 ((a : Int) + (k : Int)), .int .i64 b, .bool z0, .bool z1, .bool z2, .bool z3, .bool z4, .bool z5, .bool z6, .bool z7] S w8)
          have HSTD := Lib.hid (HST8.out.below (W' := w8.drew) ⟨rfl, rfl, rfl, Nat.le_refl _, fun _ _ => rfl⟩)
          have HKQD := Lib.hid HSTD.out.kq
          have HTQ := Lib.hid (HTT.out qd w8.drew (by omega) (by omega) HSTD.out.cb.ctr)
          have HKQ : Hid (∀ w', Hid (KQd BG BR #[.int .i64 y, .int .i64 a, .int .i64 ((a : Int) + (k : Int)), .bool f0, .bool f1, .bool f2, .bool f3, .bool f4, .bool f5, .bool f6, .bool f7] #[.int .i64 p, .int .i64 ((d : Int) + 1), .int .i64 ((a : Int) + (k : Int)), .int .i64 b, .bool z0, .bool z1, .bool z2, .bool z3, .bool z4, .bool z5, .bool z6, .bool z7] w') → (((w'.cell? ⟨BG, 0, none⟩ = some (.int .i64 y) ∧ w'.cell? ⟨BG, 1, none⟩ = some (.int .i64 a) ∧ w'.cell? ⟨BG, 2, none⟩ = some (.int .i64 ((a : Int) + (k : Int))) ∧ w'.cell? ⟨BG, 3, none⟩ = some (.bool f0) ∧ w'.cell? ⟨BG, 4, none⟩ = some (.bool f1) ∧ w'.cell? ⟨BG, 5, none⟩ = some (.bool f2) ∧ w'.cell? ⟨BG, 6, none⟩ = some (.bool f3) ∧ w'.cell? ⟨BG, 7, none⟩ = some (.bool f4) ∧ w'.cell? ⟨BG, 8, none⟩ = some (.bool f5) ∧ w'.cell? ⟨BG, 9, none⟩ = some (.bool f6) ∧ w'.cell? ⟨BG, 10, none⟩ = some (.bool f7)) ∧ (w'.cell? ⟨BR, 0, none⟩ = some (.int .i64 p) ∧ w'.cell? ⟨BR, 1, none⟩ = some (.int .i64 ((d : Int) + 1)) ∧ w'.cell? ⟨BR, 2, none⟩ = some (.int .i64 ((a : Int) + (k : Int))) ∧ w'.cell? ⟨BR, 3, none⟩ = some (.int .i64 b) ∧ w'.cell? ⟨BR, 4, none⟩ = some (.bool z0) ∧ w'.cell? ⟨BR, 5, none⟩ = some (.bool z1) ∧ w'.cell? ⟨BR, 6, none⟩ = some (.bool z2) ∧ w'.cell? ⟨BR, 7, none⟩ = some (.bool z3) ∧ w'.cell? ⟨BR, 8, none⟩ = some (.bool z4) ∧ w'.cell? ⟨BR, 9, none⟩ = some (.bool z5) ∧ w'.cell? ⟨BR, 10, none⟩ = some (.bool z6) ∧ w'.cell? ⟨BR, 11, none⟩ = some (.bool z7))) ∧ (BG < w'.heap.size ∧ BR < w'.heap.size)) ∧ Hid (KQd BG BR #[.int .i64 y, .int .i64 a, .int .i64 ((a : Int) + (k : Int)), .bool f0, .bool f1, .bool f2, .bool f3, .bool f4, .bool f5, .bool f6, .bool f7] #[.int .i64 p, .int .i64 ((d : Int) + 1), .int .i64 ((a : Int) + (k : Int)), .int .i64 b, .bool z0, .bool z1, .bool z2, .bool z3, .bool z4, .bool z5, .bool z6, .bool z7] w')) := Lib.hid fun w' h => by
            obtain ⟨h0, h1, h2, h3, h4, h5, h6, h7, h8, h9, h10, h11⟩ := goalD_cells h.out.1
            obtain ⟨j0, j1, j2, j3, j4, j5, j6, j7, j8, j9, j10, j11, j12⟩ := rowD_cells h.out.2
            exact ⟨⟨⟨⟨h0, h1, h2, h3, h4, h5, h6, h7, h8, h9, h10⟩, ⟨j0, j1, j2, j3, j4, j5, j6, j7, j8, j9, j10, j11⟩⟩, h11, j12⟩, h⟩
          have HOW := Lib.hid (row_of_own HKS.out)
          have HQML := Lib.hid (show qm < m ∧ qm < AY.length by omega)
          have hkl7 : ks.length ≤ 6 := by omega
          have HBS := Lib.hid (show B ≤ S.heap.size by rw [HBX.out]; exact hBS)
          clear hqd hqm v1 v2 v3 v4 v5 v6 v7 v8 HST8 hlt
          go_upto_region 10 with fail
          go_region_held3 (fun w' => (((w'.cell? ⟨BG, 0, none⟩ = some (.int .i64 y) ∧ w'.cell? ⟨BG, 1, none⟩ = some (.int .i64 a) ∧ w'.cell? ⟨BG, 2, none⟩ = some (.int .i64 ((a : Int) + (k : Int))) ∧ w'.cell? ⟨BG, 3, none⟩ = some (.bool f0) ∧ w'.cell? ⟨BG, 4, none⟩ = some (.bool f1) ∧ w'.cell? ⟨BG, 5, none⟩ = some (.bool f2) ∧ w'.cell? ⟨BG, 6, none⟩ = some (.bool f3) ∧ w'.cell? ⟨BG, 7, none⟩ = some (.bool f4) ∧ w'.cell? ⟨BG, 8, none⟩ = some (.bool f5) ∧ w'.cell? ⟨BG, 9, none⟩ = some (.bool f6) ∧ w'.cell? ⟨BG, 10, none⟩ = some (.bool f7)) ∧ (w'.cell? ⟨BR, 0, none⟩ = some (.int .i64 p) ∧ w'.cell? ⟨BR, 1, none⟩ = some (.int .i64 ((d : Int) + 1)) ∧ w'.cell? ⟨BR, 2, none⟩ = some (.int .i64 ((a : Int) + (k : Int))) ∧ w'.cell? ⟨BR, 3, none⟩ = some (.int .i64 b) ∧ w'.cell? ⟨BR, 4, none⟩ = some (.bool z0) ∧ w'.cell? ⟨BR, 5, none⟩ = some (.bool z1) ∧ w'.cell? ⟨BR, 6, none⟩ = some (.bool z2) ∧ w'.cell? ⟨BR, 7, none⟩ = some (.bool z3) ∧ w'.cell? ⟨BR, 8, none⟩ = some (.bool z4) ∧ w'.cell? ⟨BR, 9, none⟩ = some (.bool z5) ∧ w'.cell? ⟨BR, 10, none⟩ = some (.bool z6) ∧ w'.cell? ⟨BR, 11, none⟩ = some (.bool z7))) ∧ (BG < w'.heap.size ∧ BR < w'.heap.size)) ∧ Hid (KQd BG BR #[.int .i64 y, .int .i64 a, .int .i64 ((a : Int) + (k : Int)), .bool f0, .bool f1, .bool f2, .bool f3, .bool f4, .bool f5, .bool f6, .bool f7] #[.int .i64 p, .int .i64 ((d : Int) + 1), .int .i64 ((a : Int) + (k : Int)), .int .i64 b, .bool z0, .bool z1, .bool z2, .bool z3, .bool z4, .bool z5, .bool z6, .bool z7] w')) (first | exact HKQ.out _ (by assumption)) (first
            | (go_at_call 38; (with_reducible refine HTQ.out.mono ?_); rintro e w9 ⟨t, rfl, hl9, hp9, hk9, hc9⟩; have HST9 := Lib.hid (HSTD.out.call hk9 hc9); have HSTA := Lib.hid (HST9.out.below (box_belowT w9 (.cells #[.int .i64 t.sym, .int .i64 t.prod, .slice t.a t.kids.length t.c] 39))); have HKQ9 := Lib.hid HST9.out.kq; have HKQA := Lib.hid HSTA.out.kq; have HLA := Lib.hid (hl9.under (box_belowT w9 (.cells #[.int .i64 t.sym, .int .i64 t.prod, .slice t.a t.kids.length t.c] 39))); have HPL := Lib.hid hp9; have HS9 := Lib.hid (show S.heap.size ≤ w8.drew.heap.size from HSTD.out.k.size); have HZ9 := Lib.hid (show w8.drew.heap.size ≤ w9.heap.size from hk9.size); clear hl9 hp9 hk9 hc9)
            | (refine step_append_lies _ ?_ (.tmp 48) (.tmp 55) 34 ?_ B 39 i0 (.agg #[.int .i64 0, .int .i64 0, .slice none 0 0]) 3 40 Try.underlying34 hi0 hz0 hz1 hz2 rfl (by decide) (.slice ra ks.length rc) ks.length (tls ks) ?_ HSTA.out.kd.own ⟨w9.heap.size, 0, none⟩ 1 1 [.int .i64 t.sym, .int .i64 t.prod, .slice t.a t.kids.length t.c] ?_ ?_ (World.news_of_block (cs := #[.int .i64 t.sym, .int .i64 t.prod, .slice t.a t.kids.length t.c]) (t := 39) (fr := (0, 0)) (heap_alloc_new w9 (.cells #[.int .i64 t.sym, .int .i64 t.prod, .slice t.a t.kids.length t.c] 39))) ?_ (by decide) ?_ ?_ ?_ (w9.heap.size + 1) ?_ ?_; (rfl); (rfl); (rfl); (rfl); (rfl); (simp [Value.oneCell']); (unfold maxLen; omega); (omega); (have h1 := HBS.out; have h2 := HS9.out; have h3 := HZ9.out; simp; omega); (simp); intro gg cap w10 hown10 hgrow10 hat10 hlt10; have HAP := Lib.hid (HSTA.out.app HLA.out HS9.out HOW.out HBS.out HBG.out HBG1.out (by rw [tls_app]; exact hown10) hgrow10 (by rcases hat10 with h | h; exact .inl h; exact .inr (by rw [h]; simp))); have HKQ10 := Lib.hid HAP.out.kq; have HKN0 := HKK.out qm B (some ⟨gg, 0, none⟩) cap (ks ++ [t]) w10 HQML.out.1 HQML.out.2 HAP.out.hB HAP.out.cb HAP.out.kd (by simp; omega); simp only [List.append_assoc, List.cons_append, List.nil_append] at HKN0; rw [show (ks ++ [t]).length = ks.length + 1 by simp] at HKN0; have HKN := Lib.hid HKN0; clear HKN0 hown10 hgrow10 hat10)
            | (go_at_call 56; (with_reducible refine HKN.out.mono ?_); rintro e w11 ⟨a2, c2, kt, rfl, hkd2, hpl2, hkr2, hcb2⟩; have HKQ11 := Lib.hid (HAP.out.kids (by rw [show (ks ++ [t]).length = ks.length + 1 by simp]; exact hkr2)); have HE11 := Lib.hid (⟨hkd2, hpl2, hkr2, hcb2⟩ : _ ∧ _ ∧ _ ∧ _); clear hkd2 hpl2 hkr2 hcb2))
          all_goals
            go_wp2
            go_ret
            obtain ⟨h1, h2, h3, h4⟩ := HE11.out
            exact ⟨a2, c2, t :: kt, by (first | rfl | simp), h1, by rw [List.map_cons]; exact HFIN.out _ _ HPL.out h2, HAP.out.k.then (by rw [show (ks ++ [t]).length = ks.length + 1 by simp]; exact h3) HAP.out.own, h4⟩
        · have e2 : ¬ (q : Int) < (nx : Int) * (ny : Int) := by rw [HMI.out]; omega
          obtain ⟨v1, v2⟩ := cut_ge (x := AX.length) (y := AY.length) HQM.out (by rw [HNX.out, HNY.out]; exact hlt)
          rw [HNX.out, HNY.out] at v1
          have hsub : (q : Int) - (nx : Int) * (ny : Int) = ((q - nx * ny : Nat) : Int) := by rw [HMI.out]; omega
          have hw2 : IntKind.i64.wrap ((q : Int) - (nx : Int) * (ny : Int)) = ((q - nx * ny : Nat) : Int) := by rw [hsub]; exact IntWalk.i64_in _ (by omega)
          have HNEW := Lib.hid (show q - nx * ny < (rTail g u p d ⟨a, b, [y0, y1, y2, y3, y4, y5, y6, y7]⟩ (k + 1)).length ∧ (rTail g u p d ⟨a, b, [y0, y1, y2, y3, y4, y5, y6, y7]⟩ (k + 1)).getD (q - nx * ny) [] = (all g u (.row p d ⟨a, b, [y0, y1, y2, y3, y4, y5, y6, y7]⟩)).getD q0 [] by
            obtain ⟨h1, h2⟩ := HQT.out
            rw [HSTEP.out, HOFN.out] at h1 h2
            have hl := len_pairs (β := Tr) AX AY
            rw [List.length_append, hl] at h1
            rw [List.getD_eq_getElem?_getD, List.getElem?_append_right (by rw [hl]; exact v2), hl] at h2
            rw [v1]
            exact ⟨by omega, by rw [List.getD_eq_getElem?_getD]; exact h2⟩)
          clear hlt v1 v2 hsub
          go_wp2
          exact ⟨⟨q - nx * ny, k + 1, rfl, by go_num, by have := HKL.out; omega, by omega, HNEW, HK8, HC8, HQ8⟩, by have := HKL.out; simp [intOf]; omega⟩
      · have h1 := HQT.out.1
        rw [rTail_end g u (by show b - a < k; have := HN0.out; omega)] at h1
        simp at h1
end Go.Proofs.Ytgfkkbpnphbdgaa
