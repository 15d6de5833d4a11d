/- The keys of derive's maps: goals and rows. -/
import Derived.Test.YtgfkkbpnphbdgaaMapK
import Derived.Test.YtgfkkbpnphbdgaaDerA
import Derived.Test.YtgfkkbpnphbdgaaTreeB
import Derived.Deep.Cut
import Derived.Deep.QuietTactic
import Derived.BigQuiet
import Derived.StillTailTactics
import Derived.Deep.RegionHeld3
import GoSem.ClaimStop
import Derived.Laws.StructEq
set_option linter.unusedVariables false
set_option linter.unusedSimpArgs false
namespace Go.Proofs.Ytgfkkbpnphbdgaa
open Go.Maps (Keyed)
open Dr

set_option maxRecDepth 100000 in
theorem rowKeyG : (86 : TypeId) < Try.prog.types.size := of_decide_eq_true (by kernel_rfl)
set_option maxRecDepth 100000 in
theorem wideKeyG : (match Try.prog.underlying 86 with | some (.array _ _) | some (.struct _) => true | _ => false) = true := by rw [Try.underlying86]
set_option maxRecDepth 100000 in
theorem key_goal : Keyed Try.prog 86 := Keyed.of_law (deep_law_laid laidOut0 (m := 5) (by omega) rowKeyG (by kernel_rfl) wideKeyG)
set_option maxRecDepth 100000 in
theorem rowKeyR : (108 : TypeId) < Try.prog.types.size := of_decide_eq_true (by kernel_rfl)
set_option maxRecDepth 100000 in
theorem wideKeyR : (match Try.prog.underlying 108 with | some (.array _ _) | some (.struct _) => true | _ => false) = true := by rw [Try.underlying108]
set_option maxRecDepth 100000 in
theorem key_row : Keyed Try.prog 108 := Keyed.of_law (deep_law_laid laidOut0 (m := 5) (by omega) rowKeyR (by kernel_rfl) wideKeyR)
theorem zeroInt (w : World) : (zeroValue 3).run Try.prog w = .ok (.int .i64 0) w := by kernel_rfl
def bools (l : List Bool) : List Value := l.map Value.bool
theorem bools_inj : ∀ {a b : List Bool}, bools a = bools b → a = b
  | [], [], _ => rfl
  | [], _ :: _, h => by simp [bools] at h
  | _ :: _, [], h => by simp [bools] at h
  | x :: a, y :: b, h => by
    simp only [bools, List.map_cons, List.cons.injEq, Value.bool.injEq] at h
    rw [h.1, bools_inj (a := a) (b := b) h.2]
/-- A goal as a key. -/
def codeG (q : Int × Spn) : Value := .agg (Value.int .i64 q.1 :: .int .i64 q.2.a :: .int .i64 q.2.b :: bools q.2.ab).toArray
def codeR (q : Nat × Nat × Spn) : Value := .agg (Value.int .i64 q.1 :: .int .i64 q.2.1 :: .int .i64 q.2.2.a :: .int .i64 q.2.2.b :: bools q.2.2.ab).toArray
theorem codeG_inj : ∀ a b, codeG a = codeG b → a = b := fun a b h => by
  obtain ⟨a1, a2, a3, a4⟩ := a
  obtain ⟨b1, b2, b3, b4⟩ := b
  unfold codeG at h
  simp only [Value.agg.injEq, Array.mk.injEq, List.cons.injEq, Value.int.injEq, true_and] at h
  obtain ⟨h1, h2, h3, h4⟩ := h
  have := bools_inj h4
  subst h1 this
  obtain rfl : a2 = b2 := by omega
  obtain rfl : a3 = b3 := by omega
  rfl
theorem codeR_inj : ∀ a b, codeR a = codeR b → a = b := fun a b h => by
  obtain ⟨a1, a0, a2, a3, a4⟩ := a
  obtain ⟨b1, b0, b2, b3, b4⟩ := b
  unfold codeR at h
  simp only [Value.agg.injEq, Array.mk.injEq, List.cons.injEq, Value.int.injEq, true_and] at h
  obtain ⟨h1, h0, h2, h3, h4⟩ := h
  have := bools_inj h4
  subst this
  obtain rfl : a1 = b1 := by omega
  obtain rfl : a0 = b0 := by omega
  obtain rfl : a2 = b2 := by omega
  obtain rfl : a3 = b3 := by omega
  rfl
theorem keyTypeG : Try.prog.keyType 86 = true := by kernel_rfl
theorem keyTypeR : Try.prog.keyType 108 = true := by kernel_rfl
theorem cellsG : Try.prog.cellsOf 86 = 11 := by kernel_rfl
theorem cellsR : Try.prog.cellsOf 108 = 12 := by kernel_rfl
theorem cellsS : Try.prog.cellsOf 84 = 10 := by kernel_rfl
theorem cellsA : Try.prog.cellsOf 82 = 8 := by kernel_rfl
theorem cellsB : Try.prog.cellsOf 4 = 1 := by kernel_rfl
theorem eight {l : List Bool} (h : l.length = 8) : ∃ a b c d e f g i, l = [a, b, c, d, e, f, g, i] := by
  match l, h with
  | [a, b, c, d, e, f, g, i], _ => exact ⟨a, b, c, d, e, f, g, i, rfl⟩
theorem types_four : ∃ d, Try.prog.types.size = d + 4 := ⟨Try.prog.types.size - 4, (Nat.sub_add_cancel (Nat.le_trans (show 4 ≤ 86 by decide) (Nat.le_of_lt rowKeyG))).symm⟩
set_option maxHeartbeats 2000000 in
set_option maxRecDepth 10000 in
theorem codeG_key {x : Int} {s : Spn} (h1 : -9223372036854775808 ≤ x) (h2 : x ≤ 9223372036854775807) (hi : s.a ≤ 9223372036854775807) (hj : s.b ≤ 9223372036854775807) (h8 : s.ab.length = 8) : ∃ l, keyOf Try.prog 86 (codeG (x, s)) = some l := by
  obtain ⟨d, hd⟩ := types_four
  have w1 : (Lit.int .i64 x).wf = true := wfI h1 h2
  have w2 : (Lit.int .i64 (s.a : Int)).wf = true := wfI (by omega) (by omega)
  have w3 : (Lit.int .i64 (s.b : Int)).wf = true := wfI (by omega) (by omega)
  obtain ⟨a, b, ab⟩ := s
  obtain ⟨y0, y1, y2, y3, y4, y5, y6, y7, rfl⟩ := eight h8
  have hf : (codeG (x, ⟨a, b, [y0, y1, y2, y3, y4, y5, y6, y7]⟩)).formed Try.prog 86 = true := by simp [codeG, bools, Value.formed, Try.underlying86, cellsG]
  unfold keyOf
  rw [Try.underlying86]
  simp only [keyTypeG, hf, Bool.and_self, if_true]
  rw [hd]
  simp [codeG, bools, Value.cells, Program.keyLits, Try.underlying86, Try.underlying84, Try.underlying82, Try.underlying4, Try.underlying3, cellsG, cellsS, cellsA, cellsB, cells1, w1, w2, w3, List.range_succ]
  rw [if_pos (by decide)]
  exact ⟨_, rfl⟩
set_option maxHeartbeats 2000000 in
set_option maxRecDepth 10000 in
theorem codeR_key {p d0 : Nat} {s : Spn} (hp : p ≤ 9223372036854775807) (hd0 : d0 ≤ 9223372036854775807) (hi : s.a ≤ 9223372036854775807) (hj : s.b ≤ 9223372036854775807) (h8 : s.ab.length = 8) : ∃ l, keyOf Try.prog 108 (codeR (p, d0, s)) = some l := by
  obtain ⟨d, hd⟩ := types_four
  have w0 : (Lit.int .i64 (p : Int)).wf = true := wfI (by omega) (by omega)
  have w1 : (Lit.int .i64 (d0 : Int)).wf = true := wfI (by omega) (by omega)
  have w2 : (Lit.int .i64 (s.a : Int)).wf = true := wfI (by omega) (by omega)
  have w3 : (Lit.int .i64 (s.b : Int)).wf = true := wfI (by omega) (by omega)
  obtain ⟨a, b, ab⟩ := s
  obtain ⟨y0, y1, y2, y3, y4, y5, y6, y7, rfl⟩ := eight h8
  have hf : (codeR (p, d0, ⟨a, b, [y0, y1, y2, y3, y4, y5, y6, y7]⟩)).formed Try.prog 108 = true := by simp [codeR, bools, Value.formed, Try.underlying108, cellsR]
  unfold keyOf
  rw [Try.underlying108]
  simp only [keyTypeR, hf, Bool.and_self, if_true]
  rw [hd]
  simp [codeR, bools, Value.cells, Program.keyLits, Try.underlying108, Try.underlying84, Try.underlying82, Try.underlying4, Try.underlying3, cellsR, cellsS, cellsA, cellsB, cells1, w0, w1, w2, w3, List.range_succ]
  rw [if_pos (by decide)]
  exact ⟨_, rfl⟩
end Go.Proofs.Ytgfkkbpnphbdgaa
namespace Go.Proofs.Ytgfkkbpnphbdgaa
open Go.RowKit
open Doc Dr

theorem bools_at {l : List Bool} {j : Nat} (h : j < l.length) : (bools l)[j]? = some (.bool (l.getD j false)) := by
  unfold bools
  rw [List.getElem?_map, List.getElem?_eq_getElem h, List.getD_eq_getElem?_getD, List.getElem?_eq_getElem h]; rfl
/-- Does one stand above? -/
theorem dhas_any (l : List Bool) (h8 : l.length = 8) (sym : Int) (h0 : -1000000 ≤ sym) (h1 : sym < 108) (w : World) :
    Calls Try.prog 63 #[.agg (bools l).toArray, .int .i64 sym] w fun e w' => e = .returned (.bool (hasA l sym)) ∧ Below w.heap.size w w' := by
  have hb := box_belowT w (.cells (bools l).toArray 82)
  have q := heap_alloc_new w (.cells (bools l).toArray 82)
  have hbl : (bools l).length = 8 := by unfold bools; rw [List.length_map]; exact h8
  by_cases h100 : 100 ≤ sym
  · obtain ⟨i, hi⟩ := Int.eq_ofNat_of_zero_le (show 0 ≤ sym - 100 by omega)
    have hi8 : i < 8 := by omega
    have HR : Hid (l.getD i false = hasA l sym) := Lib.hid (by unfold hasA; rw [decide_eq_true h100, Bool.true_and, hi]; rfl)
    have c0 := (blk_cell (i := i) (u := .bool (l.getD i false)) q (by rw [List.getElem?_toArray]; exact bools_at (by omega))).1
    have l0 := heap_lt q
    have e1 : (i : Int) < 8 := by omega
    have HB := Lib.hid hb
    clear hb q
    generalize l.getD i false = y at c0 HR
    go_enter Try.func63, Try.ntmps63
    go_wp2
    go_ret
    exact ⟨by rw [← HR.out]; rfl, HB.out⟩
  · have HR : Hid (hasA l sym = false) := Lib.hid (by unfold hasA; rw [decide_eq_false h100]; rfl)
    have HB := Lib.hid hb
    clear hb q
    go_enter Try.func63, Try.ntmps63
    go_wp2
    go_ret
    exact ⟨by rw [HR.out]; rfl, HB.out⟩
set_option maxRecDepth 100000 in
/-- How a result in a cell is handed out. -/
theorem cell_out (w : World) (g p : Nat) (ty : TypeId) (v : Value) (fn : Func) (a : Act) (hf : fn.results = #[.cell p ty]) (ha : a.tmps.getD p undef = .pointer (some ⟨g, 0, none⟩)) (hl : (loadVar ty ⟨g, 0, none⟩).run Try.prog w = .ok v w) :
    (results fn a.tmps).run Try.prog w = .ok v w := by
  rw [results_cell1 hf, ha]
  show ((asAddr (.pointer (some ⟨g, 0, none⟩))).run _ _).andThen _ = _
  exact hl
theorem new_two (w : World) (o : Obj) (o2 : Obj) : ((w.alloc o).alloc o2).heap[w.heap.size + 1]? = some o2 := (twin_alloc w o o2).2.2.2
theorem three_new (w : World) (o0 o1 o2 : Obj) : (((w.alloc o0).alloc o1).alloc o2).heap[w.heap.size + 1]? = some o1 ∧ (((w.alloc o0).alloc o1).alloc o2).heap[w.heap.size + 1 + 1]? = some o2 ∧ Below w.heap.size w (((w.alloc o0).alloc o1).alloc o2) := by
  obtain ⟨h1, h2, _, h4⟩ := twin_alloc w o0 o1
  have h5 := box_belowT ((w.alloc o0).alloc o1) o2
  refine ⟨(h5.block _ (by omega)).trans h4, ?_, h1.trans (h5.mono h1.size)⟩
  have := heap_alloc_new ((w.alloc o0).alloc o1) o2
  rw [h2] at this
  exact this
def spanV (s : Spn) : Value := .agg (Value.int .i64 s.a :: .int .i64 s.b :: bools s.ab).toArray
set_option maxRecDepth 100000 in
theorem cells2_out (w : World) (g0 g1 p0 p1 : Nat) (t0 t1 : TypeId) (v0 v1 : Value) (fn : Func) (a : Act) (hf : fn.results = #[.cell p0 t0, .cell p1 t1]) (ha : a.tmps.getD p0 undef = .pointer (some ⟨g0, 0, none⟩)) (hb : a.tmps.getD p1 undef = .pointer (some ⟨g1, 0, none⟩))
    (h0 : (loadVar t0 ⟨g0, 0, none⟩).run Try.prog w = .ok v0 w) (h1 : (loadVar t1 ⟨g1, 0, none⟩).run Try.prog w = .ok v1 w) :
    (results fn a.tmps).run Try.prog w = .ok (.tuple #[v0, v1]) w := by
  simp only [results, hf]
  simp at ha hb
  simp [Sem.run_bind, Result.andThen, ha, hb, h0, h1, asAddr]
end Go.Proofs.Ytgfkkbpnphbdgaa
namespace Go.Proofs.Ytgfkkbpnphbdgaa
open Go.RowKit
open Doc Dr

/-- Two blocks may have turned, and nothing else; nothing has gone. -/
structure KeptD (M1 M2 : Nat) (w w' : World) : Prop where
  os : w'.os = w.os
  tape : w'.tape = w.tape
  output : w'.output = w.output
  size : w.heap.size ≤ w'.heap.size
  block : ∀ k, k < w.heap.size → k ≠ M1 → k ≠ M2 → w'.heap[k]? = w.heap[k]?
theorem KeptD.refl (M1 M2 : Nat) (w : World) : KeptD M1 M2 w w := ⟨rfl, rfl, rfl, Nat.le_refl _, fun _ _ _ _ => rfl⟩
theorem KeptD.trans {M1 M2 : Nat} {a b c : World} (h : KeptD M1 M2 a b) (k : KeptD M1 M2 b c) : KeptD M1 M2 a c :=
  ⟨k.os.trans h.os, k.tape.trans h.tape, k.output.trans h.output, Nat.le_trans h.size k.size, fun i hi h1 h2 => (k.block i (Nat.lt_of_lt_of_le hi h.size) h1 h2).trans (h.block i hi h1 h2)⟩
theorem KeptD.of {M1 M2 : Nat} {w w' : World} (h : Below w.heap.size w w') : KeptD M1 M2 w w' := ⟨h.os, h.tape, h.output, h.size, fun k hk _ _ => h.block k hk⟩
theorem KeptD.grown1 {M1 M2 : Nat} {w w' : World} (h : w.grownBy w' (some M1)) : KeptD M1 M2 w w' := ⟨h.os, h.tape, h.output, h.size, fun k hk h1 _ => h.block k hk (fun e => h1 (by cases e; rfl))⟩
theorem KeptD.grown2 {M1 M2 : Nat} {w w' : World} (h : w.grownBy w' (some M2)) : KeptD M1 M2 w w' := ⟨h.os, h.tape, h.output, h.size, fun k hk _ h2 => h.block k hk (fun e => h2 (by cases e; rfl))⟩
theorem KeptD.drewN {M1 M2 : Nat} {a w : World} (h : KeptD M1 M2 a w) (n : Nat) : KeptD M1 M2 a (w.drewN n) := h.trans (KeptD.of ⟨rfl, rfl, rfl, Nat.le_refl _, fun _ _ => rfl⟩)
theorem KeptD.alloc {M1 M2 : Nat} {a w : World} (h : KeptD M1 M2 a w) (o : Obj) : KeptD M1 M2 a (w.alloc o) := h.trans (KeptD.of (box_belowT w o))
theorem KeptD.below {M1 M2 : Nat} {a w w' : World} (h : KeptD M1 M2 a w) (k : Below w.heap.size w w') : KeptD M1 M2 a w' := h.trans (KeptD.of k)
theorem KeptD.out {M1 M2 B : Nat} {w w' : World} (h : KeptD M1 M2 w w') (h1 : B ≤ M1) (h2 : B ≤ M2) (hB : B ≤ w.heap.size) : Below B w w' := ⟨h.os, h.tape, h.output, h.size, fun k hk => h.block k (by omega) (by omega) (by omega)⟩

/-- What is asked of a grammar, a word, a bound. -/
structure OkD (g : List (Int × List Int)) (u : List Int) (m : Nat) : Prop where
  six : Six g
  len : g.length ≤ 1000
  syms : ∀ p ∈ g, ∀ s ∈ p.2, -1000000 ≤ s ∧ s < 108
  ul : u.length ≤ 12
  ml : m ≤ 200
variable {g : List (Int × List Int)} {u : List Int} {m C M1 M2 pc wc : Nat} {pa wa : Option Addr} {ls : List Lay}
def numG (g : List (Int × List Int)) (u : List Int) (m : Nat) (q : Int × Spn) : Nat := num m g u (.goal q.1 q.2)
def numR (g : List (Int × List Int)) (u : List Int) (m : Nat) (q : Nat × Nat × Spn) : Nat := num m g u (.row q.1 q.2.1 q.2.2)
def MemG (g : List (Int × List Int)) (u : List Int) (m M1 : Nat) (S : World) : Prop := ∃ f, MapM S Try.prog 86 codeG M1 f ∧ ∀ q v, f q = some v → v = .int .i64 (numG g u m q)
def MemR (g : List (Int × List Int)) (u : List Int) (m M2 : Nat) (S : World) : Prop := ∃ f, MapM S Try.prog 108 codeR M2 f ∧ ∀ q v, f q = some v → v = .int .i64 (numR g u m q)
theorem MemG.at {S S' : World} (h : MemG g u m M1 S) (e : S'.heap[M1]? = S.heap[M1]?) : MemG g u m M1 S' := by obtain ⟨f, h1, h2⟩ := h; exact ⟨f, h1.at e, h2⟩
theorem MemR.at {S S' : World} (h : MemR g u m M2 S) (e : S'.heap[M2]? = S.heap[M2]?) : MemR g u m M2 S' := by obtain ⟨f, h1, h2⟩ := h; exact ⟨f, h1.at e, h2⟩
theorem MemG.map {S : World} (h : MemG g u m M1 S) : ∃ es clock, S.heap[M1]? = some (.map es clock) := by obtain ⟨f, ⟨es, cl, h1, _⟩, _⟩ := h; exact ⟨es, cl, h1⟩
theorem MemR.map {S : World} (h : MemR g u m M2 S) : ∃ es clock, S.heap[M2]? = some (.map es clock) := by obtain ⟨f, ⟨es, cl, h1, _⟩, _⟩ := h; exact ⟨es, cl, h1⟩
/-- A counter as it lies. -/
structure Ctr (g : List (Int × List Int)) (u : List Int) (m C M1 M2 : Nat) (pa : Option Addr) (pc : Nat) (wa : Option Addr) (wc : Nat) (ls : List Lay) (S : World) : Prop where
  blk : S.heap[C]? = some (.cells #[.slice pa ls.length pc, .slice wa u.length wc, .int .i64 m, .map (some M1), .map (some M2)] 104)
  eq : ls.map Lay.plain = g
  prods : Cells S pa (lays ls)
  rows : ∀ p ∈ ls, Cells S p.addr (nums p.right)
  word : Cells S wa (nums u)
  mg : MemG g u m M1 S
  mr : MemR g u m M2 S
  ne : M1 ≠ M2
theorem Ctr.keeps {S S' : World} (h : Ctr g u m C M1 M2 pa pc wa wc ls S) (hk : KeptD M1 M2 S S') {k : Nat} {cs : Array Value} {t : TypeId} {fr : Nat × Nat} (hc : S.heap[k]? = some (.cells cs t fr)) : S'.heap[k]? = some (.cells cs t fr) := by
  obtain ⟨_, _, h1⟩ := h.mg.map
  obtain ⟨_, _, h2⟩ := h.mr.map
  refine (hk.block k (heap_lt hc) ?_ ?_).trans hc
  · rintro rfl; rw [h1] at hc; cases hc
  · rintro rfl; rw [h2] at hc; cases hc
theorem cell_is {S : World} {a : Addr} {v : Value} (h : S.cell? a = some v) : ∃ cs t fr, S.heap[a.block]? = some (.cells cs t fr) := by
  unfold World.cell? at h
  split at h
  · rename_i h1; exact ⟨_, _, _, h1⟩
  all_goals simp_all
theorem Ctr.cells {S S' : World} (h : Ctr g u m C M1 M2 pa pc wa wc ls S) (hk : KeptD M1 M2 S S') {a : Option Addr} {xs : List Value} (hc : Cells S a xs) : Cells S' a xs := by
  rcases hc with hc | ⟨b, off, ha, hlt, hc⟩
  · exact .inl hc
  · refine .inr ⟨b, off, ha, Nat.lt_of_lt_of_le hlt hk.size, fun j v hj => ?_⟩
    have hv := hc j v hj
    obtain ⟨cs, t, fr, hb⟩ := cell_is hv
    exact (World.cell?_of_block ((h.keeps hk hb).trans hb.symm)).trans hv
theorem Ctr.to {S S' : World} (h : Ctr g u m C M1 M2 pa pc wa wc ls S) (hk : KeptD M1 M2 S S') (h1 : MemG g u m M1 S') (h2 : MemR g u m M2 S') : Ctr g u m C M1 M2 pa pc wa wc ls S' :=
  ⟨h.keeps hk h.blk, h.eq, h.cells hk h.prods, fun p hp => h.cells hk (h.rows p hp), h.cells hk h.word, h1, h2, h.ne⟩
theorem Ctr.below {S S' : World} (h : Ctr g u m C M1 M2 pa pc wa wc ls S) (hb : Below S.heap.size S S') : Ctr g u m C M1 M2 pa pc wa wc ls S' := by
  obtain ⟨_, _, h1⟩ := h.mg.map
  obtain ⟨_, _, h2⟩ := h.mr.map
  exact h.to (KeptD.of hb) (h.mg.at (hb.block _ (heap_lt h1))) (h.mr.at (hb.block _ (heap_lt h2)))
theorem Ctr.drewN {S : World} (h : Ctr g u m C M1 M2 pa pc wa wc ls S) (n : Nat) : Ctr g u m C M1 M2 pa pc wa wc ls (S.drewN n) := h.below ⟨rfl, rfl, rfl, Nat.le_refl _, fun _ _ => rfl⟩

/-- The span of a job, within the word. -/
structure InD (u : List Int) (s : Spn) : Prop where
  ab : s.ab.length = 8
  le : s.a ≤ s.b
  hi : s.b ≤ u.length
theorem InD.fst {s : Spn} (h : InD u s) {n : Nat} (hn : n ≤ s.b - s.a) : InD u (fst_ s n) := ⟨fit_fst h.ab, by show s.a ≤ s.a + n; omega, by show s.a + n ≤ u.length; have := h.le; have := h.hi; omega⟩
theorem InD.snd {s : Spn} (h : InD u s) {n : Nat} (hn : n ≤ s.b - s.a) : InD u (snd_ s n) := ⟨fit_snd h.ab, by show s.a + n ≤ s.b; have := h.le; omega, h.hi⟩
theorem InD.with {s : Spn} (h : InD u s) (x : Int) : InD u ⟨s.a, s.b, withA s.ab x⟩ := ⟨by show (withA s.ab x).length = 8; unfold withA; rw [List.length_set]; exact h.ab, h.le, h.hi⟩

def boxA (l : List Bool) : Obj := .cells (bools l).toArray 82
/-- One more stands above: the world behind it, just so. -/
theorem dwith_at (l : List Bool) (h8 : l.length = 8) (sym : Int) (h0 : 100 ≤ sym) (h1 : sym < 108) (w : World) :
    Calls Try.prog 64 #[.agg (bools l).toArray, .int .i64 sym] w fun e w' => e = .returned (.agg (bools (withA l sym)).toArray) ∧ w' = (w.alloc (boxA (withA l sym))).alloc (boxA (withA l sym)) := by
  obtain ⟨i, hi⟩ := Int.eq_ofNat_of_zero_le (show 0 ≤ sym - 100 by omega)
  have hi8 : i < 8 := by omega
  obtain ⟨y0, y1, y2, y3, y4, y5, y6, y7, rfl⟩ := eight h8
  have HR : Hid ([y0, y1, y2, y3, y4, y5, y6, y7].set i true = withA [y0, y1, y2, y3, y4, y5, y6, y7] sym) := Lib.hid (by unfold withA; rw [hi]; rfl)
  unfold boxA bools
  simp only [List.map_cons, List.map_nil]
  clear h0 h1 h8
  rcases (show i = 0 ∨ i = 1 ∨ i = 2 ∨ i = 3 ∨ i = 4 ∨ i = 5 ∨ i = 6 ∨ i = 7 by omega) with rfl | rfl | rfl | rfl | rfl | rfl | rfl | rfl
  all_goals
    clear hi8
    simp only [List.set_cons_zero, List.set_cons_succ] at HR
    go_enter Try.func64, Try.ntmps64
    go_wp2
    refine bodyPost_ret (cell_out _ (w.heap.size + 1) 4 82 _ _ _ rfl rfl (run_loadVar_row _ (w.heap.size + 1) 82 82 _ (0, 0) _ (new_two w _ _) Try.underlying82 rfl (by kernel_rfl))) rfl ⟨?_, ?_⟩
    · rw [← HR.out]; rfl
    · rw [← HR.out]; rfl
end Go.Proofs.Ytgfkkbpnphbdgaa
namespace Go.Proofs.Ytgfkkbpnphbdgaa
open Go.RowKit
open Doc Dr

theorem five_new (w : World) (o0 o1 o2 o3 o4 : Obj) : (((((w.alloc o0).alloc o1).alloc o2).alloc o3).alloc o4).heap[w.heap.size + 1]? = some o1 ∧ Below w.heap.size w (((((w.alloc o0).alloc o1).alloc o2).alloc o3).alloc o4) := by
  obtain ⟨h1, h2, h3⟩ := three_new w o0 o1 o2
  have h4 : (((w.alloc o0).alloc o1).alloc o2).heap.size = w.heap.size + 3 := by simp
  have hb := (box_belowT (((w.alloc o0).alloc o1).alloc o2) o3).trans ((box_belowT ((((w.alloc o0).alloc o1).alloc o2).alloc o3) o4).mono (by simp))
  exact ⟨(hb.block _ (by omega)).trans h1, h3.trans (hb.mono (by omega))⟩
theorem withA_len {l : List Bool} (h : l.length = 8) (x : Int) : (withA l x).length = 8 := by unfold withA; rw [List.length_set]; exact h
set_option maxRecDepth 100000 in
set_option maxHeartbeats 4000000 in
/-- What the kids must be. -/
theorem dunder_any (x : Int) (s : Spn) (p : Nat) (h8 : s.ab.length = 8) (h0 : 100 ≤ x) (h1 : x < 108) (w : World) :
    Calls Try.prog 54 #[codeG (x, s), .int .i64 p] w fun e w' => e = .returned (codeR (p, 0, ⟨s.a, s.b, withA s.ab x⟩)) ∧ Below w.heap.size w w' := by
  have HW := fun W => dwith_at s.ab h8 x h0 h1 W
  obtain ⟨z0, z1, z2, z3, z4, z5, z6, z7, hz⟩ := eight (withA_len h8 x)
  rw [hz] at HW
  rw [hz]
  obtain ⟨a, b, ab⟩ := s
  obtain ⟨y0, y1, y2, y3, y4, y5, y6, y7, rfl⟩ := eight h8
  simp only [boxA, bools, List.map_cons, List.map_nil] at HW
  unfold codeG codeR bools
  simp only [List.map_cons, List.map_nil]
  replace HW := Lib.hid HW
  clear hz h8
  go_enter Try.func54, Try.ntmps54
  go_wp2_with (go_at_call 64; (with_reducible refine (HW.out _).mono ?_); rintro e w' ⟨rfl, rfl⟩)
  refine bodyPost_ret (cell_out _ (w.heap.size + 1) 4 108 _ _ _ rfl rfl (run_loadVar_row _ (w.heap.size + 1) 108 108 _ (0, 0) _ (five_new w _ _ _ _ _).1 Try.underlying108 rfl (by kernel_rfl))) rfl ⟨rfl, (five_new w _ _ _ _ _).2⟩

variable {g : List (Int × List Int)} {u : List Int} {m C M1 M2 pc wc : Nat} {pa wa : Option Addr} {ls : List Lay}
theorem below_drews2 {B : Nat} {a w : World} (h : Below B a w) (n : Nat) : Below B a (w.drewN n) := ⟨h.os, h.tape, h.output, h.size, h.block⟩
set_option maxRecDepth 100000 in
set_option maxHeartbeats 4000000 in
theorem disLeaf_any {S : World} (hc : Ctr g u m C M1 M2 pa pc wa wc ls S) (hu : u.length ≤ 12) (x : Int) (s : Spn) (hs : InD u s) :
    Calls Try.prog 53 #[.pointer (some ⟨C, 0, none⟩), codeG (x, s)] S fun e w' => e = .returned (.bool (decide (s.b = s.a + 1 ∧ u[s.a]? = some x))) ∧ Below S.heap.size S w' := by
  have hb := box_belowT S (.cells (Value.int .i64 x :: .int .i64 s.a :: .int .i64 s.b :: bools s.ab).toArray 86)
  have q0 := heap_alloc_new S (.cells (Value.int .i64 x :: .int .i64 s.a :: .int .i64 s.b :: bools s.ab).toArray 86)
  have hc1 := hc.below hb
  have r0 := (blk_cell (i := 0) (u := .int .i64 x) q0 rfl).1
  have r1 := (blk_cell (i := 1) (u := .int .i64 s.a) q0 rfl).1
  have r2 := (blk_cell (i := 2) (u := .int .i64 s.b) q0 rfl).1
  have y1 := (blk_cell (i := 1) (u := .slice wa u.length wc) hc1.blk rfl).1
  have l0 := heap_lt q0
  have l1 := heap_lt hc1.blk
  have h1 := hs.le
  have h2 := hs.hi
  have HB := Lib.hid hb
  have key : ∀ b : Bool, (b = true ↔ (s.b = s.a + 1 ∧ u[s.a]? = some x)) → b = decide (s.b = s.a + 1 ∧ u[s.a]? = some x) := fun b h => by
    cases b
    · symm; rw [decide_eq_false_iff_not]; intro h'; exact absurd (h.2 h') (by simp)
    · symm; rw [decide_eq_true_eq]; exact h.1 rfl
  have HK := Lib.hid key
  clear key hb q0
  unfold codeG
  show Calls _ _ #[_, .agg (Value.int .i64 x :: .int .i64 s.a :: .int .i64 s.b :: bools s.ab).toArray] _ _
  by_cases e1 : s.b = s.a + 1
  · obtain ⟨y, hy⟩ : ∃ y, u[s.a]? = some y := ⟨_, List.getElem?_eq_getElem (by omega)⟩
    obtain ⟨b, o, rfl, hbl, hcc⟩ := hc1.word.get (by unfold nums; intro e; rw [List.map_eq_nil_iff] at e; rw [e] at hy; simp at hy)
    have u0 := hcc s.a _ (nums_at hy)
    have e2 : (s.a : Int) < u.length := by omega
    have e3 : ((s.b : Int) == (s.a : Int) + 1) = true := beq_iff_eq.2 (by omega)
    have HY := Lib.hid hy
    have HE := Lib.hid e1
    clear hc hc1 hcc hy e1 hs h1 h2
    by_cases hyx : y = x
    · have e4 : (y == x) = true := beq_iff_eq.2 hyx
      have HYX := Lib.hid hyx
      clear hyx
      go_enter Try.func53, Try.ntmps53
      go_upto_region 1 with fail
      generalize S.alloc (.cells (Value.int .i64 x :: .int .i64 s.a :: .int .i64 s.b :: bools s.ab).toArray 86) = S1 at *
      go_quiet (fail)
      go_wp2
      go_ret
      exact ⟨congrArg (fun b => Ending.returned (.bool b)) (HK.out true (by simp only [true_iff]; exact ⟨HE.out, by rw [HY.out, HYX.out]⟩)), below_drews2 HB.out _⟩
    · have e4 : (y == x) = false := beq_eq_false_iff_ne.2 hyx
      have HYX := Lib.hid hyx
      clear hyx
      go_enter Try.func53, Try.ntmps53
      go_upto_region 1 with fail
      generalize S.alloc (.cells (Value.int .i64 x :: .int .i64 s.a :: .int .i64 s.b :: bools s.ab).toArray 86) = S1 at *
      go_quiet (fail)
      go_wp2
      go_ret
      exact ⟨congrArg (fun b => Ending.returned (.bool b)) (HK.out false (by simp only [Bool.false_eq_true, false_iff]; rintro ⟨_, h⟩; rw [HY.out] at h; exact HYX.out (Option.some.inj h))), below_drews2 HB.out _⟩
  · have e3 : ((s.b : Int) == (s.a : Int) + 1) = false := beq_eq_false_iff_ne.2 (by omega)
    have e5 : IntKind.i64.wrap ((s.a : Int) + 1) = (s.a : Int) + 1 := IntWalk.i64_in _ (by omega)
    have HE := Lib.hid e1
    clear hc hc1 e1 hs h1 h2
    go_enter Try.func53, Try.ntmps53
    go_upto_region 1 with fail
    generalize S.alloc (.cells (Value.int .i64 x :: .int .i64 s.a :: .int .i64 s.b :: bools s.ab).toArray 86) = S1 at *
    go_quiet (fail)
    go_wp2
    go_ret
    exact ⟨congrArg (fun b => Ending.returned (.bool b)) (HK.out false (by simp only [Bool.false_eq_true, false_iff]; rintro ⟨h, _⟩; exact HE.out h)), below_drews2 HB.out _⟩
theorem lay_of {S : World} (hc : Ctr g u m C M1 M2 pa pc wa wc ls S) {p : Nat} (hp : p < g.length) : ∃ q, ls[p]? = some q ∧ g.getD p (0, []) = (q.left, q.right) ∧ q ∈ ls := by
  have hl : ls.length = g.length := by rw [← hc.eq, List.length_map]
  obtain ⟨q, h⟩ : ∃ q, ls[p]? = some q := ⟨_, List.getElem?_eq_getElem (by omega)⟩
  refine ⟨q, h, ?_, List.mem_of_getElem? h⟩
  rw [← hc.eq, List.getD_eq_getElem?_getD, List.getElem?_map, h]; rfl
set_option maxRecDepth 100000 in
set_option maxHeartbeats 4000000 in
theorem disDone_any {S : World} (hc : Ctr g u m C M1 M2 pa pc wa wc ls S) (hg : g.length ≤ 1000) (p d : Nat) (s : Spn) (hp : p < g.length) (hd : d ≤ (g.getD p (0, [])).2.length) (h6 : (g.getD p (0, [])).2.length ≤ 6) :
    Calls Try.prog 66 #[.pointer (some ⟨C, 0, none⟩), codeR (p, d, s)] S fun e w' => e = .returned (.bool (decide ((g.getD p (0, [])).2.length ≤ d))) ∧ Below S.heap.size S w' := by
  have hb := box_belowT S (.cells (Value.int .i64 p :: .int .i64 d :: .int .i64 s.a :: .int .i64 s.b :: bools s.ab).toArray 108)
  have q0 := heap_alloc_new S (.cells (Value.int .i64 p :: .int .i64 d :: .int .i64 s.a :: .int .i64 s.b :: bools s.ab).toArray 108)
  have hc1 := hc.below hb
  have hll : ls.length = g.length := by rw [← hc.eq, List.length_map]
  have r0 := (blk_cell (i := 0) (u := .int .i64 p) q0 rfl).1
  have r1 := (blk_cell (i := 1) (u := .int .i64 d) q0 rfl).1
  have y0 := (blk_cell (i := 0) (u := .slice pa ls.length pc) hc1.blk rfl).1
  have l0 := heap_lt q0
  have l1 := heap_lt hc1.blk
  obtain ⟨q, hq, hqe, hqm⟩ := lay_of hc1 hp
  rw [hqe] at hd h6
  rw [hqe]
  simp only at hd h6
  obtain ⟨b, o, rfl, hbl, hcc⟩ := hc1.prods.get (by intro e; have := (lays_at ls p _ hq).1; rw [e] at this; simp at this)
  have x1 := hcc _ _ (lays_at ls p _ hq).2
  rw [← Nat.add_assoc] at x1
  have e2 : (p : Int) < ls.length := by omega
  obtain ⟨pl, pr, pra, prc⟩ := q
  simp only at x1 hd h6
  have HB := Lib.hid hb
  clear hc hc1 hcc hqe hqm hq hb q0 hll hg hp
  unfold codeR
  show Calls _ _ #[_, .agg (Value.int .i64 p :: .int .i64 d :: .int .i64 s.a :: .int .i64 s.b :: bools s.ab).toArray] _ _
  simp only
  by_cases e1 : pr.length ≤ d
  · have e3 : ((d : Int) == (pr.length : Int)) = true := beq_iff_eq.2 (by omega)
    have HE := Lib.hid (decide_eq_true e1)
    clear e1 hd h6
    go_enter Try.func66, Try.ntmps66
    go_upto_region 1 with fail
    generalize S.alloc (.cells (Value.int .i64 p :: .int .i64 d :: .int .i64 s.a :: .int .i64 s.b :: bools s.ab).toArray 108) = S1 at *
    go_quiet (fail)
    go_wp2
    go_ret
    exact ⟨congrArg (fun b => Ending.returned (.bool b)) HE.out.symm, below_drews2 HB.out _⟩
  · have e3 : ((d : Int) == (pr.length : Int)) = false := beq_eq_false_iff_ne.2 (by omega)
    have HE := Lib.hid (decide_eq_false e1)
    clear e1 hd h6
    go_enter Try.func66, Try.ntmps66
    go_upto_region 1 with fail
    generalize S.alloc (.cells (Value.int .i64 p :: .int .i64 d :: .int .i64 s.a :: .int .i64 s.b :: bools s.ab).toArray 108) = S1 at *
    go_quiet (fail)
    go_wp2
    go_ret
    exact ⟨congrArg (fun b => Ending.returned (.bool b)) HE.out.symm, below_drews2 HB.out _⟩
end Go.Proofs.Ytgfkkbpnphbdgaa
namespace Go.Proofs.Ytgfkkbpnphbdgaa
open Go.RowKit
open Doc Dr

def boxSp (s : Spn) : Obj := .cells (Value.int .i64 s.a :: .int .i64 s.b :: bools s.ab).toArray 84
set_option maxRecDepth 100000 in
set_option maxHeartbeats 4000000 in
/-- A span is cut in two: the world behind it, just so. -/
theorem dcut_at (s : Spn) (n : Nat) (h8 : s.ab.length = 8) (hn : s.a + n ≤ s.b) (hb : s.b ≤ 1000) (w : World) :
    Calls Try.prog 74 #[spanV s, .int .i64 n] w fun e w' => e = .returned (.tuple #[spanV (fst_ s n), spanV (snd_ s n)]) ∧ w' = (((w.alloc (boxSp s)).alloc (boxSp (fst_ s n))).alloc (boxSp (snd_ s n))).drew.drew := by
  obtain ⟨a, b, ab⟩ := s
  obtain ⟨y0, y1, y2, y3, y4, y5, y6, y7, rfl⟩ := eight h8
  simp only at hn hb
  have e0 : (a : Int) + (n : Int) ≤ 1000 := by omega
  have e00 : (0 : Int) ≤ (a : Int) + (n : Int) := by omega
  by_cases h1 : a + n = b
  · by_cases h2 : n = 0
    · have e1 : ((a : Int) + (n : Int) == (b : Int)) = true := beq_iff_eq.2 (by omega)
      have e2 : ((a : Int) + (n : Int) == (a : Int)) = true := beq_iff_eq.2 (by omega)
      have H1 : Hid (fst_ ⟨a, b, [y0, y1, y2, y3, y4, y5, y6, y7]⟩ n = ⟨a, a + n, [y0, y1, y2, y3, y4, y5, y6, y7]⟩) := Lib.hid (by unfold fst_; simp only; rw [if_pos h1])
      have H2 : Hid (snd_ ⟨a, b, [y0, y1, y2, y3, y4, y5, y6, y7]⟩ n = ⟨a + n, b, [y0, y1, y2, y3, y4, y5, y6, y7]⟩) := Lib.hid (by unfold snd_; simp only; rw [if_pos h2])
      rw [H1.out, H2.out]
      unfold boxSp
      clear H1 H2 h1 h2 h8
      unfold spanV bools
      try unfold none8
      try simp only [List.replicate]
      simp only [List.map_cons, List.map_nil]
      go_enter Try.func74, Try.ntmps74
      go_wp2
      go_region
      all_goals
        go_wp2
        go_region
        all_goals
          go_wp2
          refine bodyPost_ret (cells2_out _ (w.heap.size + 1) (w.heap.size + 1 + 1) 4 5 84 84 _ _ _ _ rfl rfl rfl
            (run_loadVar_row _ (w.heap.size + 1) 84 84 _ (0, 0) _ (three_new w _ _ _).1 Try.underlying84 rfl (by kernel_rfl))
            (run_loadVar_row _ (w.heap.size + 1 + 1) 84 84 _ (0, 0) _ (three_new w _ _ _).2.1 Try.underlying84 rfl (by kernel_rfl))) rfl ⟨?_, ?_⟩
          · rfl
          · rfl
    · have e1 : ((a : Int) + (n : Int) == (b : Int)) = true := beq_iff_eq.2 (by omega)
      have e2 : ((a : Int) + (n : Int) == (a : Int)) = false := beq_eq_false_iff_ne.2 (by omega)
      have H1 : Hid (fst_ ⟨a, b, [y0, y1, y2, y3, y4, y5, y6, y7]⟩ n = ⟨a, a + n, [y0, y1, y2, y3, y4, y5, y6, y7]⟩) := Lib.hid (by unfold fst_; simp only; rw [if_pos h1])
      have H2 : Hid (snd_ ⟨a, b, [y0, y1, y2, y3, y4, y5, y6, y7]⟩ n = ⟨a + n, b, none8⟩) := Lib.hid (by unfold snd_; simp only; rw [if_neg h2])
      rw [H1.out, H2.out]
      unfold boxSp
      clear H1 H2 h1 h2 h8
      unfold spanV bools
      try unfold none8
      try simp only [List.replicate]
      simp only [List.map_cons, List.map_nil]
      go_enter Try.func74, Try.ntmps74
      go_wp2
      go_region
      all_goals
        go_wp2
        go_region
        all_goals
          go_wp2
          refine bodyPost_ret (cells2_out _ (w.heap.size + 1) (w.heap.size + 1 + 1) 4 5 84 84 _ _ _ _ rfl rfl rfl
            (run_loadVar_row _ (w.heap.size + 1) 84 84 _ (0, 0) _ (three_new w _ _ _).1 Try.underlying84 rfl (by kernel_rfl))
            (run_loadVar_row _ (w.heap.size + 1 + 1) 84 84 _ (0, 0) _ (three_new w _ _ _).2.1 Try.underlying84 rfl (by kernel_rfl))) rfl ⟨?_, ?_⟩
          · rfl
          · rfl
  · by_cases h2 : n = 0
    · have e1 : ((a : Int) + (n : Int) == (b : Int)) = false := beq_eq_false_iff_ne.2 (by omega)
      have e2 : ((a : Int) + (n : Int) == (a : Int)) = true := beq_iff_eq.2 (by omega)
      have H1 : Hid (fst_ ⟨a, b, [y0, y1, y2, y3, y4, y5, y6, y7]⟩ n = ⟨a, a + n, none8⟩) := Lib.hid (by unfold fst_; simp only; rw [if_neg h1])
      have H2 : Hid (snd_ ⟨a, b, [y0, y1, y2, y3, y4, y5, y6, y7]⟩ n = ⟨a + n, b, [y0, y1, y2, y3, y4, y5, y6, y7]⟩) := Lib.hid (by unfold snd_; simp only; rw [if_pos h2])
      rw [H1.out, H2.out]
      unfold boxSp
      clear H1 H2 h1 h2 h8
      unfold spanV bools
      try unfold none8
      try simp only [List.replicate]
      simp only [List.map_cons, List.map_nil]
      go_enter Try.func74, Try.ntmps74
      go_wp2
      go_region
      all_goals
        go_wp2
        go_region
        all_goals
          go_wp2
          refine bodyPost_ret (cells2_out _ (w.heap.size + 1) (w.heap.size + 1 + 1) 4 5 84 84 _ _ _ _ rfl rfl rfl
            (run_loadVar_row _ (w.heap.size + 1) 84 84 _ (0, 0) _ (three_new w _ _ _).1 Try.underlying84 rfl (by kernel_rfl))
            (run_loadVar_row _ (w.heap.size + 1 + 1) 84 84 _ (0, 0) _ (three_new w _ _ _).2.1 Try.underlying84 rfl (by kernel_rfl))) rfl ⟨?_, ?_⟩
          · rfl
          · rfl
    · have e1 : ((a : Int) + (n : Int) == (b : Int)) = false := beq_eq_false_iff_ne.2 (by omega)
      have e2 : ((a : Int) + (n : Int) == (a : Int)) = false := beq_eq_false_iff_ne.2 (by omega)
      have H1 : Hid (fst_ ⟨a, b, [y0, y1, y2, y3, y4, y5, y6, y7]⟩ n = ⟨a, a + n, none8⟩) := Lib.hid (by unfold fst_; simp only; rw [if_neg h1])
      have H2 : Hid (snd_ ⟨a, b, [y0, y1, y2, y3, y4, y5, y6, y7]⟩ n = ⟨a + n, b, none8⟩) := Lib.hid (by unfold snd_; simp only; rw [if_neg h2])
      rw [H1.out, H2.out]
      unfold boxSp
      clear H1 H2 h1 h2 h8
      unfold spanV bools
      try unfold none8
      try simp only [List.replicate]
      simp only [List.map_cons, List.map_nil]
      go_enter Try.func74, Try.ntmps74
      go_wp2
      go_region
      all_goals
        go_wp2
        go_region
        all_goals
          go_wp2
          refine bodyPost_ret (cells2_out _ (w.heap.size + 1) (w.heap.size + 1 + 1) 4 5 84 84 _ _ _ _ rfl rfl rfl
            (run_loadVar_row _ (w.heap.size + 1) 84 84 _ (0, 0) _ (three_new w _ _ _).1 Try.underlying84 rfl (by kernel_rfl))
            (run_loadVar_row _ (w.heap.size + 1 + 1) 84 84 _ (0, 0) _ (three_new w _ _ _).2.1 Try.underlying84 rfl (by kernel_rfl))) rfl ⟨?_, ?_⟩
          · rfl
          · rfl
end Go.Proofs.Ytgfkkbpnphbdgaa
namespace Go.Proofs.Ytgfkkbpnphbdgaa
open Go.RowKit
open Doc Dr

variable {g : List (Int × List Int)} {u : List Int} {m C M1 M2 pc wc : Nat} {pa wa : Option Addr} {ls : List Lay}
theorem more_new (w : World) (o0 o1 o2 : Obj) {W : World} (hb : Below (((w.alloc o0).alloc o1).alloc o2).heap.size (((w.alloc o0).alloc o1).alloc o2) W) : W.heap[w.heap.size + 1]? = some o1 ∧ W.heap[w.heap.size + 1 + 1]? = some o2 ∧ Below w.heap.size w W := by
  obtain ⟨h1, h2, h3⟩ := three_new w o0 o1 o2
  have h4 : (((w.alloc o0).alloc o1).alloc o2).heap.size = w.heap.size + 3 := by simp
  exact ⟨(hb.block _ (by omega)).trans h1, (hb.block _ (by omega)).trans h2, h3.trans (hb.mono (by omega))⟩
theorem eight_new (w : World) (o0 o1 o2 o3 o4 o5 o6 o7 : Obj) : ((((((((w.alloc o0).alloc o1).alloc o2).alloc o3).alloc o4).alloc o5).alloc o6).alloc o7).drew.drew.drew.heap[w.heap.size + 1]? = some o1 ∧ ((((((((w.alloc o0).alloc o1).alloc o2).alloc o3).alloc o4).alloc o5).alloc o6).alloc o7).drew.drew.drew.heap[w.heap.size + 1 + 1]? = some o2 ∧ Below w.heap.size w ((((((((w.alloc o0).alloc o1).alloc o2).alloc o3).alloc o4).alloc o5).alloc o6).alloc o7).drew.drew.drew :=
  more_new w o0 o1 o2 (W := ((((((((w.alloc o0).alloc o1).alloc o2).alloc o3).alloc o4).alloc o5).alloc o6).alloc o7).drew.drew.drew) ((((((Below.refl _ _).alloc (Nat.le_refl _) o3).alloc (by simp) o4).alloc (by simp) o5).alloc (by simp) o6).alloc (by simp) o7).drew.drew.drew
set_option maxRecDepth 100000 in
set_option maxHeartbeats 8000000 in
theorem dccut_any {S : World} (hc : Ctr g u m C M1 M2 pa pc wa wc ls S) (ok : OkD g u m) (p d n : Nat) (s : Spn) (hp : p < g.length) (hd : d < (g.getD p (0, [])).2.length) (hs : InD u s) (hn : n ≤ s.b - s.a) :
    Calls Try.prog 67 #[.pointer (some ⟨C, 0, none⟩), codeR (p, d, s), .int .i64 n] S fun e w' => e = .returned (.tuple #[codeG ((g.getD p (0, [])).2.getD d 0, fst_ s n), codeR (p, d + 1, snd_ s n)]) ∧ Below S.heap.size S w' := by
  have hle := hs.le
  have hhi := hs.hi
  have hul := ok.ul
  have HCU := Lib.hid fun W => dcut_at s n hs.ab (by omega) (by omega) W
  obtain ⟨f0, f1, f2, f3, f4, f5, f6, f7, hf⟩ := eight (hs.fst hn).ab
  obtain ⟨z0, z1, z2, z3, z4, z5, z6, z7, hz⟩ := eight (hs.snd hn).ab
  have hfe : fst_ s n = ⟨s.a, s.a + n, [f0, f1, f2, f3, f4, f5, f6, f7]⟩ := by rw [← hf]; rfl
  have hze : snd_ s n = ⟨s.a + n, s.b, [z0, z1, z2, z3, z4, z5, z6, z7]⟩ := by rw [← hz]; rfl
  have hcu := HCU.out
  rw [hfe, hze] at hcu
  rw [hfe, hze]
  clear HCU hfe hze hf hz
  obtain ⟨q, hq, hqe, hqm⟩ := lay_of hc hp
  have hll : ls.length = g.length := by rw [← hc.eq, List.length_map]
  have hgl := ok.len
  rw [hqe] at hd
  rw [hqe]
  simp only at hd
  obtain ⟨b1, o1, rfl, hb1, hcc⟩ := hc.prods.get (by intro e; have := (lays_at ls p _ hq).1; rw [e] at this; simp at this)
  have x1 := hcc _ _ (lays_at ls p _ hq).2
  rw [← Nat.add_assoc] at x1
  have hrow := hc.rows q hqm
  obtain ⟨pl, pr, pra, prc⟩ := q
  simp only at x1 hd hrow
  obtain ⟨y, hy⟩ : ∃ y, pr[d]? = some y := ⟨_, List.getElem?_eq_getElem hd⟩
  obtain ⟨b2, o2, rfl, hb2, hcd⟩ := hrow.get (by unfold nums; intro e; rw [List.map_eq_nil_iff] at e; rw [e] at hy; simp at hy)
  have x2 := hcd d _ (nums_at hy)
  have hyd : pr.getD d 0 = y := by rw [List.getD_eq_getElem?_getD, hy]; rfl
  simp only [hyd]
  have c0 := (blk_cell (i := 0) (u := .slice (some ⟨b1, o1, none⟩) ls.length pc) hc.blk rfl).1
  have l0 := heap_lt hc.blk
  have e1 : (p : Int) < ls.length := by omega
  have e2 : (d : Int) < pr.length := by omega
  have h6 : pr.length ≤ 6 := by
    have := ok.six.len p
    rw [hqe] at this; exact this
  have e3 : (d : Int) + 1 ≤ 100 := by omega
  obtain ⟨a, b, ab⟩ := s
  have h8 : ab.length = 8 := hs.ab
  obtain ⟨y0, y1, y2, y3, y4, y5, y6, y7, rfl⟩ := eight h8
  simp only [boxSp, spanV, bools, List.map_cons, List.map_nil] at hcu
  unfold codeG codeR bools
  simp only [List.map_cons, List.map_nil]
  replace hcu := Lib.hid hcu
  have lc1 : C < S.heap.size + 1 := by omega
  have lc2 : C < S.heap.size + 1 + 1 := by omega
  have lc3 : C < S.heap.size + 1 + 1 + 1 := by omega
  have lc4 : C < S.heap.size + 1 + 1 + 1 + 1 := by omega
  have lc5 : C < S.heap.size + 1 + 1 + 1 + 1 + 1 := by omega
  have lc6 : C < S.heap.size + 1 + 1 + 1 + 1 + 1 + 1 := by omega
  have lc7 : C < S.heap.size + 1 + 1 + 1 + 1 + 1 + 1 + 1 := by omega
  have lc8 : C < S.heap.size + 1 + 1 + 1 + 1 + 1 + 1 + 1 + 1 := by omega
  have lb1 : b1 < S.heap.size + 1 := by omega
  have lb2 : b1 < S.heap.size + 1 + 1 := by omega
  have lb3 : b1 < S.heap.size + 1 + 1 + 1 := by omega
  have lb4 : b1 < S.heap.size + 1 + 1 + 1 + 1 := by omega
  have lb5 : b1 < S.heap.size + 1 + 1 + 1 + 1 + 1 := by omega
  have lb6 : b1 < S.heap.size + 1 + 1 + 1 + 1 + 1 + 1 := by omega
  have lb7 : b1 < S.heap.size + 1 + 1 + 1 + 1 + 1 + 1 + 1 := by omega
  have lb8 : b1 < S.heap.size + 1 + 1 + 1 + 1 + 1 + 1 + 1 + 1 := by omega
  have ld1 : b2 < S.heap.size + 1 := by omega
  have ld2 : b2 < S.heap.size + 1 + 1 := by omega
  have ld3 : b2 < S.heap.size + 1 + 1 + 1 := by omega
  have ld4 : b2 < S.heap.size + 1 + 1 + 1 + 1 := by omega
  have ld5 : b2 < S.heap.size + 1 + 1 + 1 + 1 + 1 := by omega
  have ld6 : b2 < S.heap.size + 1 + 1 + 1 + 1 + 1 + 1 := by omega
  have ld7 : b2 < S.heap.size + 1 + 1 + 1 + 1 + 1 + 1 + 1 := by omega
  have ld8 : b2 < S.heap.size + 1 + 1 + 1 + 1 + 1 + 1 + 1 + 1 := by omega
  clear hc hcc hcd hqe hqm hq hll hgl hrow hy hyd hs hn h8 hle hhi hp hd h6 hul
  go_enter Try.func67, Try.ntmps67
  go_upto_region 1 with fail
  go_upto_region 2 with (go_at_call 74; (with_reducible refine (hcu.out _).mono ?_); rintro e w' ⟨rfl, rfl⟩)
  have e4 : IntKind.i64.wrap ((d : Int) + 1) = (d : Int) + 1 := IntWalk.i64_in _ (by omega)
  go_region_held3 (fun w' => ((w'.cell? ⟨C, 0, none⟩ = some (.slice (some ⟨b1, o1, none⟩) ls.length pc) ∧ w'.cell? ⟨b1, o1 + p * 2 + 1, none⟩ = some (.slice (some ⟨b2, o2, none⟩) pr.length prc) ∧ w'.cell? ⟨b2, o2 + d, none⟩ = some (.int .i64 y)) ∧ (w'.cell? ⟨S.heap.size, 0, none⟩ = some (.int .i64 p) ∧ w'.cell? ⟨S.heap.size, 1, none⟩ = some (.int .i64 d)) ∧ (w'.cell? ⟨S.heap.size + 1 + 1 + 1 + 1 + 1 + 1, 0, none⟩ = some (.int .i64 a) ∧ w'.cell? ⟨S.heap.size + 1 + 1 + 1 + 1 + 1 + 1, 1, none⟩ = some (.int .i64 ((a + n : Nat) : Int)) ∧ w'.cell? ⟨S.heap.size + 1 + 1 + 1 + 1 + 1 + 1, 2, none⟩ = some (.bool f0) ∧ w'.cell? ⟨S.heap.size + 1 + 1 + 1 + 1 + 1 + 1, 3, none⟩ = some (.bool f1) ∧ w'.cell? ⟨S.heap.size + 1 + 1 + 1 + 1 + 1 + 1, 4, none⟩ = some (.bool f2) ∧ w'.cell? ⟨S.heap.size + 1 + 1 + 1 + 1 + 1 + 1, 5, none⟩ = some (.bool f3) ∧ w'.cell? ⟨S.heap.size + 1 + 1 + 1 + 1 + 1 + 1, 6, none⟩ = some (.bool f4) ∧ w'.cell? ⟨S.heap.size + 1 + 1 + 1 + 1 + 1 + 1, 7, none⟩ = some (.bool f5) ∧ w'.cell? ⟨S.heap.size + 1 + 1 + 1 + 1 + 1 + 1, 8, none⟩ = some (.bool f6) ∧ w'.cell? ⟨S.heap.size + 1 + 1 + 1 + 1 + 1 + 1, 9, none⟩ = some (.bool f7)) ∧ (w'.cell? ⟨S.heap.size + 1 + 1 + 1 + 1 + 1 + 1 + 1, 0, none⟩ = some (.int .i64 ((a + n : Nat) : Int)) ∧ w'.cell? ⟨S.heap.size + 1 + 1 + 1 + 1 + 1 + 1 + 1, 1, none⟩ = some (.int .i64 b) ∧ w'.cell? ⟨S.heap.size + 1 + 1 + 1 + 1 + 1 + 1 + 1, 2, none⟩ = some (.bool z0) ∧ w'.cell? ⟨S.heap.size + 1 + 1 + 1 + 1 + 1 + 1 + 1, 3, none⟩ = some (.bool z1) ∧ w'.cell? ⟨S.heap.size + 1 + 1 + 1 + 1 + 1 + 1 + 1, 4, none⟩ = some (.bool z2) ∧ w'.cell? ⟨S.heap.size + 1 + 1 + 1 + 1 + 1 + 1 + 1, 5, none⟩ = some (.bool z3) ∧ w'.cell? ⟨S.heap.size + 1 + 1 + 1 + 1 + 1 + 1 + 1, 6, none⟩ = some (.bool z4) ∧ w'.cell? ⟨S.heap.size + 1 + 1 + 1 + 1 + 1 + 1 + 1, 7, none⟩ = some (.bool z5) ∧ w'.cell? ⟨S.heap.size + 1 + 1 + 1 + 1 + 1 + 1 + 1, 8, none⟩ = some (.bool z6) ∧ w'.cell? ⟨S.heap.size + 1 + 1 + 1 + 1 + 1 + 1 + 1, 9, none⟩ = some (.bool z7))) ∧ True) (first | (refine ⟨⟨⟨?_, ?_, ?_⟩, ⟨?_, ?_⟩, ⟨?_, ?_, ?_, ?_, ?_, ?_, ?_, ?_, ?_, ?_⟩, ⟨?_, ?_, ?_, ?_, ?_, ?_, ?_, ?_, ?_, ?_⟩⟩, trivial⟩ <;> go_simp)) (fail)
  all_goals
    go_wp2
    refine bodyPost_ret (cells2_out _ (S.heap.size + 1) (S.heap.size + 1 + 1) 6 7 86 108 _ _ _ _ rfl rfl rfl
      (run_loadVar_row _ (S.heap.size + 1) 86 86 _ (0, 0) _ (eight_new S _ _ _ _ _ _ _ _).1 Try.underlying86 rfl (by kernel_rfl))
      (run_loadVar_row _ (S.heap.size + 1 + 1) 108 108 _ (0, 0) _ (eight_new S _ _ _ _ _ _ _ _).2.1 Try.underlying108 rfl (by kernel_rfl))) rfl ⟨rfl, (eight_new S _ _ _ _ _ _ _ _).2.2⟩
end Go.Proofs.Ytgfkkbpnphbdgaa
namespace Go.Proofs.Ytgfkkbpnphbdgaa
open Go.RowKit
open Doc Dr

theorem size_bool (w : World) : (sizeOf 4).run Try.prog w = .ok 1 w := by kernel_rfl
theorem und_bool : Try.prog.underlying 4 = some .bool := by kernel_rfl
theorem und_arr8 : Try.prog.underlying 82 = some (.array 8 4) := by kernel_rfl
theorem part8 (y0 y1 y2 y3 y4 y5 y6 y7 : Bool) (w : World) : (part 4 #[.bool y0, .bool y1, .bool y2, .bool y3, .bool y4, .bool y5, .bool y6, .bool y7] (0 * 1)).run Try.prog w = .ok (.bool y0) w ∧ (part 4 #[.bool y0, .bool y1, .bool y2, .bool y3, .bool y4, .bool y5, .bool y6, .bool y7] (1 * 1)).run Try.prog w = .ok (.bool y1) w ∧ (part 4 #[.bool y0, .bool y1, .bool y2, .bool y3, .bool y4, .bool y5, .bool y6, .bool y7] (2 * 1)).run Try.prog w = .ok (.bool y2) w ∧ (part 4 #[.bool y0, .bool y1, .bool y2, .bool y3, .bool y4, .bool y5, .bool y6, .bool y7] (3 * 1)).run Try.prog w = .ok (.bool y3) w ∧ (part 4 #[.bool y0, .bool y1, .bool y2, .bool y3, .bool y4, .bool y5, .bool y6, .bool y7] (4 * 1)).run Try.prog w = .ok (.bool y4) w ∧ (part 4 #[.bool y0, .bool y1, .bool y2, .bool y3, .bool y4, .bool y5, .bool y6, .bool y7] (5 * 1)).run Try.prog w = .ok (.bool y5) w ∧ (part 4 #[.bool y0, .bool y1, .bool y2, .bool y3, .bool y4, .bool y5, .bool y6, .bool y7] (6 * 1)).run Try.prog w = .ok (.bool y6) w ∧ (part 4 #[.bool y0, .bool y1, .bool y2, .bool y3, .bool y4, .bool y5, .bool y6, .bool y7] (7 * 1)).run Try.prog w = .ok (.bool y7) w := by
  refine ⟨?_, ?_, ?_, ?_, ?_, ?_, ?_, ?_⟩ <;> simp [part, isAgg, run_underlying und_bool]
theorem equal8 (d : Nat) (y0 y1 y2 y3 y4 y5 y6 y7 : Bool) (w : World) : (Op.equalIn (d + 2) 82 (.agg #[.bool y0, .bool y1, .bool y2, .bool y3, .bool y4, .bool y5, .bool y6, .bool y7]) (.agg #[.bool false, .bool false, .bool false, .bool false, .bool false, .bool false, .bool false, .bool false])).run Try.prog w = .ok (!(y0 || y1 || y2 || y3 || y4 || y5 || y6 || y7)) w := by
  have pe : ∀ u v : Bool, (Op.equalIn (d + 1) 4 (.bool u) (.bool v)).run Try.prog w = .ok (u == v) w := fun u v => run_equalIn_bool w d _ u v und_bool
  obtain ⟨p0, p1, p2, p3, p4, p5, p6, p7⟩ := part8 y0 y1 y2 y3 y4 y5 y6 y7 w
  obtain ⟨q0, q1, q2, q3, q4, q5, q6, q7⟩ := part8 false false false false false false false false w
  rw [Op.equalIn]
  simp only [Sem.run_bind, run_underlying und_arr8, Result.andThen_ok, size_bool, Std.Legacy.Range.forIn_eq_forIn_range', Std.Legacy.Range.size, Nat.sub_zero, Nat.add_sub_cancel, Nat.div_one]
  rw [show List.range' 0 8 1 = [0, 1, 2, 3, 4, 5, 6, 7] from rfl]
  simp only [List.forIn_cons, List.forIn_nil, Sem.run_bind, p0, q0, pe, Result.andThen_ok]
  cases y0
  case true => simp [p0, p1, p2, p3, p4, p5, p6, p7, q0, q1, q2, q3, q4, q5, q6, q7, pe]
  case false =>
    simp only [p1, q1, pe, Result.andThen_ok, Sem.run_bind, Sem.run_pure, Sem.run_ite, beq_self_eq_true, Bool.not_true, Bool.false_eq_true, if_false]
    cases y1
    case true => simp [p0, p1, p2, p3, p4, p5, p6, p7, q0, q1, q2, q3, q4, q5, q6, q7, pe]
    case false =>
      simp only [p2, q2, pe, Result.andThen_ok, Sem.run_bind, Sem.run_pure, Sem.run_ite, beq_self_eq_true, Bool.not_true, Bool.false_eq_true, if_false]
      cases y2
      case true => simp [p0, p1, p2, p3, p4, p5, p6, p7, q0, q1, q2, q3, q4, q5, q6, q7, pe]
      case false =>
        simp only [p3, q3, pe, Result.andThen_ok, Sem.run_bind, Sem.run_pure, Sem.run_ite, beq_self_eq_true, Bool.not_true, Bool.false_eq_true, if_false]
        cases y3
        case true => simp [p0, p1, p2, p3, p4, p5, p6, p7, q0, q1, q2, q3, q4, q5, q6, q7, pe]
        case false =>
          simp only [p4, q4, pe, Result.andThen_ok, Sem.run_bind, Sem.run_pure, Sem.run_ite, beq_self_eq_true, Bool.not_true, Bool.false_eq_true, if_false]
          cases y4
          case true => simp [p0, p1, p2, p3, p4, p5, p6, p7, q0, q1, q2, q3, q4, q5, q6, q7, pe]
          case false =>
            simp only [p5, q5, pe, Result.andThen_ok, Sem.run_bind, Sem.run_pure, Sem.run_ite, beq_self_eq_true, Bool.not_true, Bool.false_eq_true, if_false]
            cases y5
            case true => simp [p0, p1, p2, p3, p4, p5, p6, p7, q0, q1, q2, q3, q4, q5, q6, q7, pe]
            case false =>
              simp only [p6, q6, pe, Result.andThen_ok, Sem.run_bind, Sem.run_pure, Sem.run_ite, beq_self_eq_true, Bool.not_true, Bool.false_eq_true, if_false]
              cases y6
              case true => simp [p0, p1, p2, p3, p4, p5, p6, p7, q0, q1, q2, q3, q4, q5, q6, q7, pe]
              case false =>
                simp only [p7, q7, pe, Result.andThen_ok, Sem.run_bind, Sem.run_pure, Sem.run_ite, beq_self_eq_true, Bool.not_true, Bool.false_eq_true, if_false]
                cases y7
                case true => simp [p0, p1, p2, p3, p4, p5, p6, p7, q0, q1, q2, q3, q4, q5, q6, q7, pe]
                case false =>
                  simp [p0, p1, p2, p3, p4, p5, p6, p7, q0, q1, q2, q3, q4, q5, q6, q7, pe]
theorem neq8 (y0 y1 y2 y3 y4 y5 y6 y7 : Bool) (w : World) : (binOp .neq 82 (.agg #[.bool y0, .bool y1, .bool y2, .bool y3, .bool y4, .bool y5, .bool y6, .bool y7]) (.agg #[.bool false, .bool false, .bool false, .bool false, .bool false, .bool false, .bool false, .bool false])).run Try.prog w = .ok (.bool (y0 || y1 || y2 || y3 || y4 || y5 || y6 || y7)) w := by
  rw [run_neq_struct, equal8 9998]
  simp
end Go.Proofs.Ytgfkkbpnphbdgaa
