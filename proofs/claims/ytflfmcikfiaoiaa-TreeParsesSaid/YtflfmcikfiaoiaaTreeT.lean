/- Trees: Parse of the program, of a text that says a tree: contracts over any world. -/
import Derived.Test.YtflfmcikfiaoiaaTreeR
set_option linter.unusedVariables false
namespace Go.Proofs.Ytflfmcikfiaoiaa
open Go.RowKit
open Doc

theorem gram_form3 {w : World} {v : Value} {g : Gr} (h : GramAt w v g) : ∃ a1 a2 a3 c1 c2 c3, v = .agg #[.slice a1 g.terms.length c1, .slice a2 g.nons.length c2, .slice a3 g.prods.length c3] := by
  obtain ⟨a1, a2, a3, c1, c2, c3, ls, rfl, hp, _⟩ := h
  have hpl : ls.length = g.prods.length := by rw [← hp, List.length_map]
  exact ⟨a1, a2, a3, c1, c2, c3, by rw [hpl]⟩
theorem empty_of {s : ByteArray} (h : s.data.toList = []) : s = ⟨#[]⟩ := by
  obtain ⟨⟨l⟩⟩ := s
  have : l = [] := h
  rw [this]
theorem readG_some {g : Gr} {l : List UInt8} {t : Tr} (h : readG g l = some t) : ∃ n, rdT g (l.length + 1) l 0 = some (t, [], n) := by
  unfold readG at h
  split at h
  · cases h
  · rename_i x hx
    split at h
    · rename_i he
      obtain rfl := Option.some.inj h
      exact ⟨x.2.2, by rw [hx, ← he]⟩
    · cases h

set_option maxRecDepth 100000 in
set_option maxHeartbeats 4000000 in
theorem tread_ok (v : Value) (g : Gr) (s : ByteArray) (t : Tr) (w : World) (hg : GramAt w v g) (hf : Fits g) (ha : Asc s) (hs : s.size ≤ 970000) (hr : readG g s.data.toList = some t) :
    Calls Try.prog 85 #[v, .string s] w fun e w' => Below w.heap.size w w' ∧ ∃ tl : Tl, tl.plain = t ∧ e = .returned (.agg #[.int .i64 tl.sym, .int .i64 tl.prod, .slice tl.a tl.kids.length tl.c]) ∧ Lies (fun b => w.heap.size ≤ b) w' tl := by
  obtain ⟨n, hrd⟩ := readG_some hr
  obtain ⟨a1, a2, a3, c1, c2, c3, rfl⟩ := gram_form3 hg
  obtain ⟨hb3, hsz, q0, q1, q2⟩ := three w (.cells #[.slice a1 g.terms.length c1, .slice a2 g.nons.length c2, .slice a3 g.prods.length c3] 28) (.cells #[.int .i64 0, .int .i64 0, .slice none 0 0] 71) (.cells #[.slice a1 g.terms.length c1, .slice a2 g.nons.length c2, .slice a3 g.prods.length c3, .string s, .int .i64 0] 161)
  have hT := tree_any (w.heap.size + 1 + 1) a1 a2 a3 c1 c2 c3 g w hg hf (by omega) (s.data.toList.length + 1) s 0 _ _ q2 hb3 ha (by rw [size_list]; omega) (by rw [← size_list]; omega) (by omega) hrd
  have HT := Lib.hid hT
  have HB := Lib.hid hb3
  have HQ0 := Lib.hid q0
  have HQ1 := Lib.hid q1
  have HSZ := Lib.hid hsz
  have HMO := Lib.hid fun W => must_ok (w.heap.size + 1 + 1) W
  clear hT hb3 q0 q1 q2 hsz hrd hr hg hf ha hs
  go_enter Try.func85, Try.ntmps85
  go_upto_region 3 with (go_at_call 114; refine HT.out.mono ?_; rintro e w4 ⟨hk, tl, s', hpl, rfl, hli, hs', hrd⟩; obtain rfl := empty_of hs')
  obtain ⟨hbS, hsS, qS⟩ := one_alloc w4 (.cells #[.int .i64 tl.sym, .int .i64 tl.prod, .slice tl.a tl.kids.length tl.c] 71)
  have hz4 := (hbS.block (w.heap.size + 1) (by have := hk.s; have := HSZ.out; omega)).trans ((hk.k (w.heap.size + 1) (by have := HSZ.out; omega) (by omega)).trans HQ1.out)
  have d3 := (blk_cell (i := 3) (hrd.below hbS) rfl).1
  have lR := heap_lt (hrd.below hbS)
  obtain ⟨t0, y0⟩ := blk_cell (i := 0) qS rfl
  obtain ⟨t1, y1⟩ := blk_cell (i := 1) qS rfl
  obtain ⟨t2, y2⟩ := blk_cell (i := 2) qS rfl
  obtain ⟨z0, v0⟩ := blk_cell (i := 0) hz4 rfl
  obtain ⟨z1, v1⟩ := blk_cell (i := 1) hz4 rfl
  obtain ⟨z2, v2⟩ := blk_cell (i := 2) hz4 rfl
  have lT := heap_lt qS
  have lB := heap_lt hz4
  have hne1 : ¬ w.heap.size + 1 = w4.heap.size := by have := hk.s; have := HSZ.out; omega
  have hne2 : ¬ w4.heap.size = w.heap.size + 1 := by omega
  have HZ4 := Lib.hid hz4
  have HBW := Lib.hid ((HB.out.trans (hk.b.mono (by omega))).trans (hbS.mono (by have := hk.s; have := HSZ.out; omega)))
  have HLI := Lib.hid (hli.under hbS)
  have HSS := Lib.hid HSZ.out
  clear hbS hsS qS hz4 hrd hk hli HT HB HQ0 HQ1
  generalize w4.alloc (.cells #[.int .i64 tl.sym, .int .i64 tl.prod, .slice tl.a tl.kids.length tl.c] 71) = S at *
  generalize w4.heap.size = T at *
  go_wp2_with (go_at_call 115; refine (HMO.out _).mono ?_; rintro e w7 ⟨rfl, hw⟩; rw [← hw]; clear hw)
  refine bodyPost_ret (v := .agg #[.int .i64 tl.sym, .int .i64 tl.prod, .slice tl.a tl.kids.length tl.c]) ?_ rfl ⟨?_, tl, hpl, rfl, ?_⟩
  · rw [results_cell1 (p := 4) (ty := 71) rfl]
    show ((asAddr (.pointer (some ⟨w.heap.size + 1, 0, none⟩))).run _ _).andThen _ = _
    show (loadVar 71 ⟨w.heap.size + 1, 0, none⟩).run _ _ = _
    exact run_loadVar_row _ (w.heap.size + 1) 71 71 _ (0, 0) _ (store3 HZ4.out _ _ _) Try.underlying71 rfl (by kernel_rfl)
  · exact store3_below HBW.out (Nat.le_succ _) _ _ _
  · exact HLI.out.keep (by simp [World.setCell]) (fun b hb _ => store3_far _ _ _ b (by have := HSS.out; omega)) (fun b hb _ => by have := HSS.out; omega)

theorem frame14 (p v : Value) : #[p] ++ ((Array.replicate 13 undef).setIfInBounds 3 v).setIfInBounds 0 v = #[p, v, undef, undef, v, undef, undef, undef, undef, undef, undef, undef, undef, undef] := by rfl
theorem ta_nilT (w : World) : (Instr.typeAssert .nilIface 20 128 true).run Try.prog w = .ok (.tuple #[.agg #[], .bool false]) w := by kernel_rfl

set_option maxRecDepth 100000 in
set_option maxHeartbeats 1000000 in
theorem catchT_idle (a : Nat) (w : World) :
    CallsD Try.prog 84 #[.pointer (some ⟨a, 0, none⟩)] .returning w fun e u' w' => e = .returned (.tuple #[]) ∧ u' = .returning ∧ Below w.heap.size w w' := by
  refine callsD_of_wpS Try.func84 rfl fun c₀ cs hu => ?_
  apply wpS_seq
  apply wpS_region
  simp [wpOpsS, go_sem, recoverD, hu, Try.ntmps84, Exit.thenS]
  refine wpS_of_wp ?_
  have h1 := ta_nilT
  have h2 := ne_nil
  have hb : ∀ o, Below w.heap.size w (w.alloc o) := fun o => (Below.refl _ _).alloc (Nat.le_refl _) o
  have HB := Lib.hid hb
  clear hb
  rw [frame14]
  go_wp2
  exact ⟨rfl, .returning, by rw [← hu], .tuple #[], results_none rfl _ _ _, rfl, rfl, HB.out _⟩

theorem results_cells2 {fn : Func} {p0 p1 : Tmp} {t0 t1 : TypeId} (h : fn.results = #[.cell p0 t0, .cell p1 t1]) {tmps : Array Value} {P : Program} {w : World} {a0 a1 : Addr} {v0 v1 : Value}
    (h0 : tmps.getD p0 undef = .pointer (some a0)) (h1 : tmps.getD p1 undef = .pointer (some a1))
    (l0 : (loadVar t0 a0).run P w = .ok v0 w) (l1 : (loadVar t1 a1).run P w = .ok v1 w) :
    (results fn tmps).run P w = .ok (.tuple #[v0, v1]) w := by
  simp only [results, h]
  simp at h0 h1
  simp [Sem.run_bind, Result.andThen, h0, h1, l0, l1, asAddr]

set_option maxRecDepth 100000 in
set_option maxHeartbeats 2000000 in
theorem tparse_ok (v : Value) (g : Gr) (s : ByteArray) (t : Tr) (w : World) (hg : GramAt w v g) (hf : Fits g) (ha : Asc s) (hs : s.size ≤ 970000) (hr : readG g s.data.toList = some t) :
    Calls Try.prog 41 #[v, .string s] w fun e w' => Below w.heap.size w w' ∧ ∃ tl : Tl, tl.plain = t ∧ e = .returned (.tuple #[.agg #[.int .i64 tl.sym, .int .i64 tl.prod, .slice tl.a tl.kids.length tl.c], .int .i64 0]) ∧ Lies (fun b => w.heap.size ≤ b) w' tl := by
  obtain ⟨a1, a2, a3, c1, c2, c3, rfl⟩ := gram_form3 hg
  obtain ⟨hb3, hsz, q0, q1, q2⟩ := three w (.cells #[.slice a1 g.terms.length c1, .slice a2 g.nons.length c2, .slice a3 g.prods.length c3] 28) (.cells #[.int .i64 0, .int .i64 0, .slice none 0 0] 71) (.cells #[.int .i64 0] 42)
  have hT := tread_ok _ g s t _ (hg.below hb3) hf ha hs hr
  have HT := Lib.hid hT
  have HB := Lib.hid hb3
  have HQ0 := Lib.hid q0
  have HQ1 := Lib.hid q1
  have HQ2 := Lib.hid q2
  have HSZ := Lib.hid hsz
  clear hT hb3 q0 q1 q2 hsz hr hg hf ha hs
  go_enter_defers Try.func41, Try.ntmps41
  go_wp2_with (go_at_call 85; refine HT.out.mono ?_; rintro e w2 ⟨hb2, tl, hpl, rfl, hli⟩; have q1 := (hb2.block _ (heap_lt HQ1.out)).trans HQ1.out; have q2 := (hb2.block _ (heap_lt HQ2.out)).trans HQ2.out; obtain ⟨c10, z10⟩ := blk_cell (i := 0) q1 rfl; obtain ⟨c11, z11⟩ := blk_cell (i := 1) q1 rfl; obtain ⟨c12, z12⟩ := blk_cell (i := 2) q1 rfl; obtain ⟨c20, z20⟩ := blk_cell (i := 0) q2 rfl; have hbw : Below w.heap.size w w2 := HB.out.trans (hb2.mono HB.out.size); have hsz : w.heap.size + 2 < w2.heap.size := heap_lt q2; have R1 := Lib.hid q1; have R2 := Lib.hid q2; have HBW := Lib.hid hbw; have HLI := Lib.hid hli; clear q1 q2 hb2 hbw hli)
  have g1 : ((((w2.setCell ⟨w.heap.size + 1, 0, none⟩ (.int .i64 tl.sym)).setCell ⟨w.heap.size + 1, 1, none⟩ (.int .i64 tl.prod)).setCell ⟨w.heap.size + 1, 2, none⟩ (.slice tl.a tl.kids.length tl.c)).setCell ⟨w.heap.size + 1 + 1, 0, none⟩ (.int .i64 0)).heap[w.heap.size + 1]? = some (.cells #[.int .i64 tl.sym, .int .i64 tl.prod, .slice tl.a tl.kids.length tl.c] 71) :=
    (Below.heap_setCell _ _ _ _ (show w.heap.size + 1 ≠ w.heap.size + 1 + 1 by omega)).trans (store3 R1.out _ _ _)
  have g2 := heap_set (((w2.setCell ⟨w.heap.size + 1, 0, none⟩ (.int .i64 tl.sym)).setCell ⟨w.heap.size + 1, 1, none⟩ (.int .i64 tl.prod)).setCell ⟨w.heap.size + 1, 2, none⟩ (.slice tl.a tl.kids.length tl.c)) (w.heap.size + 1 + 1) 0 (.int .i64 0) _ _ ((store3_far _ _ _ (w.heap.size + 1 + 1) (by omega)).trans R2.out) (by simp)
  have hbF : Below w.heap.size w ((((w2.setCell ⟨w.heap.size + 1, 0, none⟩ (.int .i64 tl.sym)).setCell ⟨w.heap.size + 1, 1, none⟩ (.int .i64 tl.prod)).setCell ⟨w.heap.size + 1, 2, none⟩ (.slice tl.a tl.kids.length tl.c)).setCell ⟨w.heap.size + 1 + 1, 0, none⟩ (.int .i64 0)) :=
    (store3_below HBW.out (Nat.le_succ _) _ _ _).setCell (p := ⟨w.heap.size + 1 + 1, 0, none⟩) (by show w.heap.size ≤ w.heap.size + 1 + 1; omega) _
  have hliF : Lies (fun b => w.heap.size ≤ b) ((((w2.setCell ⟨w.heap.size + 1, 0, none⟩ (.int .i64 tl.sym)).setCell ⟨w.heap.size + 1, 1, none⟩ (.int .i64 tl.prod)).setCell ⟨w.heap.size + 1, 2, none⟩ (.slice tl.a tl.kids.length tl.c)).setCell ⟨w.heap.size + 1 + 1, 0, none⟩ (.int .i64 0)) tl :=
    HLI.out.keep (by simp [World.setCell]) (fun b hb _ => (Below.heap_setCell _ _ _ _ (show b ≠ w.heap.size + 1 + 1 by have := HSZ.out; omega)).trans (store3_far _ _ _ b (by have := HSZ.out; omega))) (fun b hb _ => by have := HSZ.out; omega)
  generalize ((((w2.setCell ⟨w.heap.size + 1, 0, none⟩ (.int .i64 tl.sym)).setCell ⟨w.heap.size + 1, 1, none⟩ (.int .i64 tl.prod)).setCell ⟨w.heap.size + 1, 2, none⟩ (.slice tl.a tl.kids.length tl.c)).setCell ⟨w.heap.size + 1 + 1, 0, none⟩ (.int .i64 0)) = WF at *
  refine leaves_cons (f := 84) (args := #[.pointer (some ⟨w.heap.size + 1 + 1, 0, none⟩)]) (by simp) (by simp [go_sem]) ?_
  refine (catchT_idle (w.heap.size + 1 + 1) WF).mono ?_
  rintro e u' w4 ⟨rfl, rfl, hb4⟩
  have r1 := (hb4.block _ (heap_lt g1)).trans g1
  have r2 := (hb4.block _ (heap_lt g2)).trans g2
  refine ⟨_, results_cells2 (p0 := 4) (p1 := 5) (t0 := 71) (t1 := 42) rfl rfl rfl
    (run_loadVar_row _ (w.heap.size + 1) 71 71 _ (0, 0) _ r1 Try.underlying71 rfl (by kernel_rfl)) (loadErr r2), ?_⟩
  exact ⟨hbF.trans (hb4.mono hbF.size), tl, hpl, rfl, hliF.under hb4⟩

end Go.Proofs.Ytflfmcikfiaoiaa
