/- Trees: Parse of the program refuses a text that says no tree: contracts over any world. -/
import Derived.Test.YtjlohjkhnjemaaaTreeN
import Derived.Test.YtjlohjkhnjemaaaTreeT
set_option linter.unusedVariables false
namespace Go.Proofs.Ytjlohjkhnjemaaa
open Go.RowKit
open Doc

theorem readG_none {g : Gr} {l : List UInt8} (h : readG g l = none) : rdT g (l.length + 1) l 0 = none ∨ ∃ t r n, rdT g (l.length + 1) l 0 = some (t, r, n) ∧ r ≠ [] := by
  unfold readG at h
  cases hx : rdT g (l.length + 1) l 0 with
  | none => exact .inl rfl
  | some x =>
    rw [hx] at h
    simp only at h
    split at h
    · cases h
    · rename_i he
      exact .inr ⟨x.1, x.2.1, x.2.2, rfl, he⟩
set_option maxRecDepth 100000 in
set_option maxHeartbeats 4000000 in
theorem tread_no (v : Value) (g : Gr) (s : ByteArray) (w : World) (hg : GramAt w v g) (hf : Fits g) (ha : Asc s) (hs : s.size ≤ 90000) (hr : readG g s.data.toList = none) :
    Calls Try.prog 98 #[v, .string s] w fun e w' => e = .panicked [{ v := fT, recovered := false }] ∧ Below w.heap.size w w' := by
  obtain ⟨a1, a2, a3, c1, c2, c3, rfl⟩ := gram_form3 hg
  obtain ⟨hb3, hsz, q0, q1, q2⟩ := three w (.cells #[.slice a1 g.terms.length c1, .slice a2 g.nons.length c2, .slice a3 g.prods.length c3] 28) (.cells #[.int .i64 0, .int .i64 0, .slice none 0 0] 79) (.cells #[.slice a1 g.terms.length c1, .slice a2 g.nons.length c2, .slice a3 g.prods.length c3, .string s, .int .i64 0] 183)
  have HB := Lib.hid hb3
  have HSZ := Lib.hid hsz
  rcases readG_none hr with hrd | ⟨t, r, n, hrd, hne⟩
  · have HT := Lib.hid (tree_no (w.heap.size + 1 + 1) a1 a2 a3 c1 c2 c3 g w hg hf (by omega) (s.data.toList.length + 1) s 0 _ q2 hb3 ha (by rw [size_list]; omega) (by rw [← size_list]; omega) (by omega) hrd)
    unfold NoEnd at HT
    clear hb3 q0 q1 q2 hsz hrd hr hg hf ha hs
    go_enter Try.func98, Try.ntmps98
    go_wp2_with (go_at_call 134; refine HT.out.mono ?_; rintro e w4 ⟨rfl, hk⟩)
    exact ⟨rfl, rfl, HB.out.trans (hk.b.mono (by omega))⟩
  · have HT := Lib.hid (tree_any (w.heap.size + 1 + 1) a1 a2 a3 c1 c2 c3 g w hg hf (by omega) (s.data.toList.length + 1) s 0 _ _ q2 hb3 ha (by rw [size_list]; omega) (by rw [← size_list]; omega) (by omega) hrd)
    have HMN := Lib.hid fun W => must_no (w.heap.size + 1 + 1) W
    have HNE := Lib.hid hne
    clear hb3 q0 q1 q2 hsz hrd hr hg hf ha hs hne
    go_enter Try.func98, Try.ntmps98
    go_upto_region 3 with (go_at_call 134; refine HT.out.mono ?_; rintro e w4 ⟨hk, tl, s', hpl, rfl, hli, hs', hrd⟩)
    obtain ⟨hbS, -, qS⟩ := one_alloc w4 (.cells #[.int .i64 tl.sym, .int .i64 tl.prod, .slice tl.a tl.kids.length tl.c] 79)
    have d3 := (blk_cell (i := 3) (hrd.below hbS) rfl).1
    have lR := heap_lt (hrd.below hbS)
    have HBW := Lib.hid ((HB.out.trans (hk.b.mono (by omega))).trans (hbS.mono (by have := hk.s; have := HSZ.out; omega)))
    have hse : s'.data.toList = [] → False := fun e => HNE.out (by rw [← hs']; exact e)
    have hsl : s'.toList.isEmpty = false := by
      rw [ByteArray.toList_eq]
      cases hl : s'.data.toList with
      | nil => exact absurd hl (fun e => hse e)
      | cons c l => rfl
    clear hbS qS hrd hk hli HT HB hs' hse
    generalize w4.alloc (.cells #[.int .i64 tl.sym, .int .i64 tl.prod, .slice tl.a tl.kids.length tl.c] 79) = S at *
    go_wp2_with (go_at_call 135; refine (HMN.out _).mono ?_; rintro e w7 ⟨rfl, hw⟩; rw [← hw]; clear hw)
    exact ⟨rfl, rfl, HBW.out⟩

theorem ta_faultT (v : Value) (w : World) : (Instr.typeAssert (.iface 141 v) 20 141 true).run Try.prog w = .ok (.tuple #[v, .bool true]) w := by kernel_rfl

set_option maxRecDepth 100000 in
set_option maxHeartbeats 1000000 in
theorem catchT_fault (B : Nat) (cc : Value) (w : World) (hc : w.heap[B]? = some (.cells #[cc] 30)) :
    CallsD Try.prog 97 #[.pointer (some ⟨B, 0, none⟩)] (.panicking ({ v := fT, recovered := false } :: [])) w fun e u' w' =>
      e = .returned (.tuple #[]) ∧ u' = .panicking ({ v := fT, recovered := true } :: []) ∧ Below B w w' ∧ (∀ q, q < w.heap.size → q ≠ B → w'.heap[q]? = w.heap[q]?) ∧ w'.heap[B]? = some (.cells #[.int .i64 2] 30) := by
  refine callsD_of_wpS Try.func97 rfl fun c₀ cs hu => ?_
  unfold fT at *
  apply wpS_seq
  apply wpS_region
  simp [wpOpsS, go_sem, recoverD, hu, Try.ntmps97, Exit.thenS]
  refine wpS_of_wp ?_
  have h1 := ta_faultT
  have hl := heap_lt hc
  have hS : ∀ o, Below w.heap.size w (w.alloc o) := fun o => (Below.refl _ _).alloc (Nat.le_refl _) o
  have hne : ∀ o : Obj, ¬ w.heap.size = B := fun _ => by omega
  obtain ⟨c0, cz⟩ := blk_cell (i := 0) hc rfl
  have HC := Lib.hid hc
  have HS := Lib.hid hS
  have hlt2 : ¬ B = w.heap.size := by omega
  have hlt3 : ¬ w.heap.size = B := by omega
  clear hc hS hne
  rw [frame14]
  go_wp2
  refine ⟨rfl, _, rfl, .tuple #[], results_none rfl _ _ _, rfl, rfl, ?_, ?_, ?_⟩
  · exact ((Below.refl _ _).setCell (p := ⟨B, 0, none⟩) (Nat.le_refl _) _).alloc (by simp; omega) _
  · intro q hq hne
    rw [Below.heap_alloc _ _ _ (by simp; omega), Below.heap_setCell _ _ _ _ hne]
  · rw [Below.heap_alloc _ _ _ (by simp; omega), heap_set w B 0 (.int .i64 2) _ _ HC.out (by simp)]
    rfl

set_option maxRecDepth 100000 in
set_option maxHeartbeats 2000000 in
theorem tparse_no (v : Value) (g : Gr) (s : ByteArray) (w : World) (hg : GramAt w v g) (hf : Fits g) (ha : Asc s) (hs : s.size ≤ 90000) (hr : readG g s.data.toList = none) :
    Calls Try.prog 45 #[v, .string s] w fun e w' => e = .returned (.tuple #[.agg #[.int .i64 0, .int .i64 0, .slice none 0 0], .int .i64 2]) ∧ Below w.heap.size w w' := by
  obtain ⟨a1, a2, a3, c1, c2, c3, rfl⟩ := gram_form3 hg
  obtain ⟨hb3, hsz, q0, q1, q2⟩ := three w (.cells #[.slice a1 g.terms.length c1, .slice a2 g.nons.length c2, .slice a3 g.prods.length c3] 28) (.cells #[.int .i64 0, .int .i64 0, .slice none 0 0] 79) (.cells #[.int .i64 0] 30)
  have hT := tread_no _ g s _ (hg.below hb3) hf ha hs hr
  have HT := Lib.hid hT
  have HB := Lib.hid hb3
  have HQ1 := Lib.hid q1
  have HQ2 := Lib.hid q2
  have HSZ := Lib.hid hsz
  clear hT hb3 q0 q1 q2 hsz hr hg hf ha hs
  go_enter_defers Try.func45, Try.ntmps45
  go_wp2_with (go_at_call 98; refine HT.out.mono ?_; rintro e w2 ⟨rfl, hb2⟩; have R1 := Lib.hid ((hb2.block _ (heap_lt HQ1.out)).trans HQ1.out); have R2 := Lib.hid ((hb2.block _ (heap_lt HQ2.out)).trans HQ2.out); have HBW := Lib.hid (HB.out.trans (hb2.mono HB.out.size)); clear hb2)
  refine leaves_cons (f := 97) (args := #[.pointer (some ⟨w.heap.size + 1 + 1, 0, none⟩)]) (by simp) (by simp [go_sem]) ?_
  refine (catchT_fault (w.heap.size + 1 + 1) _ w2 R2.out).mono ?_
  rintro e u' w4 ⟨rfl, rfl, hb4, hk4, r2⟩
  have r1 := (hk4 _ (heap_lt R1.out) (by omega)).trans R1.out
  refine ⟨_, results_cells2 (p0 := 4) (p1 := 5) (t0 := 79) (t1 := 30) rfl rfl rfl
    (run_loadVar_row _ (w.heap.size + 1) 79 79 _ (0, 0) _ r1 Try.underlying79 rfl (by kernel_rfl)) (loadErr r2), ?_⟩
  exact ⟨rfl, HBW.out.trans (hb4.mono (by omega))⟩

end Go.Proofs.Ytjlohjkhnjemaaa
