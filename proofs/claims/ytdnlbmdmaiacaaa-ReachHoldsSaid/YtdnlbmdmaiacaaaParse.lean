/- Parse: what read throws is caught, and told. -/
import Derived.Test.YtdnlbmdmaiacaaaReadP
import Derived.Defers
import Derived.Recover
import Derived.Laws.Pointers
namespace Go.Proofs.Ytdnlbmdmaiacaaa
open Go.RowKit
open Doc

theorem frame22 (p q r v : Value) : #[p, q, r] ++ ((Array.replicate 19 undef).setIfInBounds 3 v).setIfInBounds 0 v = #[p, q, r, v, undef, undef, v, undef, undef, undef, undef, undef, undef, undef, undef, undef, undef, undef, undef, undef, undef, undef] := by
  apply Array.ext'
  simp [List.replicate]

theorem ta_nil (w : World) : (Instr.typeAssert .nilIface 20 76 true).run Try.prog w = .ok (.tuple #[.agg #[.int .i64 0, .int .i64 0, .int .i64 0], .bool false]) w := by kernel_rfl
theorem ta_fault (v : Value) (w : World) : (Instr.typeAssert (.iface 76 v) 20 76 true).run Try.prog w = .ok (.tuple #[v, .bool true]) w := by kernel_rfl
theorem ne_nil (w : World) : (binOp .neq 20 .nilIface .nilIface).run Try.prog w = .ok (.bool false) w := by kernel_rfl

set_option maxRecDepth 100000 in
theorem catch_idle (a b c : Nat) (w : World) :
    CallsD Try.prog 50 #[.pointer (some ⟨a, 0, none⟩), .pointer (some ⟨b, 0, none⟩), .pointer (some ⟨c, 0, none⟩)] .returning w fun e u' w' => e = .returned (.tuple #[]) ∧ u' = .returning ∧ Below w.heap.size w w' := by
  refine callsD_of_wpS Try.func50 rfl fun c₀ cs hu => ?_
  apply wpS_seq
  apply wpS_region
  simp [wpOpsS, go_sem, recoverD, hu, Try.ntmps50, Exit.thenS]
  refine wpS_of_wp ?_
  have h1 := ta_nil
  have h2 := ne_nil
  have hb : ∀ o, Below w.heap.size w (w.alloc o) := fun o => (Below.refl _ _).alloc (Nat.le_refl _) o
  have HB := Lib.hid hb
  clear hb
  rw [frame22]
  go_wp2
  exact ⟨rfl, .returning, by rw [← hu], .tuple #[], results_none rfl _ _ _, rfl, rfl, HB.out _⟩

set_option maxRecDepth 100000 in
set_option maxHeartbeats 1000000 in
theorem catch_fault (B : Nat) (l k x : Nat) (ca cb cc : Value) (w : World) (ha : w.heap[B + 1]? = some (.cells #[ca] 3)) (hb : w.heap[B + 2]? = some (.cells #[cb] 3)) (hc : w.heap[B + 3]? = some (.cells #[cc] 27)) :
    CallsD Try.prog 50 #[.pointer (some ⟨B + 1, 0, none⟩), .pointer (some ⟨B + 2, 0, none⟩), .pointer (some ⟨B + 3, 0, none⟩)] (.panicking ({ v := faultV l k x, recovered := false } :: [])) w fun e u' w' =>
      e = .returned (.tuple #[]) ∧ u' = .panicking ({ v := faultV l k x, recovered := true } :: []) ∧ Below (B + 1) w w' ∧ (∀ q, q < w.heap.size → q ≠ B + 1 → q ≠ B + 2 → q ≠ B + 3 → w'.heap[q]? = w.heap[q]?) ∧ w'.heap[B + 1]? = some (.cells #[.int .i64 l] 3) ∧ w'.heap[B + 2]? = some (.cells #[.int .i64 k] 3) ∧ w'.heap[B + 3]? = some (.cells #[.int .i64 x] 27) := by
  refine callsD_of_wpS Try.func50 rfl fun c₀ cs hu => ?_
  unfold faultV at *
  apply wpS_seq
  apply wpS_region
  simp [wpOpsS, go_sem, recoverD, hu, Try.ntmps50, Exit.thenS]
  refine wpS_of_wp ?_
  have h1 := ta_fault
  rw [frame22]
  go_wp2
  have hS : Below w.heap.size w (w.alloc (.cells #[.int .i64 l, .int .i64 k, .int .i64 x] 76)) := (Below.refl _ _).alloc (Nat.le_refl _) _
  have l3 := heap_lt hc
  have hf := heap_alloc_new w (.cells #[.int .i64 l, .int .i64 k, .int .i64 x] 76)
  have f0 := (blk_cell (i := 0) hf rfl).1
  have f1 := (blk_cell (i := 1) hf rfl).1
  have f2 := (blk_cell (i := 2) hf rfl).1
  have ha' := (hS.block _ (heap_lt ha)).trans ha
  have hb' := (hS.block _ (heap_lt hb)).trans hb
  have hc' := (hS.block _ (heap_lt hc)).trans hc
  obtain ⟨a0, az⟩ := blk_cell (i := 0) ha' rfl
  obtain ⟨b0, bz⟩ := blk_cell (i := 0) hb' rfl
  obtain ⟨c0, cz⟩ := blk_cell (i := 0) hc' rfl
  have HA := Lib.hid ha'
  have HBb := Lib.hid hb'
  have HC := Lib.hid hc'
  have HS := Lib.hid hS
  clear ha hb hc hf ha' hb' hc' hS h1
  have hz : B + 3 < (w.alloc (.cells #[.int .i64 l, .int .i64 k, .int .i64 x] 76)).heap.size := by simp; omega
  have hn1 : w.heap.size ≠ B + 1 := by omega
  have hn2 : w.heap.size ≠ B + 2 := by omega
  have hn3 : w.heap.size ≠ B + 3 := by omega
  generalize w.alloc (.cells #[.int .i64 l, .int .i64 k, .int .i64 x] 76) = W at *
  go_region
  have h1 := heap_set W (B + 1) 0 (.int .i64 l) _ _ HA.out (by simp)
  have h2 := heap_set (W.setCell ⟨B + 1, 0, none⟩ (.int .i64 l)) (B + 2) 0 (.int .i64 k) _ _ ((Below.heap_setCell W _ _ _ (by show B + 2 ≠ B + 1; omega)).trans HBb.out) (by simp)
  have h3 := heap_set ((W.setCell ⟨B + 1, 0, none⟩ (.int .i64 l)).setCell ⟨B + 2, 0, none⟩ (.int .i64 k)) (B + 3) 0 (.int .i64 x) _ _ (((Below.heap_setCell _ _ _ _ (by show B + 3 ≠ B + 2; omega)).trans (Below.heap_setCell W _ _ _ (by show B + 3 ≠ B + 1; omega))).trans HC.out) (by simp)
  refine ⟨rfl, _, rfl, .tuple #[], results_none rfl _ _ _, rfl, rfl, ?_, ?_, ?_, ?_, ?_⟩
  · exact ((((HS.out.mono (show B + 1 ≤ w.heap.size by omega)).setCell (p := ⟨B + 1, 0, none⟩) (Nat.le_refl _) _).setCell (p := ⟨B + 2, 0, none⟩) (by show B + 1 ≤ B + 2; omega) _).setCell (p := ⟨B + 3, 0, none⟩) (by show B + 1 ≤ B + 3; omega) _).drew
  · intro q hq q1 q2 q3
    show (((W.setCell ⟨B + 1, 0, none⟩ (.int .i64 l)).setCell ⟨B + 2, 0, none⟩ (.int .i64 k)).setCell ⟨B + 3, 0, none⟩ (.int .i64 x)).heap[q]? = _
    rw [Below.heap_setCell _ _ _ _ q3, Below.heap_setCell _ _ _ _ q2, Below.heap_setCell _ _ _ _ q1, HS.out.block q hq]
  · show (((W.setCell ⟨B + 1, 0, none⟩ (.int .i64 l)).setCell ⟨B + 2, 0, none⟩ (.int .i64 k)).setCell ⟨B + 3, 0, none⟩ (.int .i64 x)).heap[B + 1]? = _
    rw [Below.heap_setCell _ _ _ _ (by show B + 1 ≠ B + 3; omega), Below.heap_setCell _ _ _ _ (by show B + 1 ≠ B + 2; omega), h1]
    rfl
  · show (((W.setCell ⟨B + 1, 0, none⟩ (.int .i64 l)).setCell ⟨B + 2, 0, none⟩ (.int .i64 k)).setCell ⟨B + 3, 0, none⟩ (.int .i64 x)).heap[B + 2]? = _
    rw [Below.heap_setCell _ _ _ _ (by show B + 2 ≠ B + 3; omega), h2]
    rfl
  · exact h3

theorem four (w : World) (o0 o1 o2 o3 : Obj) : Below w.heap.size w ((((w.alloc o0).alloc o1).alloc o2).alloc o3) ∧ ((((w.alloc o0).alloc o1).alloc o2).alloc o3).heap.size = w.heap.size + 4 ∧
    ((((w.alloc o0).alloc o1).alloc o2).alloc o3).heap[w.heap.size]? = some o0 ∧ ((((w.alloc o0).alloc o1).alloc o2).alloc o3).heap[w.heap.size + 1]? = some o1 ∧
    ((((w.alloc o0).alloc o1).alloc o2).alloc o3).heap[w.heap.size + 2]? = some o2 ∧ ((((w.alloc o0).alloc o1).alloc o2).alloc o3).heap[w.heap.size + 3]? = some o3 := by
  refine ⟨((((Below.refl _ _).alloc (Nat.le_refl _) _).alloc (by simp) _).alloc (by simp <;> omega) _).alloc (by simp <;> omega) _, by simp, ?_, ?_, ?_, ?_⟩
  · rw [Below.heap_alloc _ _ _ (by simp <;> omega), Below.heap_alloc _ _ _ (by simp <;> omega), Below.heap_alloc _ _ _ (by simp)]; exact heap_alloc_new w o0
  · rw [Below.heap_alloc _ _ _ (by simp <;> omega), Below.heap_alloc _ _ _ (by simp)]; have := heap_alloc_new (w.alloc o0) o1; simpa using this
  · rw [Below.heap_alloc _ _ _ (by simp)]; have := heap_alloc_new ((w.alloc o0).alloc o1) o2; simpa using this
  · have := heap_alloc_new (((w.alloc o0).alloc o1).alloc o2) o3; simpa using this

/-- How Parse ends. -/
def ParseEnd (B : Nat) (t : List UInt8) (e : Ending) (w' : World) : Prop :=
  match parse t with
  | .ok g => ∃ v, e = .returned (.tuple #[v, .int .i64 0, .int .i64 0, .int .i64 0]) ∧ GramFrom B w' v g
  | .bad l c x => e = .returned (.tuple #[.agg #[.slice none 0 0, .slice none 0 0, .slice none 0 0], .int .i64 l, .int .i64 c, .int .i64 x])

theorem results_cells4 {fn : Func} {p0 p1 p2 p3 : Tmp} {t0 t1 t2 t3 : TypeId} (h : fn.results = #[.cell p0 t0, .cell p1 t1, .cell p2 t2, .cell p3 t3]) {tmps : Array Value} {P : Program} {w : World} {a0 a1 a2 a3 : Addr} {v0 v1 v2 v3 : Value}
    (h0 : tmps.getD p0 undef = .pointer (some a0)) (h1 : tmps.getD p1 undef = .pointer (some a1)) (h2 : tmps.getD p2 undef = .pointer (some a2)) (h3 : tmps.getD p3 undef = .pointer (some a3))
    (l0 : (loadVar t0 a0).run P w = .ok v0 w) (l1 : (loadVar t1 a1).run P w = .ok v1 w) (l2 : (loadVar t2 a2).run P w = .ok v2 w) (l3 : (loadVar t3 a3).run P w = .ok v3 w) :
    (results fn tmps).run P w = .ok (.tuple #[v0, v1, v2, v3]) w := by
  simp only [results, h]
  simp at h0 h1 h2 h3
  simp [Sem.run_bind, Result.andThen, h0, h1, h2, h3, l0, l1, l2, l3, asAddr]

theorem loadInt {w : World} {b : Nat} {v : Value} (h : w.heap[b]? = some (.cells (#[.int .i64 0].set! 0 v) 3)) : (loadVar 3 ⟨b, 0, none⟩).run Try.prog w = .ok v w := by
  have hc := (blk_cell (i := 0) (u := v) h (by simp)).1
  simp [go_sem, loadVar, hc]
theorem loadErr {w : World} {b : Nat} {v : Value} (h : w.heap[b]? = some (.cells (#[.int .i64 0].set! 0 v) 27)) : (loadVar 27 ⟨b, 0, none⟩).run Try.prog w = .ok v w := by
  have hc := (blk_cell (i := 0) (u := v) h (by simp)).1
  simp [go_sem, loadVar, hc]

set_option maxRecDepth 100000 in
set_option maxHeartbeats 2000000 in
theorem parse_any (s : ByteArray) (w : World) (hs : s.size ≤ 1000000) :
    Calls Try.prog 13 #[.string s] w fun e w' => Below w.heap.size w w' ∧ ParseEnd w.heap.size s.data.toList e w' := by
  have hmf : ∀ (fn : Fn) (first cap : Array Value) (w : World), (Instr.makeFunc fn first cap).run Try.prog w = .ok (.func fn first cap) w := fun _ _ _ _ => rfl
  have hrd := fun W => read_any s W hs
  unfold ReadEnd at hrd
  cases hp : parse s.data.toList with
  | ok g =>
    rw [hp] at hrd
    simp only at hrd
    obtain ⟨f4, fz, f0, f1, f2, f3⟩ := four w (.cells #[.slice none 0 0, .slice none 0 0, .slice none 0 0] 26) (.cells #[.int .i64 0] 3) (.cells #[.int .i64 0] 3) (.cells #[.int .i64 0] 27)
    have F4 := Lib.hid f4
    have FZ := Lib.hid fz
    have F0 := Lib.hid f0
    have F1 := Lib.hid f1
    have F2 := Lib.hid f2
    have F3 := Lib.hid f3
    clear f4 fz f0 f1 f2 f3
    have HRD := Lib.hid hrd
    clear hrd
    go_enter_defers Try.func13, Try.ntmps13
    go_wp2_with (go_at_call 51; refine (HRD.out _).mono ?_; rintro e w2 ⟨hb2, v, rfl, hg2⟩; have hg3 := hg2.at_; obtain ⟨a1, a2, a3, c1, c2, c3, ls, rfl, _⟩ := hg3; have HG2 := Lib.hid hg2; clear hg2; have q0 := (hb2.block _ (heap_lt F0.out)).trans F0.out; have q1 := (hb2.block _ (heap_lt F1.out)).trans F1.out; have q2 := (hb2.block _ (heap_lt F2.out)).trans F2.out; have q3 := (hb2.block _ (heap_lt F3.out)).trans F3.out; obtain ⟨c00, z00⟩ := blk_cell (i := 0) q0 rfl; obtain ⟨c01, z01⟩ := blk_cell (i := 1) q0 rfl; obtain ⟨c02, z02⟩ := blk_cell (i := 2) q0 rfl; obtain ⟨c10, z10⟩ := blk_cell (i := 0) q1 rfl; obtain ⟨c20, z20⟩ := blk_cell (i := 0) q2 rfl; obtain ⟨c30, z30⟩ := blk_cell (i := 0) q3 rfl; have hbw : Below w.heap.size w w2 := F4.out.trans (hb2.mono F4.out.size); have hsz : w.heap.size + 3 < w2.heap.size := heap_lt q3; have HQ0 := Lib.hid q0; have HQ1 := Lib.hid q1; have HQ2 := Lib.hid q2; have HQ3 := Lib.hid q3; have HBW := Lib.hid hbw; clear q0 q1 q2 q3 hb2 hbw)
    have h1 := heap_set w2 w.heap.size 0 (.slice a1 g.terms.length c1) _ _ HQ0.out (by simp)
    have h2 := heap_set _ w.heap.size 1 (.slice a2 g.nons.length c2) _ _ h1 (by simp)
    have h3 := heap_set _ w.heap.size 2 (.slice a3 ls.length c3) _ _ h2 (by simp)
    have hk3 : ∀ k, k ≠ w.heap.size → (((w2.setCell ⟨w.heap.size, 0, none⟩ (.slice a1 g.terms.length c1)).setCell ⟨w.heap.size, 1, none⟩ (.slice a2 g.nons.length c2)).setCell ⟨w.heap.size, 2, none⟩ (.slice a3 ls.length c3)).heap[k]? = w2.heap[k]? := fun k hk => by
      rw [Below.heap_setCell _ _ _ _ hk, Below.heap_setCell _ _ _ _ hk, Below.heap_setCell _ _ _ _ hk]
    have hs3 : (((w2.setCell ⟨w.heap.size, 0, none⟩ (.slice a1 g.terms.length c1)).setCell ⟨w.heap.size, 1, none⟩ (.slice a2 g.nons.length c2)).setCell ⟨w.heap.size, 2, none⟩ (.slice a3 ls.length c3)).heap.size = w2.heap.size := by simp [World.setCell]
    have hb3 : Below w.heap.size w (((w2.setCell ⟨w.heap.size, 0, none⟩ (.slice a1 g.terms.length c1)).setCell ⟨w.heap.size, 1, none⟩ (.slice a2 g.nons.length c2)).setCell ⟨w.heap.size, 2, none⟩ (.slice a3 ls.length c3)) :=
      ((HBW.out.setCell (p := ⟨w.heap.size, 0, none⟩) (Nat.le_refl _) _).setCell (p := ⟨w.heap.size, 1, none⟩) (Nat.le_refl _) _).setCell (p := ⟨w.heap.size, 2, none⟩) (Nat.le_refl _) _
    generalize ((w2.setCell ⟨w.heap.size, 0, none⟩ (.slice a1 g.terms.length c1)).setCell ⟨w.heap.size, 1, none⟩ (.slice a2 g.nons.length c2)).setCell ⟨w.heap.size, 2, none⟩ (.slice a3 ls.length c3) = W3 at *
    have h4 := heap_set W3 (w.heap.size + 1) 0 (.int .i64 0) _ _ ((hk3 _ (by omega)).trans HQ1.out) (by simp)
    have h5 := heap_set (W3.setCell ⟨w.heap.size + 1, 0, none⟩ (.int .i64 0)) (w.heap.size + 2) 0 (.int .i64 0) _ _ ((Below.heap_setCell _ _ _ _ (by show w.heap.size + 2 ≠ w.heap.size + 1; omega)).trans ((hk3 _ (by omega)).trans HQ2.out)) (by simp)
    have h6 := heap_set ((W3.setCell ⟨w.heap.size + 1, 0, none⟩ (.int .i64 0)).setCell ⟨w.heap.size + 2, 0, none⟩ (.int .i64 0)) (w.heap.size + 3) 0 (.int .i64 0) _ _ (((Below.heap_setCell _ _ _ _ (by show w.heap.size + 3 ≠ w.heap.size + 2; omega)).trans (Below.heap_setCell _ _ _ _ (by show w.heap.size + 3 ≠ w.heap.size + 1; omega))).trans ((hk3 _ (by omega)).trans HQ3.out)) (by simp)
    have hkF : ∀ k, k ≠ w.heap.size + 1 → k ≠ w.heap.size + 2 → k ≠ w.heap.size + 3 → (((W3.setCell ⟨w.heap.size + 1, 0, none⟩ (.int .i64 0)).setCell ⟨w.heap.size + 2, 0, none⟩ (.int .i64 0)).setCell ⟨w.heap.size + 3, 0, none⟩ (.int .i64 0)).heap[k]? = W3.heap[k]? := fun k k1 k2 k3 => by
      rw [Below.heap_setCell _ _ _ _ k3, Below.heap_setCell _ _ _ _ k2, Below.heap_setCell _ _ _ _ k1]
    have g1 := (Below.heap_setCell ((W3.setCell ⟨w.heap.size + 1, 0, none⟩ (.int .i64 0)).setCell ⟨w.heap.size + 2, 0, none⟩ (.int .i64 0)) ⟨w.heap.size + 3, 0, none⟩ (.int .i64 0) (w.heap.size + 1) (by show w.heap.size + 1 ≠ w.heap.size + 3; omega)).trans ((Below.heap_setCell _ _ _ _ (by show w.heap.size + 1 ≠ w.heap.size + 2; omega)).trans h4)
    have g2 := (Below.heap_setCell ((W3.setCell ⟨w.heap.size + 1, 0, none⟩ (.int .i64 0)).setCell ⟨w.heap.size + 2, 0, none⟩ (.int .i64 0)) ⟨w.heap.size + 3, 0, none⟩ (.int .i64 0) (w.heap.size + 2) (by show w.heap.size + 2 ≠ w.heap.size + 3; omega)).trans h5
    have g0 := (hkF w.heap.size (by omega) (by omega) (by omega)).trans h3
    have hsF : (((W3.setCell ⟨w.heap.size + 1, 0, none⟩ (.int .i64 0)).setCell ⟨w.heap.size + 2, 0, none⟩ (.int .i64 0)).setCell ⟨w.heap.size + 3, 0, none⟩ (.int .i64 0)).heap.size = w2.heap.size := by rw [← hs3]; simp [World.setCell]
    have hbF : Below w.heap.size w (((W3.setCell ⟨w.heap.size + 1, 0, none⟩ (.int .i64 0)).setCell ⟨w.heap.size + 2, 0, none⟩ (.int .i64 0)).setCell ⟨w.heap.size + 3, 0, none⟩ (.int .i64 0)) :=
      ((hb3.setCell (p := ⟨w.heap.size + 1, 0, none⟩) (by show w.heap.size ≤ w.heap.size + 1; omega) _).setCell (p := ⟨w.heap.size + 2, 0, none⟩) (by show w.heap.size ≤ w.heap.size + 2; omega) _).setCell (p := ⟨w.heap.size + 3, 0, none⟩) (by show w.heap.size ≤ w.heap.size + 3; omega) _
    have hgF := HG2.out.same (w' := ((W3.setCell ⟨w.heap.size + 1, 0, none⟩ (.int .i64 0)).setCell ⟨w.heap.size + 2, 0, none⟩ (.int .i64 0)).setCell ⟨w.heap.size + 3, 0, none⟩ (.int .i64 0)) (Nat.le_of_eq hsF.symm) (fun k hk1 hk2 => by rw [FZ.out] at hk1; rw [hkF k (by omega) (by omega) (by omega), hk3 k (by omega)])
    rw [FZ.out] at hgF
    generalize ((W3.setCell ⟨w.heap.size + 1, 0, none⟩ (.int .i64 0)).setCell ⟨w.heap.size + 2, 0, none⟩ (.int .i64 0)).setCell ⟨w.heap.size + 3, 0, none⟩ (.int .i64 0) = WF at *
    clear h1 h2 h3 h4 h5 hk3 hkF hb3 c00 z00 c01 z01 c02 z02 c10 z10 c20 z20 c30 z30
    refine leaves_cons (f := 50) (args := #[.pointer (some ⟨w.heap.size + 1, 0, none⟩), .pointer (some ⟨w.heap.size + 2, 0, none⟩), .pointer (some ⟨w.heap.size + 3, 0, none⟩)]) (by simp) (by simp [go_sem]) ?_
    refine (catch_idle (w.heap.size + 1) (w.heap.size + 2) (w.heap.size + 3) WF).mono ?_
    rintro e u' w4 ⟨rfl, rfl, hb4⟩
    have r0 := (hb4.block _ (heap_lt g0)).trans g0
    have r1 := (hb4.block _ (heap_lt g1)).trans g1
    have r2 := (hb4.block _ (heap_lt g2)).trans g2
    have h6r := (hb4.block _ (heap_lt h6)).trans h6
    refine ⟨_, results_cells4 (p0 := 2) (p1 := 3) (p2 := 4) (p3 := 5) (t0 := 26) (t1 := 3) (t2 := 3) (t3 := 27) rfl rfl rfl rfl rfl
      (run_loadVar_row _ w.heap.size 26 26 #[.slice a1 g.terms.length c1, .slice a2 g.nons.length c2, .slice a3 ls.length c3] (0, 0) _ (r0.trans (by simp)) Try.underlying26 rfl (by kernel_rfl))
      (loadInt r1) (loadInt r2) (loadErr h6r), ?_⟩
    refine ⟨hbF.trans (hb4.mono hbF.size), ?_⟩
    unfold ParseEnd
    rw [hp]
    exact ⟨_, rfl, fun W hW => (hgF.same hb4.size (fun k _ h => hb4.block k h)) W fun k h1 h2 => hW k (by omega) h2⟩
  | bad l c x =>
    rw [hp] at hrd
    simp only at hrd
    obtain ⟨f4, fz, f0, f1, f2, f3⟩ := four w (.cells #[.slice none 0 0, .slice none 0 0, .slice none 0 0] 26) (.cells #[.int .i64 0] 3) (.cells #[.int .i64 0] 3) (.cells #[.int .i64 0] 27)
    have F4 := Lib.hid f4
    have FZ := Lib.hid fz
    have F0 := Lib.hid f0
    have F1 := Lib.hid f1
    have F2 := Lib.hid f2
    have F3 := Lib.hid f3
    clear f4 fz f0 f1 f2 f3
    have HRD := Lib.hid hrd
    clear hrd
    go_enter_defers Try.func13, Try.ntmps13
    go_wp2_with (go_at_call 51; refine (HRD.out _).mono ?_; rintro e w2 ⟨hb2, rfl⟩; have q0 := (hb2.block _ (heap_lt F0.out)).trans F0.out; have q1 := (hb2.block _ (heap_lt F1.out)).trans F1.out; have q2 := (hb2.block _ (heap_lt F2.out)).trans F2.out; have q3 := (hb2.block _ (heap_lt F3.out)).trans F3.out; obtain ⟨c00, z00⟩ := blk_cell (i := 0) q0 rfl; obtain ⟨c01, z01⟩ := blk_cell (i := 1) q0 rfl; obtain ⟨c02, z02⟩ := blk_cell (i := 2) q0 rfl; obtain ⟨c10, z10⟩ := blk_cell (i := 0) q1 rfl; obtain ⟨c20, z20⟩ := blk_cell (i := 0) q2 rfl; obtain ⟨c30, z30⟩ := blk_cell (i := 0) q3 rfl; have hbw : Below w.heap.size w w2 := F4.out.trans (hb2.mono F4.out.size); have hsz : w.heap.size + 3 < w2.heap.size := heap_lt q3; have HQ0 := Lib.hid q0; have HQ1 := Lib.hid q1; have HQ2 := Lib.hid q2; have HQ3 := Lib.hid q3; have HBW := Lib.hid hbw; clear q0 q1 q2 q3 hb2 hbw)
    refine leaves_cons (f := 50) (args := #[.pointer (some ⟨w.heap.size + 1, 0, none⟩), .pointer (some ⟨w.heap.size + 2, 0, none⟩), .pointer (some ⟨w.heap.size + 3, 0, none⟩)]) (by simp) (by simp [go_sem]) ?_
    refine (catch_fault w.heap.size l c x _ _ _ w2 HQ1.out HQ2.out HQ3.out).mono ?_
    rintro e u' w4 ⟨rfl, rfl, hb4, hk4, r1, r2, r3⟩
    have r0 := (hk4 w.heap.size (by omega) (by omega) (by omega) (by omega)).trans HQ0.out
    refine ⟨_, results_cells4 (p0 := 2) (p1 := 3) (p2 := 4) (p3 := 5) (t0 := 26) (t1 := 3) (t2 := 3) (t3 := 27) rfl rfl rfl rfl rfl
      (run_loadVar_row _ w.heap.size 26 26 #[.slice none 0 0, .slice none 0 0, .slice none 0 0] (0, 0) _ r0 Try.underlying26 rfl (by kernel_rfl))
      (loadInt (by simpa using r1)) (loadInt (by simpa using r2)) (loadErr (by simpa using r3)), ?_⟩
    refine ⟨HBW.out.trans (hb4.mono (by omega)), ?_⟩
    unfold ParseEnd
    rw [hp]

end Go.Proofs.Ytdnlbmdmaiacaaa
