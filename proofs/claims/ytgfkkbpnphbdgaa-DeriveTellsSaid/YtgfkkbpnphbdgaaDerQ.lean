/- derive: sumProds and trees, where kidRows is as it should be. -/
import Derived.Test.YtgfkkbpnphbdgaaDerB
import Derived.Deep.RegionWith
set_option linter.unusedVariables false
set_option linter.unusedSimpArgs false
namespace Go.Proofs.Ytgfkkbpnphbdgaa
open Go.RowKit
open Doc Dr

variable {g : List (Int × List Int)} {u : List Int} {m C M1 M2 pc wc : Nat} {pa wa : Option Addr} {ls : List Lay}
def JobEnd (g : List (Int × List Int)) (u : List Int) (m C M1 M2 : Nat) (pa : Option Addr) (pc : Nat) (wa : Option Addr) (wc : Nat) (ls : List Lay) (j : Job) (S : World) (e : Ending) (S' : World) : Prop :=
  e = .returned (.int .i64 ((num m g u j : Nat) : Int)) ∧ KeptD M1 M2 S S' ∧ Ctr g u m C M1 M2 pa pc wa wc ls S'
def SumEnd (g : List (Int × List Int)) (u : List Int) (m C M1 M2 : Nat) (pa : Option Addr) (pc : Nat) (wa : Option Addr) (wc : Nat) (ls : List Lay) (j : Job) (S : World) (e : Ending) (S' : World) : Prop :=
  (∃ n : Nat, n ≤ 100000 ∧ min n m = num m g u j ∧ e = .returned (.int .i64 (n : Int))) ∧ KeptD M1 M2 S S' ∧ Ctr g u m C M1 M2 pa pc wa wc ls S'
theorem num_le (j : Job) : num m g u j ≤ m := by rw [num_all]; omega
/-- The first productions' share. -/
def psum (g : List (Int × List Int)) (x : Int) (f : Nat → Nat) : Nat → Nat
  | 0 => 0
  | k + 1 => psum g x f k + if (g.getD k (0, [])).1 = x then f k else 0
theorem psum_mono (x : Int) (f : Nat → Nat) : ∀ (k i : Nat), psum g x f k ≤ psum g x f (k + i)
  | k, 0 => Nat.le_refl _
  | k, i + 1 => Nat.le_trans (psum_mono x f k i) (by show _ ≤ psum g x f (k + i) + _; omega)
theorem psum_all (x : Int) (f : Nat → Nat) : psum g x f g.length = ((prodsOf g x).map f).sum := by
  unfold prodsOf
  generalize g.length = n
  induction n with
  | zero => rfl
  | succ n ih =>
    rw [List.range_succ, List.filter_append, List.map_append, List.sum_append, ← ih]
    show _ + _ = _
    congr 1
    by_cases h : (g.getD n (0, [])).1 = x
    · rw [if_pos h, List.filter_cons_of_pos (by simpa using h)]; simp
    · rw [if_neg h, List.filter_cons_of_neg (by simpa using h)]; simp
def lfB (u : List Int) (x : Int) (s : Spn) : Bool := decide (s.b = s.a + 1 ∧ u[s.a]? = some x)
def dnB (g : List (Int × List Int)) (p d : Nat) : Bool := decide ((g.getD p (0, [])).2.length ≤ d)
theorem lf_any {S : World} (hc : Ctr g u m C M1 M2 pa pc wa wc ls S) (hu : u.length ≤ 12) (x : Int) (s : Spn) (hs : InD u s) :
    Calls Try.prog 53 #[.pointer (some ⟨C, 0, none⟩), codeG (x, s)] S fun e w' => e = .returned (.bool (lfB u x s)) ∧ Below S.heap.size S w' := disLeaf_any hc hu x s hs
theorem dn_any {S : World} (hc : Ctr g u m C M1 M2 pa pc wa wc ls S) (hg : g.length ≤ 1000) (p d : Nat) (s : Spn) (hp : p < g.length) (hd : d ≤ (g.getD p (0, [])).2.length) (h6 : (g.getD p (0, [])).2.length ≤ 6) :
    Calls Try.prog 66 #[.pointer (some ⟨C, 0, none⟩), codeR (p, d, s)] S fun e w' => e = .returned (.bool (dnB g p d)) ∧ Below S.heap.size S w' := disDone_any hc hg p d s hp hd h6
theorem goalD_cells {W : World} {b : Nat} {x a z : Value} {y0 y1 y2 y3 y4 y5 y6 y7 : Value} {t : TypeId} (q : W.heap[b]? = some (.cells #[x, a, z, y0, y1, y2, y3, y4, y5, y6, y7] t)) :
    W.cell? ⟨b, 0, none⟩ = some x ∧ W.cell? ⟨b, 1, none⟩ = some a ∧ W.cell? ⟨b, 2, none⟩ = some z ∧ W.cell? ⟨b, 3, none⟩ = some y0 ∧ W.cell? ⟨b, 4, none⟩ = some y1 ∧ W.cell? ⟨b, 5, none⟩ = some y2 ∧ W.cell? ⟨b, 6, none⟩ = some y3 ∧ W.cell? ⟨b, 7, none⟩ = some y4 ∧ W.cell? ⟨b, 8, none⟩ = some y5 ∧ W.cell? ⟨b, 9, none⟩ = some y6 ∧ W.cell? ⟨b, 10, none⟩ = some y7 ∧ b < W.heap.size :=
  ⟨(blk_cell (i := 0) q rfl).1, (blk_cell (i := 1) q rfl).1, (blk_cell (i := 2) q rfl).1, (blk_cell (i := 3) q rfl).1, (blk_cell (i := 4) q rfl).1, (blk_cell (i := 5) q rfl).1, (blk_cell (i := 6) q rfl).1, (blk_cell (i := 7) q rfl).1, (blk_cell (i := 8) q rfl).1, (blk_cell (i := 9) q rfl).1, (blk_cell (i := 10) q rfl).1, heap_lt q⟩
theorem rowD_cells {W : World} {b : Nat} {p d a z : Value} {y0 y1 y2 y3 y4 y5 y6 y7 : Value} {t : TypeId} (q : W.heap[b]? = some (.cells #[p, d, a, z, y0, y1, y2, y3, y4, y5, y6, y7] t)) :
    W.cell? ⟨b, 0, none⟩ = some p ∧ W.cell? ⟨b, 1, none⟩ = some d ∧ W.cell? ⟨b, 2, none⟩ = some a ∧ W.cell? ⟨b, 3, none⟩ = some z ∧ W.cell? ⟨b, 4, none⟩ = some y0 ∧ W.cell? ⟨b, 5, none⟩ = some y1 ∧ W.cell? ⟨b, 6, none⟩ = some y2 ∧ W.cell? ⟨b, 7, none⟩ = some y3 ∧ W.cell? ⟨b, 8, none⟩ = some y4 ∧ W.cell? ⟨b, 9, none⟩ = some y5 ∧ W.cell? ⟨b, 10, none⟩ = some y6 ∧ W.cell? ⟨b, 11, none⟩ = some y7 ∧ b < W.heap.size :=
  ⟨(blk_cell (i := 0) q rfl).1, (blk_cell (i := 1) q rfl).1, (blk_cell (i := 2) q rfl).1, (blk_cell (i := 3) q rfl).1, (blk_cell (i := 4) q rfl).1, (blk_cell (i := 5) q rfl).1, (blk_cell (i := 6) q rfl).1, (blk_cell (i := 7) q rfl).1, (blk_cell (i := 8) q rfl).1, (blk_cell (i := 9) q rfl).1, (blk_cell (i := 10) q rfl).1, (blk_cell (i := 11) q rfl).1, heap_lt q⟩
theorem Ctr.five {S : World} (h : Ctr g u m C M1 M2 pa pc wa wc ls S) : S.cell? ⟨C, 0, none⟩ = some (.slice pa ls.length pc) ∧ S.cell? ⟨C, 1, none⟩ = some (.slice wa u.length wc) ∧ S.cell? ⟨C, 2, none⟩ = some (.int .i64 m) ∧ S.cell? ⟨C, 3, none⟩ = some (.map (some M1)) ∧ S.cell? ⟨C, 4, none⟩ = some (.map (some M2)) ∧ C < S.heap.size :=
  ⟨(blk_cell (i := 0) h.blk rfl).1, (blk_cell (i := 1) h.blk rfl).1, (blk_cell (i := 2) h.blk rfl).1, (blk_cell (i := 3) h.blk rfl).1, (blk_cell (i := 4) h.blk rfl).1, heap_lt h.blk⟩

set_option maxRecDepth 100000 in
set_option maxHeartbeats 8000000 in
theorem sumProds_of (ok : OkD g u m) (x : Int) (s : Spn) (hx : -1000000 ≤ x ∧ x < 108) (hs : InD u s)
    (ih : ∀ k, k ∈ prodsOf g x → hasA s.ab x = false → ∀ S, Ctr g u m C M1 M2 pa pc wa wc ls S → Calls Try.prog 55 #[.pointer (some ⟨C, 0, none⟩), codeR (k, 0, ⟨s.a, s.b, withA s.ab x⟩)] S (JobEnd g u m C M1 M2 pa pc wa wc ls (.row k 0 ⟨s.a, s.b, withA s.ab x⟩) S))
    {S : World} (hc : Ctr g u m C M1 M2 pa pc wa wc ls S) :
    Calls Try.prog 52 #[.pointer (some ⟨C, 0, none⟩), codeG (x, s)] S (SumEnd g u m C M1 M2 pa pc wa wc ls (.goal x s) S) := by
  have hnum := num_goal m g u ok.six (sym := x) (s := s) ⟨hs.ab, hs.le⟩
  have HH := Lib.hid fun W => dhas_any s.ab hs.ab x hx.1 hx.2 W
  have HL := Lib.hid fun W (h : Ctr g u m C M1 M2 pa pc wa wc ls W) => lf_any h ok.ul x s hs
  have HU := Lib.hid fun (k : Nat) (h0 : 100 ≤ x) W => dunder_any x s k hs.ab h0 hx.2 W
  have HI := Lib.hid ih
  have HN := Lib.hid hnum
  have HOK := Lib.hid ok
  have hml := ok.ml
  have hgl := ok.len
  have hll : ls.length = g.length := by rw [← hc.eq, List.length_map]
  have HLL := Lib.hid hll
  have hls : ls.length ≤ 1000 := by omega
  have hb := box_belowT S (.cells (Value.int .i64 x :: .int .i64 s.a :: .int .i64 s.b :: bools s.ab).toArray 86)
  have q0 := heap_alloc_new S (.cells (Value.int .i64 x :: .int .i64 s.a :: .int .i64 s.b :: bools s.ab).toArray 86)
  obtain ⟨a, b, ab⟩ := s
  have h8 : ab.length = 8 := hs.ab
  obtain ⟨y0, y1, y2, y3, y4, y5, y6, y7, rfl⟩ := eight h8
  simp only [codeG, bools, List.map_cons, List.map_nil] at HH HL HU q0 hb
  have HC := Lib.hid (hc.below hb)
  have HQ := Lib.hid q0
  have HB := Lib.hid (KeptD.of (M1 := M1) (M2 := M2) hb)
  unfold codeG bools
  simp only [List.map_cons, List.map_nil]
  clear hnum ih hb q0 hs h8 hc ok hgl hll
  go_enter Try.func52, Try.ntmps52
  go_upto_region 1 with fail
  generalize S.alloc (.cells #[.int .i64 x, .int .i64 a, .int .i64 b, .bool y0, .bool y1, .bool y2, .bool y3, .bool y4, .bool y5, .bool y6, .bool y7] 86) = S1 at *
  have l0 := heap_lt HQ.out
  generalize S.heap.size = B at *
  obtain ⟨r0, r1, r2, r3, r4, r5, r6, r7, r8, r9, r10, _⟩ := goalD_cells HQ.out
  go_upto_if 13 with (go_at_call 63; (with_reducible refine (HH.out _).mono ?_); rintro e w2 ⟨rfl, hb2⟩)
  have HK2 := Lib.hid (HB.out.below hb2)
  have HC2 := Lib.hid (HC.out.below hb2)
  have HQ2 := Lib.hid ((hb2.block _ l0).trans HQ.out)
  clear r0 r1 r2 r3 r4 r5 r6 r7 r8 r9 r10 hb2 HB HC HQ l0
  obtain ⟨r0, r1, r2, r3, r4, r5, r6, r7, r8, r9, r10, l0⟩ := goalD_cells HQ2.out
  by_cases hha : hasA [y0, y1, y2, y3, y4, y5, y6, y7] x = true
  · have HN2 := Lib.hid (HN.out.trans (if_pos hha))
    rw [hha]
    go_wp2
    go_ret
    exact ⟨⟨0, by omega, by rw [HN2.out]; simp, rfl⟩, HK2.out, HC2.out⟩
  · have hhf : hasA [y0, y1, y2, y3, y4, y5, y6, y7] x = false := by simpa using hha
    have HN2 := Lib.hid (HN.out.trans (if_neg hha))
    have HHF := Lib.hid hhf
    rw [hhf]
    clear hha hhf HN
    go_upto_if 16 with (go_at_call 53; (with_reducible refine (HL.out _ HC2.out).mono ?_); rintro e w3 ⟨rfl, hb3⟩)
    have HK3 := Lib.hid (HK2.out.below hb3)
    have HC3 := Lib.hid (HC2.out.below hb3)
    have HQ3 := Lib.hid ((hb3.block _ l0).trans HQ2.out)
    clear r0 r1 r2 r3 r4 r5 r6 r7 r8 r9 r10 hb3 HK2 HC2 HQ2 l0 HH HL
    by_cases hlf : b = a + 1 ∧ u[a]? = some x
    · have HN3 := Lib.hid (HN2.out.trans (if_pos hlf))
      have HD : lfB u x ⟨a, b, [y0, y1, y2, y3, y4, y5, y6, y7]⟩ = true := decide_eq_true hlf
      rw [HD]
      clear HD hlf
      go_wp2
      go_ret
      exact ⟨⟨1, by omega, HN3.out.symm, rfl⟩, HK3.out, HC3.out⟩
    · have HN3 := Lib.hid (HN2.out.trans (if_neg hlf))
      have HD : lfB u x ⟨a, b, [y0, y1, y2, y3, y4, y5, y6, y7]⟩ = false := decide_eq_false hlf
      rw [HD]
      clear HD hlf HN2
      obtain ⟨c0, c1, c2, c3, c4, lc⟩ := HC3.out.five
      go_upto_region 6 with fail
      obtain ⟨F, hF⟩ : ∃ F : Nat → Nat, ∀ k, num m g u (.row k 0 ⟨a, b, withA [y0, y1, y2, y3, y4, y5, y6, y7] x⟩) = F k := ⟨_, fun _ => rfl⟩
      have HF := Lib.hid hF
      have HFM := Lib.hid fun k => (hF k ▸ num_le (m := m) (.row k 0 ⟨a, b, withA [y0, y1, y2, y3, y4, y5, y6, y7] x⟩) : F k ≤ m)
      have HSUM := Lib.hid (show num m g u (.goal x ⟨a, b, [y0, y1, y2, y3, y4, y5, y6, y7]⟩) = min m (psum g x F g.length) by rw [psum_all]; exact HN3.out.trans (by congr 2; exact List.map_congr_left fun k _ => hF k))
      clear hF HN3
      go_upto_region 7 with fail
      clear c0 c1 c2 c3 c4
      go_loopw [5, 22] (fun n i wr => ∃ k nn : Nat, k ≤ ls.length ∧ n = .int .i64 nn ∧ i = .int .i64 k ∧ nn ≤ 400 ∧ Hid (nn = psum g x F k) ∧ Hid (KeptD M1 M2 S wr) ∧ Hid (Ctr g u m C M1 M2 pa pc wa wc ls wr) ∧ Hid (wr.heap[B]? = some (.cells #[.int .i64 x, .int .i64 a, .int .i64 b, .bool y0, .bool y1, .bool y2, .bool y3, .bool y4, .bool y5, .bool y6, .bool y7] 86))) (fun _ i _ => ls.length - (intOf i).toNat)
      case atStart => exact ⟨0, 0, by omega, rfl, rfl, by omega, Lib.hid rfl, HK3, HC3, HQ3⟩
      case round =>
        obtain ⟨k, nn, hk, rfl, rfl, hnn, HNN, HKR, HCR, HQR⟩ := hrel
        obtain ⟨c0, c1, c2, c3, c4, lc⟩ := HCR.out.five
        clear HK3 HC3 HQ3
        by_cases hkl : k < ls.length
        · obtain ⟨q, hq, hqe, hqm⟩ := lay_of HCR.out (show k < g.length by have := HLL.out; omega)
          obtain ⟨b1, o1, rfl, hb1, hcc⟩ := HCR.out.prods.get (by intro e; have := (lays_at ls k _ hq).1; rw [e] at this; simp at this)
          have x0 := hcc _ _ (lays_at ls k _ hq).1
          have x1 := hcc _ _ (lays_at ls k _ hq).2
          rw [← Nat.add_assoc] at x1
          obtain ⟨pl, pr, pra, prc⟩ := q
          simp only at x0 x1 hqe
          have e1 : (k : Int) < ls.length := by omega
          have hbp := box_belowT wr (.cells #[.int .i64 pl, .slice pra pr.length prc] 63)
          have HQP := Lib.hid (heap_alloc_new wr (.cells #[.int .i64 pl, .slice pra pr.length prc] 63))
          have HKW := Lib.hid (HKR.out.below hbp)
          have HCW := Lib.hid (HCR.out.below hbp)
          have HQW := Lib.hid ((hbp.block _ (heap_lt HQR.out)).trans HQR.out)
          have HQE := Lib.hid hqe
          have HKL := Lib.hid hkl
          clear hq hqm hcc hbp hqe HKR HCR HQR c1 c3 c4 c2
          go_upto_region 9 with fail
          generalize wr.alloc (.cells #[.int .i64 pl, .slice pra pr.length prc] 63) = W2 at *
          generalize wr.heap.size = PB at *
          clear x0 x1 c0 lc hb1
          obtain ⟨c0, c1, c2, c3, c4, lc⟩ := HCW.out.five
          have p0 := (blk_cell (i := 0) HQP.out rfl).1
          have lp := heap_lt HQP.out
          by_cases hmn : m ≤ nn
          · have e2 : (m : Int) ≤ nn := by omega
            have HMN := Lib.hid hmn
            clear hmn
            go_wp2
            go_ret
            refine ⟨⟨nn, by omega, ?_, rfl⟩, HKW.out, HCW.out⟩
            have h1 := psum_mono (g := g) x F k (g.length - k)
            rw [show k + (g.length - k) = g.length by have := HLL.out; have := HKL.out; omega] at h1
            rw [HSUM.out]
            have := HNN.out; have := HMN.out; omega
          · have e2 : ¬ (m : Int) ≤ nn := by omega
            have hmn2 : (nn : Int) < m := by omega
            obtain ⟨r0, r1, r2, r3, r4, r5, r6, r7, r8, r9, r10, l0⟩ := goalD_cells HQW.out
            by_cases hpx : pl = x
            · have e3 : (pl == x) = true := beq_iff_eq.2 hpx
              have hmem : k ∈ prodsOf g x := mem_prodsOf.2 ⟨by have := HLL.out; omega, by rw [HQE.out]; exact hpx⟩
              have h100 : 100 ≤ x := (sym_in HOK.out.six hmem).1
              have HIK := Lib.hid fun W (hW : Ctr g u m C M1 M2 (some ⟨b1, o1, none⟩) pc wa wc ls W) => (HI.out k hmem HHF.out W hW).mono fun e w' h => (⟨h.1.trans (by rw [HF.out k]), h.2.1, h.2.2⟩ : e = .returned (.int .i64 (F k)) ∧ KeptD M1 M2 W w' ∧ Ctr g u m C M1 M2 (some ⟨b1, o1, none⟩) pc wa wc ls w')
              have HUK := Lib.hid (HU.out k h100)
              have hfm := HFM.out k
              have hwr : IntKind.i64.wrap ((nn : Int) + (F k : Int)) = (nn : Int) + (F k : Int) := IntWalk.i64_in _ (by omega)
              have HST : Hid (nn + F k = psum g x F (k + 1)) := Lib.hid (by show _ = psum g x F k + _; rw [HQE.out, if_pos hpx, HNN.out])
              have HPX := Lib.hid hpx
              clear hpx hmem
              go_wp2_with (first
                | (go_at_call 54; (with_reducible refine (HUK.out _).mono ?_); rintro e w5 ⟨rfl, hb5⟩; have HC5 := Lib.hid (HCW.out.below hb5); have HK5 := Lib.hid (HKW.out.below hb5); have HQ5 := Lib.hid ((hb5.block _ l0).trans HQW.out))
                | (go_at_call 55; (with_reducible refine (HIK.out _ HC5.out).mono ?_); rintro e w6 ⟨rfl, hk6, hc6⟩; have HC6 := Lib.hid hc6; have HK6 := Lib.hid (HK5.out.trans hk6); have HQ6 := Lib.hid (HC5.out.keeps hk6 HQ5.out); clear hk6 hc6))
              exact ⟨⟨k + 1, nn + F k, by omega, by go_num, by go_num, by omega, HST, HK6, HC6, HQ6⟩, by simp [intOf]; omega⟩
            · have e3 : (pl == x) = false := beq_eq_false_iff_ne.2 hpx
              have HST : Hid (nn = psum g x F (k + 1)) := Lib.hid (by show _ = psum g x F k + _; rw [HQE.out, if_neg hpx, HNN.out, Nat.add_zero])
              clear hpx
              go_wp2
              exact ⟨⟨k + 1, nn, by omega, by go_num, by go_num, by omega, HST, HKW, HCW, HQW⟩, by simp [intOf]; omega⟩
        · have e1 : ¬ (k : Int) < ls.length := by omega
          have HKL := Lib.hid hkl
          clear hkl
          go_wp2
          go_ret
          refine ⟨⟨nn, by omega, ?_, rfl⟩, HKR.out, HCR.out⟩
          rw [HSUM.out, HNN.out, show g.length = k by have := HLL.out; have := HKL.out; omega]
          omega
end Go.Proofs.Ytgfkkbpnphbdgaa
namespace Go.Proofs.Ytgfkkbpnphbdgaa
open Go.RowKit
open Doc Dr

variable {g : List (Int × List Int)} {u : List Int} {m C M1 M2 pc wc : Nat} {pa wa : Option Addr} {ls : List Lay}
/-- What is known of a goal is right. -/
theorem memG_look {S : World} (h : MemG g u m M1 S) {x : Int} {s : Spn} (hx : -1000000 ≤ x ∧ x < 108) (hs : InD u s) (hul : u.length ≤ 12) :
    ∃ ok : Bool, ∀ W : World, W.heap[M1]? = S.heap[M1]? → (Instr.lookup 101 (.map (some M1)) (codeG (x, s)) true).run Try.prog W = .ok (.tuple #[.int .i64 (if ok then ((num m g u (.goal x s) : Nat) : Int) else 0), .bool ok]) W := by
  obtain ⟨f, hf, hv⟩ := h
  have h1 := hs.le
  have h2 := hs.hi
  obtain ⟨l, hl⟩ := codeG_key (x := x) (s := s) (by omega) (by omega) (by omega) (by omega) hs.ab
  cases e : f (x, s) with
  | none => exact ⟨false, fun W hW => by rw [(hf.at hW).look key_goal codeG_inj Try.underlying101 (zeroInt W) hl true, e]; rfl⟩
  | some v => exact ⟨true, fun W hW => by rw [(hf.at hW).look key_goal codeG_inj Try.underlying101 (zeroInt W) hl true, e, hv _ _ e]; rfl⟩
/-- What is written of a goal. -/
theorem memG_store {S : World} (h : MemG g u m M1 S) {x : Int} {s : Spn} (hx : -1000000 ≤ x ∧ x < 108) (hs : InD u s) (hul : u.length ≤ 12) :
    ∃ w', (Instr.mapUpdate 101 (.map (some M1)) (codeG (x, s)) (.int .i64 ((num m g u (.goal x s) : Nat) : Int))).run Try.prog S = .ok () w' ∧ MemG g u m M1 w' ∧ S.grownBy w' (some M1) := by
  obtain ⟨f, hf, hv⟩ := h
  have h1 := hs.le
  have h2 := hs.hi
  obtain ⟨l, hl⟩ := codeG_key (x := x) (s := s) (by omega) (by omega) (by omega) (by omega) hs.ab
  classical
  obtain ⟨w', hr, hm, hg⟩ := hf.store key_goal codeG_inj Try.underlying101 hl (.int .i64 ((num m g u (.goal x s) : Nat) : Int))
  refine ⟨w', hr, ⟨_, hm, fun q v hq => ?_⟩, hg⟩
  by_cases e : q = (x, s)
  · subst e
    rw [if_pos rfl] at hq
    cases hq; rfl
  · rw [if_neg e] at hq
    exact hv q v hq
theorem jobs_end {S w3 w4 : World} (hk : KeptD M1 M2 S w3) (hc : Ctr g u m C M1 M2 pa pc wa wc ls w3) (hm : MemG g u m M1 w4) (hg : w3.drew.grownBy w4 (some M1)) : KeptD M1 M2 S w4 ∧ Ctr g u m C M1 M2 pa pc wa wc ls w4 := by
  have h1 : KeptD M1 M2 w3 w4 := (KeptD.of (⟨rfl, rfl, rfl, Nat.le_refl _, fun _ _ => rfl⟩ : Below w3.heap.size w3 w3.drew)).trans (KeptD.grown1 hg)
  obtain ⟨es, cl, h2⟩ := hc.mr.map
  refine ⟨hk.trans h1, hc.to h1 hm (hc.mr.at ?_)⟩
  exact hg.block M2 (heap_lt h2) (fun e => hc.ne (Option.some.inj e).symm)
set_option maxRecDepth 100000 in
set_option maxHeartbeats 8000000 in
theorem trees_of (ok : OkD g u m) (x : Int) (s : Spn) (hx : -1000000 ≤ x ∧ x < 108) (hs : InD u s)
    (ih : ∀ S, Ctr g u m C M1 M2 pa pc wa wc ls S → Calls Try.prog 52 #[.pointer (some ⟨C, 0, none⟩), codeG (x, s)] S (SumEnd g u m C M1 M2 pa pc wa wc ls (.goal x s) S))
    {S : World} (hc : Ctr g u m C M1 M2 pa pc wa wc ls S) :
    Calls Try.prog 36 #[.pointer (some ⟨C, 0, none⟩), codeG (x, s)] S (JobEnd g u m C M1 M2 pa pc wa wc ls (.goal x s) S) := by
  have hb := box_belowT S (.cells (Value.int .i64 x :: .int .i64 s.a :: .int .i64 s.b :: bools s.ab).toArray 86)
  have q0 := heap_alloc_new S (.cells (Value.int .i64 x :: .int .i64 s.a :: .int .i64 s.b :: bools s.ab).toArray 86)
  have HC := Lib.hid (hc.below hb)
  obtain ⟨fd, hfd⟩ := memG_look HC.out.mg hx hs ok.ul
  have HST := Lib.hid fun W (h : MemG g u m M1 W) => memG_store h hx hs ok.ul
  have HI := Lib.hid ih
  have hml := ok.ml
  unfold JobEnd
  have hNm := num_le (g := g) (u := u) (m := m) (.goal x s)
  unfold SumEnd at HI
  generalize hN : num m g u (.goal x s) = N at *
  obtain ⟨a, b, ab⟩ := s
  have h8 : ab.length = 8 := hs.ab
  obtain ⟨y0, y1, y2, y3, y4, y5, y6, y7, rfl⟩ := eight h8
  simp only [codeG, bools, List.map_cons, List.map_nil] at HI hfd HST q0 hb HC
  have HQ := Lib.hid q0
  have HB := Lib.hid (KeptD.of (M1 := M1) (M2 := M2) hb)
  unfold codeG bools
  simp only [List.map_cons, List.map_nil]
  clear hN ih hb q0 hs h8 hc ok
  go_enter Try.func36, Try.ntmps36
  go_upto_region 1 with fail
  generalize S.alloc (.cells #[.int .i64 x, .int .i64 a, .int .i64 b, .bool y0, .bool y1, .bool y2, .bool y3, .bool y4, .bool y5, .bool y6, .bool y7] 86) = S1 at *
  have l0 := heap_lt HQ.out
  generalize S.heap.size = B at *
  obtain ⟨r0, r1, r2, r3, r4, r5, r6, r7, r8, r9, r10, _⟩ := goalD_cells HQ.out
  obtain ⟨c0, c1, c2, c3, c4, lc⟩ := HC.out.five
  have hL := fun n => hfd (S1.drewN n) rfl
  clear hfd
  go_quiet (fail)
  have HKD := Lib.hid (HB.out.drewN nq)
  have HCD := Lib.hid (HC.out.drewN nq)
  have HQD := Lib.hid (show (S1.drewN nq).heap[B]? = some (.cells #[.int .i64 x, .int .i64 a, .int .i64 b, .bool y0, .bool y1, .bool y2, .bool y3, .bool y4, .bool y5, .bool y6, .bool y7] 86) from HQ.out)
  clear r0 r1 r2 r3 r4 r5 r6 r7 r8 r9 r10 c0 c1 c2 c3 c4 lc l0 hL HQ HC HB
  generalize S1.drewN nq = S2 at *
  cases fd
  · go_upto_region 3 with fail
    obtain ⟨r0, r1, r2, r3, r4, r5, r6, r7, r8, r9, r10, l0⟩ := goalD_cells HQD.out
    obtain ⟨c0, c1, c2, c3, c4, lc⟩ := HCD.out.five
    have HCE := Lib.hid (show Ctr g u m C M1 M2 pa pc wa wc ls S2.drew from HCD.out.below ⟨rfl, rfl, rfl, Nat.le_refl _, fun _ _ => rfl⟩)
    have HQE := Lib.hid (show S2.drew.heap[B]? = some (.cells #[.int .i64 x, .int .i64 a, .int .i64 b, .bool y0, .bool y1, .bool y2, .bool y3, .bool y4, .bool y5, .bool y6, .bool y7] 86) from HQD.out)
    have HKE := Lib.hid (HKD.out.trans (KeptD.of (M1 := M1) (M2 := M2) (⟨rfl, rfl, rfl, Nat.le_refl _, fun _ _ => rfl⟩ : Below S2.heap.size S2 S2.drew)))
    go_region_with (first | (go_at_call 52; (with_reducible refine (HI.out _ HCE.out).mono ?_); rintro e w3 ⟨⟨n, hn, hnm, rfl⟩, hk3, hc3⟩; have hmin : (if m < n then (m : Int) else (n : Int)) = (N : Int) := (by rw [← hnm]; split <;> omega); have HC3 := Lib.hid hc3; have HK3 := Lib.hid (HKE.out.trans hk3); have HQ3 := Lib.hid (HCE.out.keeps hk3 HQE.out); have hm3 := hc3.five.2.2.1; have lc3 := heap_lt hc3.blk; clear hk3 hc3))
    all_goals
      simp only [Act.put, List.setIfInBounds_toArray, List.set_cons_succ, List.set_cons_zero, List.getElem_toArray, List.getElem_cons_succ, List.getElem_cons_zero, hmin]
      clear hmin hm3 lc3 r0 r1 r2 r3 r4 r5 r6 r7 r8 r9 r10 c0 c1 c2 c3 c4 lc l0 hnm
      go_upto_region 4 with fail
      obtain ⟨r0, r1, r2, r3, r4, r5, r6, r7, r8, r9, r10, l0⟩ := goalD_cells HQ3.out
      obtain ⟨c0, c1, c2, c3, c4, lc⟩ := HC3.out.five
      obtain ⟨w4, hr4, hm4, hg4⟩ := HST.out w3.drew (HC3.out.mg.at rfl)
      have HE := Lib.hid (jobs_end HK3.out HC3.out hm4 hg4)
      clear hm4 hg4
      go_region
      all_goals
        go_wp2
        go_ret
        exact ⟨rfl, HE.out⟩
  · go_wp2
    go_ret
    exact ⟨rfl, HKD.out, HCD.out⟩
end Go.Proofs.Ytgfkkbpnphbdgaa
namespace Go.Proofs.Ytgfkkbpnphbdgaa
open Go.RowKit
open Doc Dr

variable {g : List (Int × List Int)} {u : List Int} {m C M1 M2 pc wc : Nat} {pa wa : Option Addr} {ls : List Lay}
theorem sumTo_succ (k : Nat) (f : Nat → Nat) : sumTo (k + 1) f = sumTo k f + f k := by
  unfold sumTo
  rw [List.range_succ, List.map_append, List.sum_append]; simp
theorem sumTo_mono (f : Nat → Nat) : ∀ (k i : Nat), sumTo k f ≤ sumTo (k + i) f
  | k, 0 => Nat.le_refl _
  | k, i + 1 => Nat.le_trans (sumTo_mono f k i) (by rw [← Nat.add_assoc, sumTo_succ]; omega)
set_option maxRecDepth 100000 in
set_option maxHeartbeats 16000000 in
theorem sumCuts_of (ok : OkD g u m) (p d : Nat) (s : Spn) (hp : p < g.length) (hd : d ≤ (g.getD p (0, [])).2.length) (hs : InD u s)
    (ihT : ∀ i, d < (g.getD p (0, [])).2.length → i ≤ s.b - s.a → ∀ S, Ctr g u m C M1 M2 pa pc wa wc ls S → Calls Try.prog 36 #[.pointer (some ⟨C, 0, none⟩), codeG ((g.getD p (0, [])).2.getD d 0, fst_ s i)] S (JobEnd g u m C M1 M2 pa pc wa wc ls (.goal ((g.getD p (0, [])).2.getD d 0) (fst_ s i)) S))
    (ihK : ∀ i, d < (g.getD p (0, [])).2.length → i ≤ s.b - s.a → ∀ S, Ctr g u m C M1 M2 pa pc wa wc ls S → Calls Try.prog 55 #[.pointer (some ⟨C, 0, none⟩), codeR (p, d + 1, snd_ s i)] S (JobEnd g u m C M1 M2 pa pc wa wc ls (.row p (d + 1) (snd_ s i)) S))
    {S : World} (hc : Ctr g u m C M1 M2 pa pc wa wc ls S) :
    Calls Try.prog 65 #[.pointer (some ⟨C, 0, none⟩), codeR (p, d, s)] S (SumEnd g u m C M1 M2 pa pc wa wc ls (.row p d s) S) := by
  have hnum := num_row m g u ok.six (p := p) (d := d) (s := s) ⟨hs.ab, hs.le⟩
  have HD := Lib.hid fun W (h : Ctr g u m C M1 M2 pa pc wa wc ls W) => dn_any h ok.len p d s hp hd (ok.six.len p)
  have HU := Lib.hid fun W (h : Ctr g u m C M1 M2 pa pc wa wc ls W) (k : Nat) (hdl : d < (g.getD p (0, [])).2.length) (hk : k ≤ s.b - s.a) => dccut_any h ok p d k s hp hdl hs hk
  obtain ⟨F, hF⟩ : ∃ F : Nat → Nat, ∀ i, num m g u (.goal ((g.getD p (0, [])).2.getD d 0) (fst_ s i)) = F i := ⟨_, fun _ => rfl⟩
  obtain ⟨G, hG⟩ : ∃ G : Nat → Nat, ∀ i, num m g u (.row p (d + 1) (snd_ s i)) = G i := ⟨_, fun _ => rfl⟩
  have HFM := Lib.hid fun k => (hF k ▸ num_le (m := m) (.goal ((g.getD p (0, [])).2.getD d 0) (fst_ s k)) : F k ≤ m)
  have HGM := Lib.hid fun k => (hG k ▸ num_le (m := m) (.row p (d + 1) (snd_ s k)) : G k ≤ m)
  have HT := Lib.hid fun (i : Nat) (h1 : d < (g.getD p (0, [])).2.length) (h2 : i ≤ s.b - s.a) W hW => (ihT i h1 h2 W hW).mono fun e w' h => (⟨h.1.trans (by rw [hF i]), h.2.1, h.2.2⟩ : e = .returned (.int .i64 (F i)) ∧ KeptD M1 M2 W w' ∧ Ctr g u m C M1 M2 pa pc wa wc ls w')
  have HK := Lib.hid fun (i : Nat) (h1 : d < (g.getD p (0, [])).2.length) (h2 : i ≤ s.b - s.a) W hW => (ihK i h1 h2 W hW).mono fun e w' h => (⟨h.1.trans (by rw [hG i]), h.2.1, h.2.2⟩ : e = .returned (.int .i64 (G i)) ∧ KeptD M1 M2 W w' ∧ Ctr g u m C M1 M2 pa pc wa wc ls w')
  have HN := Lib.hid (hnum.trans (by congr 2; exact sumTo_le fun i _ => by rw [hF i, hG i]) : num m g u (.row p d s) = if (g.getD p (0, [])).2.length ≤ d then (if s.a = s.b then min 1 m else 0) else min m (sumTo (s.b - s.a + 1) fun i => F i * G i))
  have HS := Lib.hid hs
  have hml := ok.ml
  have hle := hs.le
  have hhi := hs.hi
  have hul := ok.ul
  have hb := box_belowT S (.cells (Value.int .i64 p :: .int .i64 d :: .int .i64 s.a :: .int .i64 s.b :: bools s.ab).toArray 108)
  have q0 := heap_alloc_new S (.cells (Value.int .i64 p :: .int .i64 d :: .int .i64 s.a :: .int .i64 s.b :: bools s.ab).toArray 108)
  generalize hY : (g.getD p (0, [])).2.getD d 0 = y at *
  obtain ⟨a, b, ab⟩ := s
  have h8 : ab.length = 8 := hs.ab
  obtain ⟨y0, y1, y2, y3, y4, y5, y6, y7, rfl⟩ := eight h8
  simp only [codeR, bools, List.map_cons, List.map_nil] at HD q0 hb
  have HUU := Lib.hid (show ∀ W (h : Ctr g u m C M1 M2 pa pc wa wc ls W) (k : Nat) (hdl : d < (g.getD p (0, [])).2.length) (hk : k ≤ b - a), Calls Try.prog 67 #[.pointer (some ⟨C, 0, none⟩), .agg #[.int .i64 p, .int .i64 d, .int .i64 a, .int .i64 b, .bool y0, .bool y1, .bool y2, .bool y3, .bool y4, .bool y5, .bool y6, .bool y7], .int .i64 k] W _ from HU.out)
  simp only at hle hhi HN
  have HC := Lib.hid (hc.below hb)
  have HQ := Lib.hid q0
  have HB := Lib.hid (KeptD.of (M1 := M1) (M2 := M2) hb)
  unfold codeR bools
  simp only [List.map_cons, List.map_nil]
  clear hnum ihT ihK hb q0 hs h8 hc ok hF hG hY hd hp HU
  go_enter Try.func65, Try.ntmps65
  go_upto_region 1 with fail
  generalize S.alloc (.cells #[.int .i64 p, .int .i64 d, .int .i64 a, .int .i64 b, .bool y0, .bool y1, .bool y2, .bool y3, .bool y4, .bool y5, .bool y6, .bool y7] 108) = S1 at *
  have l0 := heap_lt HQ.out
  generalize S.heap.size = B at *
  obtain ⟨r0, r1, r2, r3, r4, r5, r6, r7, r8, r9, r10, r11, _⟩ := rowD_cells HQ.out
  go_upto_if 12 with (go_at_call 66; (with_reducible refine (HD.out _ HC.out).mono ?_); rintro e w2 ⟨rfl, hb2⟩)
  have HK2 := Lib.hid (HB.out.below hb2)
  have HC2 := Lib.hid (HC.out.below hb2)
  have HQ2 := Lib.hid ((hb2.block _ l0).trans HQ.out)
  clear r0 r1 r2 r3 r4 r5 r6 r7 r8 r9 r10 r11 hb2 HB HC HQ l0 HD
  obtain ⟨r0, r1, r2, r3, r4, r5, r6, r7, r8, r9, r10, r11, l0⟩ := rowD_cells HQ2.out
  by_cases hdl : (g.getD p (0, [])).2.length ≤ d
  · have HN2 := Lib.hid (HN.out.trans (if_pos hdl))
    have hdb : dnB g p d = true := decide_eq_true hdl
    rw [hdb]
    clear hdb HN
    by_cases hab : a = b
    · have e1 : ((a : Int) == (b : Int)) = true := beq_iff_eq.2 (by omega)
      have HN3 := Lib.hid (HN2.out.trans (if_pos hab))
      clear hab
      go_wp2
      go_ret
      exact ⟨⟨1, by omega, HN3.out.symm, rfl⟩, HK2.out, HC2.out⟩
    · have e1 : ((a : Int) == (b : Int)) = false := beq_eq_false_iff_ne.2 (by omega)
      have HN3 := Lib.hid (HN2.out.trans (if_neg hab))
      clear hab
      go_wp2
      go_ret
      exact ⟨⟨0, by omega, by rw [HN3.out]; simp, rfl⟩, HK2.out, HC2.out⟩
  · have HN2 := Lib.hid (HN.out.trans (if_neg hdl))
    have hdb : dnB g p d = false := decide_eq_false hdl
    have HDL := Lib.hid (show d < (g.getD p (0, [])).2.length by omega)
    rw [hdb]
    clear hdb hdl HN
    obtain ⟨n0, hn0⟩ : ∃ n0 : Nat, b - a = n0 := ⟨_, rfl⟩
    have hba : (b : Int) - (a : Int) = (n0 : Int) := by omega
    have hwr0 : IntKind.i64.wrap ((b : Int) - (a : Int)) = (n0 : Int) := by rw [hba]; exact IntWalk.i64_in _ (by omega)
    have hn12 : n0 ≤ 12 := by omega
    have HN0 := Lib.hid hn0
    have HBA := Lib.hid (show b = a + n0 by omega)
    rw [hn0] at HN2
    clear hn0 hba
    go_upto_region 7 with fail
    clear r0 r1 r2 r3 r4 r5 r6 r7 r8 r9 r10 r11
    go_loopw [5, 6] (fun n i wr => ∃ k nn : Nat, k ≤ n0 + 1 ∧ n = .int .i64 nn ∧ i = .int .i64 k ∧ nn ≤ 50000 ∧ Hid (nn = sumTo k fun i => F i * G i) ∧ Hid (KeptD M1 M2 S wr) ∧ Hid (Ctr g u m C M1 M2 pa pc wa wc ls wr) ∧ Hid (wr.heap[B]? = some (.cells #[.int .i64 p, .int .i64 d, .int .i64 a, .int .i64 b, .bool y0, .bool y1, .bool y2, .bool y3, .bool y4, .bool y5, .bool y6, .bool y7] 108))) (fun _ i _ => n0 + 1 - (intOf i).toNat)
    case atStart => exact ⟨0, 0, by omega, rfl, rfl, by omega, Lib.hid rfl, HK2, HC2, HQ2⟩
    case round =>
      obtain ⟨k, nn, hk, rfl, rfl, hnn, HNN, HKR, HCR, HQR⟩ := hrel
      clear HK2 HC2 HQ2
      obtain ⟨c0, c1, c2, c3, c4, lc⟩ := HCR.out.five
      obtain ⟨r0, r1, r2, r3, r4, r5, r6, r7, r8, r9, r10, r11, l0⟩ := rowD_cells HQR.out
      by_cases hkl : k ≤ n0
      · have e1 : (k : Int) ≤ (n0 : Int) := by omega
        by_cases hnm : nn < m
        · have e2 : (nn : Int) < (m : Int) := by omega
          have hk2 : k ≤ b - a := by have := HN0.out; omega
          obtain ⟨f0, f1, f2, f3, f4, f5, f6, f7, hf⟩ := eight (HS.out.fst hk2).ab
          obtain ⟨z0, z1, z2, z3, z4, z5, z6, z7, hz⟩ := eight (HS.out.snd hk2).ab
          have hfe : fst_ ⟨a, b, [y0, y1, y2, y3, y4, y5, y6, y7]⟩ k = ⟨a, a + k, [f0, f1, f2, f3, f4, f5, f6, f7]⟩ := by rw [← hf]; rfl
          have hze : snd_ ⟨a, b, [y0, y1, y2, y3, y4, y5, y6, y7]⟩ k = ⟨a + k, b, [z0, z1, z2, z3, z4, z5, z6, z7]⟩ := by rw [← hz]; rfl
          have hu := HUU.out wr HCR.out k HDL.out hk2
          have ht := HT.out k HDL.out hk2
          have hkk := HK.out k HDL.out hk2
          rw [hfe, hze] at hu
          rw [hfe] at ht
          rw [hze] at hkk
          simp only [codeG, codeR, bools, List.map_cons, List.map_nil] at hu ht hkk
          push_cast at ht hkk
          have HU1 := Lib.hid hu
          have HT1 := Lib.hid ht
          have HK1 := Lib.hid hkk
          clear hu ht hkk hfe hze hf hz
          have HKL := Lib.hid hkl
          have hfm := HFM.out k
          have hgm := HGM.out k
          have HSC := Lib.hid (show (sumTo (k + 1) fun i => F i * G i) = nn + F k * G k by rw [sumTo_succ, HNN.out])
          clear hkl hnm hk2
          go_upto_region 10 with (go_at_call 67; (with_reducible refine HU1.out.mono ?_); rintro e w5 ⟨rfl, hb5⟩)
          obtain ⟨hbA, hsA, qA0, qA1⟩ := twin_alloc w5 (.cells #[.int .i64 y, .int .i64 a, .int .i64 ((a : Int) + (k : Int)), .bool f0, .bool f1, .bool f2, .bool f3, .bool f4, .bool f5, .bool f6, .bool f7] 86) (.cells #[.int .i64 p, .int .i64 ((d : Int) + 1), .int .i64 ((a : Int) + (k : Int)), .int .i64 b, .bool z0, .bool z1, .bool z2, .bool z3, .bool z4, .bool z5, .bool z6, .bool z7] 108)
          have HCA := Lib.hid ((HCR.out.below hb5).below hbA)
          have HKA := Lib.hid ((HKR.out.below hb5).below hbA)
          have HQA := Lib.hid ((hbA.block _ (Nat.lt_of_lt_of_le l0 hb5.size)).trans ((hb5.block _ l0).trans HQR.out))
          have HG := Lib.hid qA0
          have HR := Lib.hid qA1
          clear r0 r1 r2 r3 r4 r5 r6 r7 r8 r9 r10 r11 c0 c1 c2 c3 c4 lc hb5 hbA hsA qA0 qA1 HKR HCR HQR HU1
          generalize (w5.alloc (.cells #[.int .i64 y, .int .i64 a, .int .i64 ((a : Int) + (k : Int)), .bool f0, .bool f1, .bool f2, .bool f3, .bool f4, .bool f5, .bool f6, .bool f7] 86)).alloc (.cells #[.int .i64 p, .int .i64 ((d : Int) + 1), .int .i64 ((a : Int) + (k : Int)), .int .i64 b, .bool z0, .bool z1, .bool z2, .bool z3, .bool z4, .bool z5, .bool z6, .bool z7] 108) = W6 at *
          generalize w5.heap.size + 1 = BR at *
          generalize w5.heap.size = BG at *
          obtain ⟨g0, g1, g2, g3, g4, g5, g6, g7, g8, g9, g10, gl⟩ := goalD_cells HG.out
          go_upto_region 11 with (go_at_call 36; (with_reducible refine (HT1.out _ HCA.out).mono ?_); rintro e w7 ⟨rfl, hk7, hc7⟩)
          have HC7 := Lib.hid hc7
          have HK7 := Lib.hid (HKA.out.trans hk7)
          have HQ7 := Lib.hid (HCA.out.keeps hk7 HQA.out)
          have HR7 := Lib.hid (HCA.out.keeps hk7 HR.out)
          clear g0 g1 g2 g3 g4 g5 g6 g7 g8 g9 g10 gl hk7 hc7 HCA HKA HQA HG HR HT1
          by_cases hf0 : F k = 0
          · have e4 : ¬ (0 : Int) < (F k : Int) := by omega
            have HST : Hid (nn = sumTo (k + 1) fun i => F i * G i) := Lib.hid (by rw [HSC.out, hf0]; omega)
            clear hf0
            go_wp2
            exact ⟨⟨k + 1, nn, by have := HKL.out; omega, by go_num, by go_num, by omega, HST, HK7, HC7, HQ7⟩, by have := HKL.out; simp [intOf]; omega⟩
          · have e4 : (0 : Int) < (F k : Int) := by omega
            have hmul : F k * G k ≤ 40000 := Nat.le_trans (Nat.mul_le_mul hfm hgm) (Nat.mul_le_mul hml hml)
            have hmi : ((F k : Int) * (G k : Int)) = ((F k * G k : Nat) : Int) := by push_cast; rfl
            have hw1 : IntKind.i64.wrap ((F k : Int) * (G k : Int)) = (F k : Int) * (G k : Int) := IntWalk.i64_in _ (by rw [hmi]; omega)
            have hw2 : IntKind.i64.wrap ((nn : Int) + (F k : Int) * (G k : Int)) = (nn : Int) + (F k : Int) * (G k : Int) := IntWalk.i64_in _ (by rw [hmi]; omega)
            have HMU := Lib.hid hmul
            clear hf0 hmi hmul
            obtain ⟨r0, r1, r2, r3, r4, r5, r6, r7, r8, r9, r10, r11, l0⟩ := rowD_cells HR7.out
            go_wp2_with (go_at_call 55; (with_reducible refine (HK1.out _ HC7.out).mono ?_); rintro e w8 ⟨rfl, hk8, hc8⟩; have HC8 := Lib.hid hc8; have HK8 := Lib.hid (HK7.out.trans hk8); have HQ8 := Lib.hid (HC7.out.keeps hk8 HQ7.out); clear hk8 hc8)
            exact ⟨⟨k + 1, nn + F k * G k, by have := HKL.out; omega, by push_cast; rfl, by go_num, by have := HMU.out; omega, Lib.hid HSC.out.symm, HK8, HC8, HQ8⟩, by have := HKL.out; simp [intOf]; omega⟩
        · have e2 : ¬ (nn : Int) < (m : Int) := by omega
          have HNM := Lib.hid hnm
          have HKL := Lib.hid hkl
          clear hnm hkl
          go_wp2
          go_ret
          refine ⟨⟨nn, by omega, ?_, rfl⟩, HKR.out, HCR.out⟩
          have h1 := sumTo_mono (fun i => F i * G i) k (n0 + 1 - k)
          rw [show k + (n0 + 1 - k) = n0 + 1 by have := HKL.out; omega] at h1
          rw [HN2.out]
          have := HNN.out; have := HNM.out; omega
      · have e1 : ¬ (k : Int) ≤ (n0 : Int) := by omega
        have HKL := Lib.hid hkl
        clear hkl
        go_wp2
        go_ret
        refine ⟨⟨nn, by omega, ?_, rfl⟩, HKR.out, HCR.out⟩
        rw [HN2.out, HNN.out, show n0 + 1 = k by have := HKL.out; omega]
        omega
end Go.Proofs.Ytgfkkbpnphbdgaa
namespace Go.Proofs.Ytgfkkbpnphbdgaa
open Go.RowKit
open Doc Dr

variable {g : List (Int × List Int)} {u : List Int} {m C M1 M2 pc wc : Nat} {pa wa : Option Addr} {ls : List Lay}
theorem memR_look {S : World} (h : MemR g u m M2 S) {p d : Nat} {s : Spn} (hp : p ≤ 1000000) (hd : d ≤ 1000000) (hs : InD u s) (hul : u.length ≤ 12) :
    ∃ ok : Bool, ∀ W : World, W.heap[M2]? = S.heap[M2]? → (Instr.lookup 102 (.map (some M2)) (codeR (p, d, s)) true).run Try.prog W = .ok (.tuple #[.int .i64 (if ok then ((num m g u (.row p d s) : Nat) : Int) else 0), .bool ok]) W := by
  obtain ⟨f, hf, hv⟩ := h
  have h1 := hs.le
  have h2 := hs.hi
  obtain ⟨l, hl⟩ := codeR_key (p := p) (d0 := d) (s := s) (by omega) (by omega) (by omega) (by omega) hs.ab
  cases e : f (p, d, s) with
  | none => exact ⟨false, fun W hW => by rw [(hf.at hW).look key_row codeR_inj Try.underlying102 (zeroInt W) hl true, e]; rfl⟩
  | some v => exact ⟨true, fun W hW => by rw [(hf.at hW).look key_row codeR_inj Try.underlying102 (zeroInt W) hl true, e, hv _ _ e]; rfl⟩
theorem memR_store {S : World} (h : MemR g u m M2 S) {p d : Nat} {s : Spn} (hp : p ≤ 1000000) (hd : d ≤ 1000000) (hs : InD u s) (hul : u.length ≤ 12) :
    ∃ w', (Instr.mapUpdate 102 (.map (some M2)) (codeR (p, d, s)) (.int .i64 ((num m g u (.row p d s) : Nat) : Int))).run Try.prog S = .ok () w' ∧ MemR g u m M2 w' ∧ S.grownBy w' (some M2) := by
  obtain ⟨f, hf, hv⟩ := h
  have h1 := hs.le
  have h2 := hs.hi
  obtain ⟨l, hl⟩ := codeR_key (p := p) (d0 := d) (s := s) (by omega) (by omega) (by omega) (by omega) hs.ab
  classical
  obtain ⟨w', hr, hm, hg⟩ := hf.store key_row codeR_inj Try.underlying102 hl (.int .i64 ((num m g u (.row p d s) : Nat) : Int))
  refine ⟨w', hr, ⟨_, hm, fun q v hq => ?_⟩, hg⟩
  by_cases e : q = (p, d, s)
  · subst e
    rw [if_pos rfl] at hq
    cases hq; rfl
  · rw [if_neg e] at hq
    exact hv q v hq
theorem jobs_end2 {S w3 w4 : World} (hk : KeptD M1 M2 S w3) (hc : Ctr g u m C M1 M2 pa pc wa wc ls w3) (hm : MemR g u m M2 w4) (hg : w3.drew.grownBy w4 (some M2)) : KeptD M1 M2 S w4 ∧ Ctr g u m C M1 M2 pa pc wa wc ls w4 := by
  have h1 : KeptD M1 M2 w3 w4 := (KeptD.of (⟨rfl, rfl, rfl, Nat.le_refl _, fun _ _ => rfl⟩ : Below w3.heap.size w3 w3.drew)).trans (KeptD.grown2 hg)
  obtain ⟨es, cl, h2⟩ := hc.mg.map
  refine ⟨hk.trans h1, hc.to h1 (hc.mg.at ?_) hm⟩
  exact hg.block M1 (heap_lt h2) (fun e => hc.ne (Option.some.inj e))
set_option maxRecDepth 100000 in
set_option maxHeartbeats 8000000 in
theorem kidRows_of (ok : OkD g u m) (p d : Nat) (s : Spn) (hp : p ≤ 1000000) (hd : d ≤ 1000000) (hs : InD u s)
    (ih : ∀ S, Ctr g u m C M1 M2 pa pc wa wc ls S → Calls Try.prog 65 #[.pointer (some ⟨C, 0, none⟩), codeR (p, d, s)] S (SumEnd g u m C M1 M2 pa pc wa wc ls (.row p d s) S))
    {S : World} (hc : Ctr g u m C M1 M2 pa pc wa wc ls S) :
    Calls Try.prog 55 #[.pointer (some ⟨C, 0, none⟩), codeR (p, d, s)] S (JobEnd g u m C M1 M2 pa pc wa wc ls (.row p d s) S) := by
  have hb := box_belowT S (.cells (Value.int .i64 p :: .int .i64 d :: .int .i64 s.a :: .int .i64 s.b :: bools s.ab).toArray 108)
  have q0 := heap_alloc_new S (.cells (Value.int .i64 p :: .int .i64 d :: .int .i64 s.a :: .int .i64 s.b :: bools s.ab).toArray 108)
  have HC := Lib.hid (hc.below hb)
  obtain ⟨fd, hfd⟩ := memR_look HC.out.mr hp hd hs ok.ul
  have HST := Lib.hid fun W (h : MemR g u m M2 W) => memR_store h hp hd hs ok.ul
  have HI := Lib.hid ih
  have hml := ok.ml
  unfold JobEnd
  have hNm := num_le (g := g) (u := u) (m := m) (.row p d s)
  unfold SumEnd at HI
  generalize hN : num m g u (.row p d s) = N at *
  obtain ⟨a, b, ab⟩ := s
  have h8 : ab.length = 8 := hs.ab
  obtain ⟨y0, y1, y2, y3, y4, y5, y6, y7, rfl⟩ := eight h8
  simp only [codeR, bools, List.map_cons, List.map_nil] at HI hfd HST q0 hb HC
  have HQ := Lib.hid q0
  have HB := Lib.hid (KeptD.of (M1 := M1) (M2 := M2) hb)
  have HFD := Lib.hid hfd
  have hneq : ∀ W : World, (binOp .neq 82 (.agg #[.bool y0, .bool y1, .bool y2, .bool y3, .bool y4, .bool y5, .bool y6, .bool y7]) (.agg #[.bool false, .bool false, .bool false, .bool false, .bool false, .bool false, .bool false, .bool false])).run Try.prog W = .ok (.bool (y0 || y1 || y2 || y3 || y4 || y5 || y6 || y7)) W := fun W => neq8 y0 y1 y2 y3 y4 y5 y6 y7 W
  generalize (y0 || y1 || y2 || y3 || y4 || y5 || y6 || y7) = t at *
  unfold codeR bools
  simp only [List.map_cons, List.map_nil]
  clear hN ih hb q0 hs h8 hc ok hfd hp hd
  go_enter Try.func55, Try.ntmps55
  go_upto_region 1 with fail
  generalize S.alloc (.cells #[.int .i64 p, .int .i64 d, .int .i64 a, .int .i64 b, .bool y0, .bool y1, .bool y2, .bool y3, .bool y4, .bool y5, .bool y6, .bool y7] 108) = S1 at *
  have l0 := heap_lt HQ.out
  generalize S.heap.size = B at *
  obtain ⟨r0, r1, r2, r3, r4, r5, r6, r7, r8, r9, r10, r11, _⟩ := rowD_cells HQ.out
  obtain ⟨c0, c1, c2, c3, c4, lc⟩ := HC.out.five
  go_upto_if 11 with fail
  clear hneq
  cases t
  · go_upto_region 3 with fail
    have hL := fun n => HFD.out (S1.drewN n) rfl
    go_quiet (fail)
    have HKD := Lib.hid (HB.out.drewN nq)
    have HCD := Lib.hid (HC.out.drewN nq)
    have HQD := Lib.hid (show (S1.drewN nq).heap[B]? = some (.cells #[.int .i64 p, .int .i64 d, .int .i64 a, .int .i64 b, .bool y0, .bool y1, .bool y2, .bool y3, .bool y4, .bool y5, .bool y6, .bool y7] 108) from HQ.out)
    clear r0 r1 r2 r3 r4 r5 r6 r7 r8 r9 r10 r11 c0 c1 c2 c3 c4 lc l0 hL HFD HQ HC HB
    generalize S1.drewN nq = S2 at *
    cases fd
    · go_upto_region 5 with fail
      obtain ⟨r0, r1, r2, r3, r4, r5, r6, r7, r8, r9, r10, r11, l0⟩ := rowD_cells HQD.out
      obtain ⟨c0, c1, c2, c3, c4, lc⟩ := HCD.out.five
      have HCE := Lib.hid (show Ctr g u m C M1 M2 pa pc wa wc ls S2.drew from HCD.out.below ⟨rfl, rfl, rfl, Nat.le_refl _, fun _ _ => rfl⟩)
      have HQE := Lib.hid (show S2.drew.heap[B]? = some (.cells #[.int .i64 p, .int .i64 d, .int .i64 a, .int .i64 b, .bool y0, .bool y1, .bool y2, .bool y3, .bool y4, .bool y5, .bool y6, .bool y7] 108) from HQD.out)
      have HKE := Lib.hid (HKD.out.trans (KeptD.of (M1 := M1) (M2 := M2) (⟨rfl, rfl, rfl, Nat.le_refl _, fun _ _ => rfl⟩ : Below S2.heap.size S2 S2.drew)))
      go_region_with (first | (go_at_call 65; (with_reducible refine (HI.out _ HCE.out).mono ?_); rintro e w3 ⟨⟨n, hn, hnm, rfl⟩, hk3, hc3⟩; have hmin : (if m < n then (m : Int) else (n : Int)) = (N : Int) := (by rw [← hnm]; split <;> omega); have HC3 := Lib.hid hc3; have HK3 := Lib.hid (HKE.out.trans hk3); have HQ3 := Lib.hid (HCE.out.keeps hk3 HQE.out); have hm3 := hc3.five.2.2.1; have lc3 := heap_lt hc3.blk; clear hk3 hc3))
      all_goals
        simp only [Act.put, List.setIfInBounds_toArray, List.set_cons_succ, List.set_cons_zero, List.getElem_toArray, List.getElem_cons_succ, List.getElem_cons_zero, hmin]
        clear hmin hm3 lc3 r0 r1 r2 r3 r4 r5 r6 r7 r8 r9 r10 r11 c0 c1 c2 c3 c4 lc l0 hnm
        go_upto_region 6 with fail
        obtain ⟨r0, r1, r2, r3, r4, r5, r6, r7, r8, r9, r10, r11, l0⟩ := rowD_cells HQ3.out
        obtain ⟨c0, c1, c2, c3, c4, lc⟩ := HC3.out.five
        obtain ⟨w4, hr4, hm4, hg4⟩ := HST.out w3.drew (HC3.out.mr.at rfl)
        have HE := Lib.hid (jobs_end2 HK3.out HC3.out hm4 hg4)
        clear hm4 hg4
        go_region
        all_goals
          go_wp2
          go_ret
          exact ⟨rfl, HE.out⟩
    · go_wp2
      go_ret
      exact ⟨rfl, HKD.out, HCD.out⟩
  · go_upto_region 2 with fail
    have HCE := Lib.hid (show Ctr g u m C M1 M2 pa pc wa wc ls S1.drew from HC.out.below ⟨rfl, rfl, rfl, Nat.le_refl _, fun _ _ => rfl⟩)
    have HKE := Lib.hid (HB.out.trans (KeptD.of (M1 := M1) (M2 := M2) (⟨rfl, rfl, rfl, Nat.le_refl _, fun _ _ => rfl⟩ : Below S1.heap.size S1 S1.drew)))
    go_region_with (first | (go_at_call 65; (with_reducible refine (HI.out _ HCE.out).mono ?_); rintro e w3 ⟨⟨n, hn, hnm, rfl⟩, hk3, hc3⟩; have hmin : (if m < n then (m : Int) else (n : Int)) = (N : Int) := (by rw [← hnm]; split <;> omega); have HC3 := Lib.hid hc3; have HK3 := Lib.hid (HKE.out.trans hk3); have hm3 := hc3.five.2.2.1; have lc3 := heap_lt hc3.blk; clear hk3 hc3))
    all_goals
      simp only [Act.put, List.setIfInBounds_toArray, List.set_cons_succ, List.set_cons_zero, List.getElem_toArray, List.getElem_cons_succ, List.getElem_cons_zero, hmin]
      clear hmin
      go_wp2
      go_ret
      exact ⟨rfl, HK3.out, HC3.out⟩
theorem getD_mem {l : List Int} {d : Nat} (h : d < l.length) : l.getD d 0 ∈ l := by
  rw [List.getD_eq_getElem?_getD, List.getElem?_eq_getElem h]
  exact List.getElem_mem h
/-- All four, however deep. -/
theorem jobs_all (ok : OkD g u m) : ∀ (n : Nat),
    (∀ (x : Int) (s : Spn), -1000000 ≤ x ∧ x < 108 → InD u s → mu g (.goal x s) ≤ n → ∀ S, Ctr g u m C M1 M2 pa pc wa wc ls S → Calls Try.prog 36 #[.pointer (some ⟨C, 0, none⟩), codeG (x, s)] S (JobEnd g u m C M1 M2 pa pc wa wc ls (.goal x s) S)) ∧
    (∀ (p d : Nat) (s : Spn), p < g.length → d ≤ (g.getD p (0, [])).2.length → InD u s → mu g (.row p d s) ≤ n → ∀ S, Ctr g u m C M1 M2 pa pc wa wc ls S → Calls Try.prog 55 #[.pointer (some ⟨C, 0, none⟩), codeR (p, d, s)] S (JobEnd g u m C M1 M2 pa pc wa wc ls (.row p d s) S)) := by
  intro n
  induction n using Nat.strongRecOn with
  | ind n ih =>
    have key : ∀ (k : Nat), k < g.length → ∀ y ∈ (g.getD k (0, [])).2, -1000000 ≤ y ∧ y < 108 := fun k hk y hy => by
      rw [List.getD_eq_getElem?_getD, List.getElem?_eq_getElem hk] at hy
      exact ok.syms _ (List.getElem_mem hk) y hy
    refine ⟨fun x s hx hs hm S hS => ?_, fun p d s hp hd hs hm S hS => ?_⟩
    · refine trees_of ok x s hx hs (fun S hS => sumProds_of ok x s hx hs (fun k hk ha S hS => ?_) hS) hS
      have h1 := mu_row g (k := k) hs.ab (ok.six.len k) (sym_in ok.six hk) ha
      exact (ih _ (Nat.lt_of_lt_of_le h1 hm)).2 k 0 _ (mem_prodsOf.1 hk).1 (Nat.zero_le _) (hs.with x) (Nat.le_refl _) S hS
    · have h6 := ok.six.len p
      have hgl := ok.len
      refine kidRows_of ok p d s (by omega) (by omega) hs (fun S hS => sumCuts_of ok p d s hp hd hs (fun i hdl hi S hS => ?_) (fun i hdl hi S hS => ?_) hS) hS
      · have h1 := mu_fst g (p := p) (d := d) (y := (g.getD p (0, [])).2.getD d 0) hs.ab hi hs.le
        refine (ih _ (Nat.lt_of_lt_of_le h1 hm)).1 _ _ (key p hp _ ?_) (hs.fst hi) (Nat.le_refl _) S hS
        exact getD_mem hdl
      · have h1 := mu_snd g (p := p) (d := d) hs.ab h6 hdl hi hs.le
        exact (ih _ (Nat.lt_of_lt_of_le h1 hm)).2 p (d + 1) _ hp hdl (hs.snd hi) (Nat.le_refl _) S hS
theorem trees_any (ok : OkD g u m) (x : Int) (s : Spn) (hx : -1000000 ≤ x ∧ x < 108) (hs : InD u s) {S : World} (hc : Ctr g u m C M1 M2 pa pc wa wc ls S) :
    Calls Try.prog 36 #[.pointer (some ⟨C, 0, none⟩), codeG (x, s)] S (JobEnd g u m C M1 M2 pa pc wa wc ls (.goal x s) S) := (jobs_all ok _).1 x s hx hs (Nat.le_refl _) S hc
theorem kidRows_any (ok : OkD g u m) (p d : Nat) (s : Spn) (hp : p < g.length) (hd : d ≤ (g.getD p (0, [])).2.length) (hs : InD u s) {S : World} (hc : Ctr g u m C M1 M2 pa pc wa wc ls S) :
    Calls Try.prog 55 #[.pointer (some ⟨C, 0, none⟩), codeR (p, d, s)] S (JobEnd g u m C M1 M2 pa pc wa wc ls (.row p d s) S) := (jobs_all ok _).2 p d s hp hd hs (Nat.le_refl _) S hc
end Go.Proofs.Ytgfkkbpnphbdgaa
