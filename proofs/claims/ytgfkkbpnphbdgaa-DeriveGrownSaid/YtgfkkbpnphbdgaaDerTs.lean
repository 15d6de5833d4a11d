/- derive: tree, where addKids is as it should be; and both, by induction. derive: Trees. -/
import Derived.Test.YtgfkkbpnphbdgaaDerJ
set_option linter.unusedVariables false
set_option linter.unusedSimpArgs false
namespace Go.Proofs.Ytgfkkbpnphbdgaa
open Go.RowKit
open Doc Dr

variable {g : List (Int × List Int)} {u : List Int} {m C M1 M2 pc wc : Nat} {pa wa : Option Addr} {ls : List Lay}
def KQt (GX PB RX : Nat) (G P R : Array Value) (w' : World) : Prop := w'.heap[GX]? = some (.cells G 86) ∧ w'.heap[PB]? = some (.cells P 63) ∧ w'.heap[RX]? = some (.cells R 108)
theorem KeptR.drop {r : Option Nat} {W W' : World} (h : KeptR M1 M2 r W W') (hr : ∀ x, r = some x → W.heap.size ≤ x) : KeptD M1 M2 W W' := ⟨h.os, h.tape, h.output, h.size, fun k hk h1 h2 => h.block k hk h1 h2 (fun e => by have := hr k e.symm; omega)⟩
theorem ne_maps {W : World} {k : Nat} {cs : Array Value} {ty : TypeId} (h : Ctr g u m C M1 M2 pa pc wa wc ls W) (hk : W.heap[k]? = some (.cells cs ty)) : k ≠ M1 ∧ k ≠ M2 := by
  obtain ⟨_, _, h1⟩ := h.mg.map
  obtain ⟨_, _, h2⟩ := h.mr.map
  constructor
  · rintro rfl; rw [h1] at hk; cases hk
  · rintro rfl; rw [h2] at hk; cases hk
theorem cell_kept {W W' : World} {r : Option Nat} {k : Nat} {cs : Array Value} {ty : TypeId} (h : Ctr g u m C M1 M2 pa pc wa wc ls W) (hk : W.heap[k]? = some (.cells cs ty)) (hr : KeptR M1 M2 r W W') (hx : ∀ x, r = some x → k < x) : W'.heap[k]? = some (.cells cs ty) :=
  (hr.block k (heap_lt hk) (ne_maps h hk).1 (ne_maps h hk).2 (fun e => by have := hx k e.symm; omega)).trans hk
theorem kqt_kept {W W' : World} {r : Option Nat} {GX PB RX B : Nat} {G P R : Array Value} (h : Ctr g u m C M1 M2 pa pc wa wc ls W) (hk : KQt GX PB RX G P R W) (hr : KeptR M1 M2 r W W') (hx : ∀ x, r = some x → B ≤ x) (hB : GX < B ∧ PB < B ∧ RX < B) : KQt GX PB RX G P R W' :=
  ⟨cell_kept h hk.1 hr (fun x e => by have := hx x e; omega), cell_kept h hk.2.1 hr (fun x e => by have := hx x e; omega), cell_kept h hk.2.2 hr (fun x e => by have := hx x e; omega)⟩
theorem kqt_set {W : World} {GX PB RX : Nat} {G P R : Array Value} (h : KQt GX PB RX G P R W) (h1 : GX + 1 < PB) (h2 : GX + 1 < RX) (u0 u1 u2 : Value) : KQt GX PB RX G P R (((W.setCell ⟨GX + 1, 0, none⟩ u0).setCell ⟨GX + 1, 1, none⟩ u1).setCell ⟨GX + 1, 2, none⟩ u2) :=
  ⟨(store3_far _ _ _ _ (by omega)).trans h.1, (store3_far _ _ _ _ (by omega)).trans h.2.1, (store3_far _ _ _ _ (by omega)).trans h.2.2⟩
set_option maxRecDepth 100000 in
/-- How a tree is handed out. -/
theorem tree_end {W F0 : World} {t : Tl} {B x : Int} {s : Spn} {q : Nat} (hc : Ctr g u m C M1 M2 pa pc wa wc ls W) (hk : KeptD M1 M2 W F0) (hc0 : Ctr g u m C M1 M2 pa pc wa wc ls F0)
    (hq : F0.heap[W.heap.size + 1]? = some (.cells #[.int .i64 0, .int .i64 0, .slice none 0 0] 39)) (hl : Lies (fun b => W.heap.size ≤ b ∧ b ≠ W.heap.size + 1) F0 t) (hp : [t.plain] = (all g u (.goal x s)).getD q [])
    (a : Act) (ha : a.tmps.getD 6 undef = .pointer (some ⟨W.heap.size + 1, 0, none⟩)) (hd : a.defers = []) :
    bodyPost Try.prog Try.f38 (TreeEndD g u m C M1 M2 pa pc wa wc ls x s q W) .ret a (((F0.setCell ⟨W.heap.size + 1, 0, none⟩ (.int .i64 t.sym)).setCell ⟨W.heap.size + 1, 1, none⟩ (.int .i64 t.prod)).setCell ⟨W.heap.size + 1, 2, none⟩ (.slice t.a t.kids.length t.c)) := by
  have hst := store3 hq (.int .i64 t.sym) (.int .i64 t.prod) (.slice t.a t.kids.length t.c)
  have hfar := fun k hk => store3_far (w := F0) (b := W.heap.size + 1) (.int .i64 t.sym) (.int .i64 t.prod) (.slice t.a t.kids.length t.c) k hk
  have hlow := hc.low
  have hsz : (((F0.setCell ⟨W.heap.size + 1, 0, none⟩ (.int .i64 t.sym)).setCell ⟨W.heap.size + 1, 1, none⟩ (.int .i64 t.prod)).setCell ⟨W.heap.size + 1, 2, none⟩ (.slice t.a t.kids.length t.c)).heap.size = F0.heap.size := by simp [World.setCell]
  have hkept : KeptR M1 M2 (some (W.heap.size + 1)) F0 (((F0.setCell ⟨W.heap.size + 1, 0, none⟩ (.int .i64 t.sym)).setCell ⟨W.heap.size + 1, 1, none⟩ (.int .i64 t.prod)).setCell ⟨W.heap.size + 1, 2, none⟩ (.slice t.a t.kids.length t.c)) :=
    ⟨rfl, rfl, rfl, by omega, fun k hk h1 h2 h3 => hfar k (fun e => h3 (by rw [e]))⟩
  generalize ((F0.setCell ⟨W.heap.size + 1, 0, none⟩ (.int .i64 t.sym)).setCell ⟨W.heap.size + 1, 1, none⟩ (.int .i64 t.prod)).setCell ⟨W.heap.size + 1, 2, none⟩ (.slice t.a t.kids.length t.c) = F at *
  have hkd : KeptD M1 M2 W F := ⟨hkept.os.trans hk.os, hkept.tape.trans hk.tape, hkept.output.trans hk.output, Nat.le_trans hk.size hkept.size, fun k h1 h2 h3 => (hfar k (by omega)).trans (hk.block k h1 h2 h3)⟩
  refine bodyPost_ret (v := .agg #[.int .i64 t.sym, .int .i64 t.prod, .slice t.a t.kids.length t.c]) ?_ hd ⟨t, rfl, hl.keep (by omega) (fun b hb _ => hfar b hb.2) (fun b hb _ => hb.1), hp, hkd, hc.to hkd (hc0.mg.at (hfar _ (by omega))) (hc0.mr.at (hfar _ (by omega)))⟩
  rw [results_cell1 (p := 6) (ty := 39) rfl, ha]
  show ((asAddr (.pointer (some ⟨W.heap.size + 1, 0, none⟩))).run _ _).andThen _ = _
  exact run_loadVar_row _ (W.heap.size + 1) 39 39 _ (0, 0) _ hst Try.underlying39 rfl (by kernel_rfl)
set_option maxRecDepth 100000 in
set_option maxHeartbeats 16000000 in
theorem tree_of (ok : OkD g u m) (x : Int) (s : Spn) (hx : -1000000 ≤ x ∧ x < 108) (hs : InD u s)
    (ihK : ∀ k, k ∈ prodsOf g x → hasA s.ab x = false → ∀ (q B : Nat) (a' : Option Addr) (c' : Nat) W, q < m → q < (all g u (.row k 0 ⟨s.a, s.b, withA s.ab x⟩)).length → B ≤ W.heap.size → CtrB g u m C M1 M2 pa pc wa wc ls B W → KidsD B W (.slice a' 0 c') [] → Calls Try.prog 56 #[.pointer (some ⟨C, 0, none⟩), .slice a' 0 c', codeR (k, 0, ⟨s.a, s.b, withA s.ab x⟩), .int .i64 q] W (KidsEndD g u m C M1 M2 pa pc wa wc ls B (Value.slice a' 0 c').ownBlock [] k 0 ⟨s.a, s.b, withA s.ab x⟩ q W))
    {S : World} (q0 : Nat) (hq : q0 < m) (hql : q0 < (all g u (.goal x s)).length) (hc : Ctr g u m C M1 M2 pa pc wa wc ls S) :
    Calls Try.prog 38 #[.pointer (some ⟨C, 0, none⟩), codeG (x, s), .int .i64 q0] S (TreeEndD g u m C M1 M2 pa pc wa wc ls x s q0 S) := by
  have hall := all_goal g u ok.six (sym := x) (s := s) ⟨hs.ab, hs.le⟩
  have hnh : hasA s.ab x = false := by
    cases h : hasA s.ab x with
    | false => rfl
    | true => rw [hall, if_pos h] at hql; simp at hql
  rw [if_neg (by rw [hnh]; simp)] at hall
  have HLF := Lib.hid fun W (h : Ctr g u m C M1 M2 pa pc wa wc ls W) => lf_any h ok.ul x s hs
  have HU := Lib.hid fun (k : Nat) (h0 : 100 ≤ x) W => dunder_any x s k hs.ab h0 hx.2 W
  have HRN := Lib.hid fun (k : Nat) (hk : k < g.length) W (hW : Ctr g u m C M1 M2 pa pc wa wc ls W) => kidRows_any ok k 0 ⟨s.a, s.b, withA s.ab x⟩ hk (Nat.zero_le _) (hs.with x) hW
  have HKK := Lib.hid fun k hk => ihK k hk hnh
  have hml := ok.ml
  have hgl := ok.len
  have HOK := Lib.hid ok
  have hll : ls.length = g.length := by rw [← hc.eq, List.length_map]
  have HLL := Lib.hid hll
  have hls : ls.length ≤ 1000 := by omega
  obtain ⟨hbS, hsS, qg, qt⟩ := twin_alloc S (.cells (Value.int .i64 x :: .int .i64 s.a :: .int .i64 s.b :: bools s.ab).toArray 86) (.cells #[.int .i64 0, .int .i64 0, .slice none 0 0] 39)
  have HALL := Lib.hid hall
  have HQL := Lib.hid hql
  have HC0 := Lib.hid hc
  obtain ⟨a, b, ab⟩ := s
  have h8 : ab.length = 8 := hs.ab
  obtain ⟨y0, y1, y2, y3, y4, y5, y6, y7, rfl⟩ := eight h8
  obtain ⟨z0, z1, z2, z3, z4, z5, z6, z7, hz⟩ := eight (withA_len h8 x)
  simp only [codeG, bools, List.map_cons, List.map_nil] at HLF HU qg qt hbS
  have HC := Lib.hid (hc.below hbS)
  have HQ := Lib.hid qg
  have HT := Lib.hid qt
  have HB := Lib.hid (KeptD.of (M1 := M1) (M2 := M2) hbS)
  have HZ := Lib.hid hz
  unfold codeG bools
  simp only [List.map_cons, List.map_nil]
  clear hall ihK hbS hsS qg qt hs h8 hc ok hgl hll hql hnh hz
  go_enter Try.func38, Try.ntmps38
  go_upto_region 1 with fail
  generalize (S.alloc (.cells #[.int .i64 x, .int .i64 a, .int .i64 b, .bool y0, .bool y1, .bool y2, .bool y3, .bool y4, .bool y5, .bool y6, .bool y7] 86)).alloc (.cells #[.int .i64 0, .int .i64 0, .slice none 0 0] 39) = S1 at *
  generalize hGX : S.heap.size = GX at *
  have HGX := Lib.hid hGX
  clear hGX
  obtain ⟨r0, r1, r2, r3, r4, r5, r6, r7, r8, r9, r10, l0⟩ := goalD_cells HQ.out
  go_upto_if 13 with (go_at_call 53; (with_reducible refine (HLF.out _ HC.out).mono ?_); rintro e w2 ⟨rfl, hb2⟩)
  have HK2 := Lib.hid (HB.out.below hb2)
  have HC2 := Lib.hid (HC.out.below hb2)
  have HQ2 := Lib.hid ((hb2.block _ (heap_lt HQ.out)).trans HQ.out)
  have HT2 := Lib.hid ((hb2.block _ (heap_lt HT.out)).trans HT.out)
  clear r0 r1 r2 r3 r4 r5 r6 r7 r8 r9 r10 l0 hb2 HB HC HQ HT HLF
  by_cases hlf : b = a + 1 ∧ u[a]? = some x
  · have hdb : lfB u x ⟨a, b, [y0, y1, y2, y3, y4, y5, y6, y7]⟩ = true := decide_eq_true hlf
    rw [hdb]
    have HA1 := Lib.hid (HALL.out.trans (if_pos hlf))
    obtain ⟨r0, r1, r2, r3, r4, r5, r6, r7, r8, r9, r10, l0⟩ := goalD_cells HQ2.out
    obtain ⟨t0, s0⟩ := blk_cell (i := 0) HT2.out rfl
    obtain ⟨t1, s1⟩ := blk_cell (i := 1) HT2.out rfl
    obtain ⟨t2, s2⟩ := blk_cell (i := 2) HT2.out rfl
    have lt := heap_lt HT2.out
    clear hdb hlf
    go_wp2
    have hE := tree_end (t := .mk x (-1) none 0 []) (B := 0) (q := q0) (x := x) (s := ⟨a, b, [y0, y1, y2, y3, y4, y5, y6, y7]⟩) HC0.out HK2.out HC2.out (by rw [HGX.out]; exact HT2.out) (.mk (.inl rfl) (by simp) (fun h => absurd rfl h) (fun k hk => by cases hk)) (by
      have h1 := HQL.out
      rw [HA1.out] at h1 ⊢
      obtain rfl : q0 = 0 := by simpa using h1
      rw [Tl.plain_mk]; rfl)
    rw [HGX.out] at hE
    exact hE _ rfl rfl
  · have hdb : lfB u x ⟨a, b, [y0, y1, y2, y3, y4, y5, y6, y7]⟩ = false := decide_eq_false hlf
    rw [hdb]
    have HA1 := Lib.hid ((HALL.out.trans (if_neg hlf)).trans (gTail_all g u (x := x) (s := ⟨a, b, withA [y0, y1, y2, y3, y4, y5, y6, y7] x⟩)).symm)
    clear hdb hlf HALL
    obtain ⟨c0, c1, c2, c3, c4, lc⟩ := HC2.out.five
    go_upto_region 4 with fail
    clear c0 c1 c2 c3 c4 lc
    go_loopw [2, 22] (fun pv iv wr => ∃ q k : Nat, pv = .int .i64 q ∧ iv = .int .i64 k ∧ k ≤ ls.length ∧ q ≤ q0 ∧ Hid (q < (gTail g u x ⟨a, b, withA [y0, y1, y2, y3, y4, y5, y6, y7] x⟩ k).length ∧ (gTail g u x ⟨a, b, withA [y0, y1, y2, y3, y4, y5, y6, y7] x⟩ k).getD q [] = (all g u (.goal x ⟨a, b, [y0, y1, y2, y3, y4, y5, y6, y7]⟩)).getD q0 []) ∧ Hid (KeptD M1 M2 S wr) ∧ Hid (Ctr g u m C M1 M2 pa pc wa wc ls wr) ∧ Hid (wr.heap[GX]? = some (.cells #[.int .i64 x, .int .i64 a, .int .i64 b, .bool y0, .bool y1, .bool y2, .bool y3, .bool y4, .bool y5, .bool y6, .bool y7] 86)) ∧ Hid (wr.heap[GX + 1]? = some (.cells #[.int .i64 0, .int .i64 0, .slice none 0 0] 39))) (fun _ iv _ => ls.length - (intOf iv).toNat)
    case atStart => exact ⟨q0, 0, rfl, rfl, by omega, by omega, Lib.hid ⟨by rw [← HA1.out]; exact HQL.out, by rw [← HA1.out]⟩, HK2, HC2, HQ2, HT2⟩
    case round =>
      obtain ⟨q, k, rfl, rfl, hk, hqq, HQT, HKR, HCR, HQR, HTR⟩ := hrel
      clear HK2 HC2 HQ2 HT2
      by_cases hkl : k < ls.length
      · obtain ⟨pq, hpq, hpe, hpm⟩ := lay_of HCR.out (show k < g.length by have := HLL.out; omega)
        obtain ⟨b1, o1, rfl, hb1, hcc⟩ := HCR.out.prods.get (by intro e; have := (lays_at ls k _ hpq).1; rw [e] at this; simp at this)
        have x0 := hcc _ _ (lays_at ls k _ hpq).1
        have x1 := hcc _ _ (lays_at ls k _ hpq).2
        rw [← Nat.add_assoc] at x1
        obtain ⟨pl, pr, pra, prc⟩ := pq
        simp only at x0 x1 hpe
        have e1 : (k : Int) < ls.length := by omega
        have hkg : k < g.length := by have := HLL.out; omega
        have HSTEP := Lib.hid (gTail_step g u (x := x) (s := ⟨a, b, withA [y0, y1, y2, y3, y4, y5, y6, y7] x⟩) hkg)
        have hpr6 : pr.length ≤ 6 := by have := HOK.out.six.len k; rw [hpe] at this; exact this
        obtain ⟨c0, c1, c2, c3, c4, lc⟩ := HCR.out.five
        have hbp := box_belowT wr (.cells #[.int .i64 pl, .slice pra pr.length prc] 63)
        have HQP := Lib.hid (heap_alloc_new wr (.cells #[.int .i64 pl, .slice pra pr.length prc] 63))
        have HKW := Lib.hid (HKR.out.below hbp)
        have HCW := Lib.hid (HCR.out.below hbp)
        have HQW := Lib.hid ((hbp.block _ (heap_lt HQR.out)).trans HQR.out)
        have HTW := Lib.hid ((hbp.block _ (heap_lt HTR.out)).trans HTR.out)
        have HPE := Lib.hid hpe
        have HKL := Lib.hid hkl
        have HKG := Lib.hid hkg
        have HPBT := Lib.hid (show GX + 1 < wr.heap.size from heap_lt HTR.out)
        clear hpq hpm hcc hbp hpe HKR HCR HQR HTR c1 c3 c4 c2
        go_upto_region 6 with fail
        generalize wr.alloc (.cells #[.int .i64 pl, .slice pra pr.length prc] 63) = W2 at *
        generalize wr.heap.size = PB at *
        clear x0 x1 c0 lc hb1 hkg hkl
        have p0 := (blk_cell (i := 0) HQP.out rfl).1
        have p1 := (blk_cell (i := 1) HQP.out rfl).1
        have lp := heap_lt HQP.out
        obtain ⟨r0, r1, r2, r3, r4, r5, r6, r7, r8, r9, r10, l0⟩ := goalD_cells HQW.out
        by_cases hpx : pl = x
        · have e3 : (pl == x) = true := beq_iff_eq.2 hpx
          have e4 : (pl != x) = false := by rw [bne, e3]; rfl
          have hmem : k ∈ prodsOf g x := mem_prodsOf.2 ⟨HKG.out, by rw [HPE.out]; exact hpx⟩
          have h100 : 100 ≤ x := (Dr.sym_in HOK.out.six hmem).1
          have hu := HU.out k h100
          have hrn := HRN.out k HKG.out
          have hkk := HKK.out k hmem
          have HOFP := Lib.hid (show ofP g u x ⟨a, b, withA [y0, y1, y2, y3, y4, y5, y6, y7] x⟩ k = (all g u (.row k 0 ⟨a, b, withA [y0, y1, y2, y3, y4, y5, y6, y7] x⟩)).map fun ks => [.mk x k ks] by unfold ofP; rw [HPE.out, if_pos hpx])
          have hNY := num_all m g u (.row k 0 ⟨a, b, withA [y0, y1, y2, y3, y4, y5, y6, y7] x⟩)
          unfold JobEnd at hrn
          unfold KidsEndD at hkk
          rw [hNY] at hrn
          generalize hAY : all g u (.row k 0 ⟨a, b, withA [y0, y1, y2, y3, y4, y5, y6, y7] x⟩) = AY at *
          obtain ⟨ny, hny⟩ : ∃ ny, min m AY.length = ny := ⟨_, rfl⟩
          rw [hny] at hrn
          rw [HZ.out] at hu hrn hkk
          simp only [codeR, bools, List.map_cons, List.map_nil] at hu hrn hkk
          push_cast at hu hrn hkk
          have HUK := Lib.hid hu
          have HRK := Lib.hid hrn
          have HKKK := Lib.hid hkk
          have HNY := Lib.hid hny
          have HQM := Lib.hid (show q < m by omega)
          have hnym : ny ≤ 200 := by omega
          have HPX := Lib.hid hpx
          clear hpx hmem hu hrn hkk hNY hAY hny
          go_upto_region 8 with (go_at_call 54; (with_reducible refine (HUK.out _).mono ?_); rintro e w5 ⟨rfl, hb5⟩)
          have hbR := box_belowT w5 (.cells #[.int .i64 k, .int .i64 0, .int .i64 a, .int .i64 b, .bool z0, .bool z1, .bool z2, .bool z3, .bool z4, .bool z5, .bool z6, .bool z7] 108)
          have HRX := Lib.hid (heap_alloc_new w5 (.cells #[.int .i64 k, .int .i64 0, .int .i64 a, .int .i64 b, .bool z0, .bool z1, .bool z2, .bool z3, .bool z4, .bool z5, .bool z6, .bool z7] 108))
          have HC6 := Lib.hid ((HCW.out.below hb5).below hbR)
          have HK6 := Lib.hid ((HKW.out.below hb5).below hbR)
          have HQ6 := Lib.hid ((hbR.block _ (Nat.lt_of_lt_of_le (heap_lt HQW.out) hb5.size)).trans ((hb5.block _ (heap_lt HQW.out)).trans HQW.out))
          have HT6 := Lib.hid ((hbR.block _ (Nat.lt_of_lt_of_le (heap_lt HTW.out) hb5.size)).trans ((hb5.block _ (heap_lt HTW.out)).trans HTW.out))
          have HP6 := Lib.hid ((hbR.block _ (Nat.lt_of_lt_of_le (heap_lt HQP.out) hb5.size)).trans ((hb5.block _ (heap_lt HQP.out)).trans HQP.out))
          have HLR := Lib.hid (show GX + 1 < w5.heap.size from Nat.lt_of_lt_of_le (heap_lt HTW.out) hb5.size)
          clear r0 r1 r2 r3 r4 r5 r6 r7 r8 r9 r10 l0 p0 p1 lp hb5 hbR HCW HKW HQW HTW HQP HUK
          generalize w5.alloc (.cells #[.int .i64 k, .int .i64 0, .int .i64 a, .int .i64 b, .bool z0, .bool z1, .bool z2, .bool z3, .bool z4, .bool z5, .bool z6, .bool z7] 108) = W6 at *
          generalize w5.heap.size = RX at *
          obtain ⟨k0, k1, k2, k3, k4, k5, k6, k7, k8, k9, k10, k11, l0⟩ := rowD_cells HRX.out
          go_upto_region 9 with (go_at_call 55; (with_reducible refine (HRK.out _ HC6.out).mono ?_); rintro e w7 ⟨rfl, hk7, hc7⟩)
          have HC7 := Lib.hid hc7
          have HK7 := Lib.hid (HK6.out.trans hk7)
          have HQ7 := Lib.hid (HC6.out.keeps hk7 HQ6.out)
          have HT7 := Lib.hid (HC6.out.keeps hk7 HT6.out)
          have HP7 := Lib.hid (HC6.out.keeps hk7 HP6.out)
          have HR7 := Lib.hid (HC6.out.keeps hk7 HRX.out)
          clear k0 k1 k2 k3 k4 k5 k6 k7 k8 k9 k10 k11 l0 hk7 hc7 HC6 HK6 HQ6 HT6 HP6 HRX HRK
          by_cases hlt : q < ny
          · have e2 : (q : Int) < (ny : Int) := by omega
            have hqy : q < AY.length := by have := HNY.out; omega
            have HFIN := Lib.hid (show ∀ (kp : List Tr), kp = AY.getD q [] → [Tr.mk x k kp] = (all g u (.goal x ⟨a, b, [y0, y1, y2, y3, y4, y5, y6, y7]⟩)).getD q0 [] from fun kp h => by
              have h3 := HQT.out.2
              rw [HSTEP.out, HOFP.out, List.getD_eq_getElem?_getD, List.getElem?_append_left (by rw [List.length_map]; exact hqy), List.getElem?_map, List.getElem?_eq_getElem hqy] at h3
              rw [← h3, h, List.getD_eq_getElem?_getD, List.getElem?_eq_getElem hqy]; rfl)
            have HKQ : Hid (∀ w', Hid (KQt GX PB RX #[.int .i64 x, .int .i64 a, .int .i64 b, .bool y0, .bool y1, .bool y2, .bool y3, .bool y4, .bool y5, .bool y6, .bool y7] #[.int .i64 pl, .slice pra pr.length prc] #[.int .i64 k, .int .i64 0, .int .i64 a, .int .i64 b, .bool z0, .bool z1, .bool z2, .bool z3, .bool z4, .bool z5, .bool z6, .bool z7] w') → ((w'.cell? ⟨GX, 0, none⟩ = some (.int .i64 x) ∧ (w'.cell? ⟨PB, 0, none⟩ = some (.int .i64 pl) ∧ w'.cell? ⟨PB, 1, none⟩ = some (.slice pra pr.length prc)) ∧ (w'.cell? ⟨RX, 0, none⟩ = some (.int .i64 k) ∧ w'.cell? ⟨RX, 1, none⟩ = some (.int .i64 0) ∧ w'.cell? ⟨RX, 2, none⟩ = some (.int .i64 a) ∧ w'.cell? ⟨RX, 3, none⟩ = some (.int .i64 b) ∧ w'.cell? ⟨RX, 4, none⟩ = some (.bool z0) ∧ w'.cell? ⟨RX, 5, none⟩ = some (.bool z1) ∧ w'.cell? ⟨RX, 6, none⟩ = some (.bool z2) ∧ w'.cell? ⟨RX, 7, none⟩ = some (.bool z3) ∧ w'.cell? ⟨RX, 8, none⟩ = some (.bool z4) ∧ w'.cell? ⟨RX, 9, none⟩ = some (.bool z5) ∧ w'.cell? ⟨RX, 10, none⟩ = some (.bool z6) ∧ w'.cell? ⟨RX, 11, none⟩ = some (.bool z7))) ∧ (GX < w'.heap.size ∧ PB < w'.heap.size ∧ RX < w'.heap.size)) ∧ Hid (KQt GX PB RX #[.int .i64 x, .int .i64 a, .int .i64 b, .bool y0, .bool y1, .bool y2, .bool y3, .bool y4, .bool y5, .bool y6, .bool y7] #[.int .i64 pl, .slice pra pr.length prc] #[.int .i64 k, .int .i64 0, .int .i64 a, .int .i64 b, .bool z0, .bool z1, .bool z2, .bool z3, .bool z4, .bool z5, .bool z6, .bool z7] w')) := Lib.hid fun w' h => by
              obtain ⟨h0, _, _, _, _, _, _, _, _, _, _, h11⟩ := goalD_cells h.out.1
              obtain ⟨j0, j1, j2, j3, j4, j5, j6, j7, j8, j9, j10, j11, j12⟩ := rowD_cells h.out.2.2
              exact ⟨⟨⟨h0, ⟨(blk_cell (i := 0) h.out.2.1 rfl).1, (blk_cell (i := 1) h.out.2.1 rfl).1⟩, ⟨j0, j1, j2, j3, j4, j5, j6, j7, j8, j9, j10, j11⟩⟩, h11, heap_lt h.out.2.1, j12⟩, h⟩
            have HC8 := Lib.hid (HC7.out.below (S' := w7.drew) ⟨rfl, rfl, rfl, Nat.le_refl _, fun _ _ => rfl⟩)
            have HK8 := Lib.hid (HK7.out.below (w' := w7.drew) ⟨rfl, rfl, rfl, Nat.le_refl _, fun _ _ => rfl⟩)
            have HKQ8 : Hid (KQt GX PB RX #[.int .i64 x, .int .i64 a, .int .i64 b, .bool y0, .bool y1, .bool y2, .bool y3, .bool y4, .bool y5, .bool y6, .bool y7] #[.int .i64 pl, .slice pra pr.length prc] #[.int .i64 k, .int .i64 0, .int .i64 a, .int .i64 b, .bool z0, .bool z1, .bool z2, .bool z3, .bool z4, .bool z5, .bool z6, .bool z7] w7.drew) := Lib.hid ⟨HQ7.out, HP7.out, HR7.out⟩
            have HT8 : Hid (w7.drew.heap[GX + 1]? = some (.cells #[.int .i64 0, .int .i64 0, .slice none 0 0] 39)) := HT7
            have HGW := Lib.hid (growT_any pr.length hpr6 w7.drew)
            have HQY := Lib.hid (show q < m ∧ q < AY.length from ⟨HQM.out, hqy⟩)
            have HLW := Lib.hid (show GX + 1 < w7.drew.heap.size from heap_lt HT7.out)
            clear hlt hqy
            go_upto_region 10 with fail
            go_region_held3 (fun w' => ((w'.cell? ⟨GX, 0, none⟩ = some (.int .i64 x) ∧ (w'.cell? ⟨PB, 0, none⟩ = some (.int .i64 pl) ∧ w'.cell? ⟨PB, 1, none⟩ = some (.slice pra pr.length prc)) ∧ (w'.cell? ⟨RX, 0, none⟩ = some (.int .i64 k) ∧ w'.cell? ⟨RX, 1, none⟩ = some (.int .i64 0) ∧ w'.cell? ⟨RX, 2, none⟩ = some (.int .i64 a) ∧ w'.cell? ⟨RX, 3, none⟩ = some (.int .i64 b) ∧ w'.cell? ⟨RX, 4, none⟩ = some (.bool z0) ∧ w'.cell? ⟨RX, 5, none⟩ = some (.bool z1) ∧ w'.cell? ⟨RX, 6, none⟩ = some (.bool z2) ∧ w'.cell? ⟨RX, 7, none⟩ = some (.bool z3) ∧ w'.cell? ⟨RX, 8, none⟩ = some (.bool z4) ∧ w'.cell? ⟨RX, 9, none⟩ = some (.bool z5) ∧ w'.cell? ⟨RX, 10, none⟩ = some (.bool z6) ∧ w'.cell? ⟨RX, 11, none⟩ = some (.bool z7))) ∧ (GX < w'.heap.size ∧ PB < w'.heap.size ∧ RX < w'.heap.size)) ∧ Hid (KQt GX PB RX #[.int .i64 x, .int .i64 a, .int .i64 b, .bool y0, .bool y1, .bool y2, .bool y3, .bool y4, .bool y5, .bool y6, .bool y7] #[.int .i64 pl, .slice pra pr.length prc] #[.int .i64 k, .int .i64 0, .int .i64 a, .int .i64 b, .bool z0, .bool z1, .bool z2, .bool z3, .bool z4, .bool z5, .bool z6, .bool z7] w')) (first | exact HKQ.out _ (by assumption) | exact HKQ.out _ (Lib.hid (kqt_set HKQ10.out HPBT.out HLR.out _ _ _))) (first
              | (go_at_call 57; (with_reducible refine HGW.out.mono ?_); rintro e w9 ⟨a1, c1, rfl, ho1, hb1⟩; have HC9 := Lib.hid (HC8.out.below hb1); have HK9 := Lib.hid (HK8.out.below hb1); have HKQ9 : Hid (KQt GX PB RX #[.int .i64 x, .int .i64 a, .int .i64 b, .bool y0, .bool y1, .bool y2, .bool y3, .bool y4, .bool y5, .bool y6, .bool y7] #[.int .i64 pl, .slice pra pr.length prc] #[.int .i64 k, .int .i64 0, .int .i64 a, .int .i64 b, .bool z0, .bool z1, .bool z2, .bool z3, .bool z4, .bool z5, .bool z6, .bool z7] w9) := Lib.hid ⟨(hb1.block _ (heap_lt HKQ8.out.1)).trans HKQ8.out.1, (hb1.block _ (heap_lt HKQ8.out.2.1)).trans HKQ8.out.2.1, (hb1.block _ (heap_lt HKQ8.out.2.2)).trans HKQ8.out.2.2⟩; have HT9 := Lib.hid ((hb1.block _ (heap_lt HT8.out)).trans HT8.out); have HB9 := Lib.hid hb1.size; have HCB9 := Lib.hid ((HC8.out.atB).to ((KeptD.of (M1 := M1) (M2 := M2) hb1).row none) (fun x hx => by cases hx) HC9.out.mg HC9.out.mr); have HKD9 := Lib.hid (⟨ho1, fun t ht => by cases ht⟩ : KidsD w7.drew.heap.size w9 (.slice a1 0 c1) []); have HOB := Lib.hid (show ∀ x, (Value.slice a1 0 c1).ownBlock = some x → w7.drew.heap.size ≤ x from fun x hx => (own_block ho1 hx).1); have HKN := Lib.hid (HKKK.out q w7.drew.heap.size a1 c1 w9 HQY.out.1 HQY.out.2 hb1.size HCB9.out HKD9.out); clear ho1 hb1)
              | (go_at_call 56; (with_reducible refine HKN.out.mono ?_); rintro e w10 ⟨a2, c2, kt, rfl, hkd2, hpl2, hkr2, hcb2⟩; have HKQ10 : Hid (KQt GX PB RX #[.int .i64 x, .int .i64 a, .int .i64 b, .bool y0, .bool y1, .bool y2, .bool y3, .bool y4, .bool y5, .bool y6, .bool y7] #[.int .i64 pl, .slice pra pr.length prc] #[.int .i64 k, .int .i64 0, .int .i64 a, .int .i64 b, .bool z0, .bool z1, .bool z2, .bool z3, .bool z4, .bool z5, .bool z6, .bool z7] w10) := Lib.hid (kqt_kept HC9.out HKQ9.out hkr2 HOB.out ⟨heap_lt HKQ8.out.1, heap_lt HKQ8.out.2.1, heap_lt HKQ8.out.2.2⟩); have HT10 := Lib.hid (cell_kept HC9.out HT9.out hkr2 (fun x hx => by have h1 := HOB.out x hx; have h2 := HLW.out; omega)); obtain ⟨t0, s0⟩ := blk_cell (i := 0) HT10.out rfl; obtain ⟨t1, s1⟩ := blk_cell (i := 1) HT10.out rfl; obtain ⟨t2, s2⟩ := blk_cell (i := 2) HT10.out rfl; have lt10 := heap_lt HT10.out; have HE10 := Lib.hid (⟨hkd2, hpl2, hkr2, hcb2⟩ : _ ∧ _ ∧ _ ∧ _); clear hkd2 hpl2 hkr2 hcb2))
            all_goals
              go_wp2
              obtain ⟨hkd2, hpl2, hkr2, hcb2⟩ := HE10.out
              have hsz : S.heap.size + 1 < w7.drew.heap.size := by have := HLW.out; have := HGX.out; omega
              have hE := tree_end (t := .mk x k a2 c2 kt) (q := q0) (x := x) (s := ⟨a, b, [y0, y1, y2, y3, y4, y5, y6, y7]⟩) (B := 0) HC0.out (((HK9.out.row _).trans hkr2).drop (fun y hy => by have := HOB.out y hy; omega)) hcb2.ctr (by rw [HGX.out]; exact HT10.out)
                (.mk (own_cells hkd2.own).1 (own_cells hkd2.own).2 (fun _ y hy => by subst hy; have h1 := hkd2.low y.block (by simp [Value.ownBlock]); exact ⟨by omega, by omega⟩) (fun s hs => (hkd2.kids s hs).weak fun b hb _ => ⟨by have := hb.1; omega, by have := hb.1; omega⟩))
                (by rw [Tl.plain_mk]; exact HFIN.out _ hpl2)
              rw [HGX.out] at hE
              exact hE _ rfl rfl
          · have e2 : ¬ (q : Int) < (ny : Int) := by omega
            obtain ⟨v1, v2⟩ := cut_ge1 (x := AY.length) HQM.out (by rw [HNY.out]; exact hlt)
            rw [HNY.out] at v1
            have hsub : (q : Int) - (ny : Int) = ((q - ny : Nat) : Int) := by omega
            have hw2 : IntKind.i64.wrap ((q : Int) - (ny : Int)) = ((q - ny : Nat) : Int) := by rw [hsub]; exact IntWalk.i64_in _ (by omega)
            have HNEW := Lib.hid (show q - ny < (gTail g u x ⟨a, b, withA [y0, y1, y2, y3, y4, y5, y6, y7] x⟩ (k + 1)).length ∧ (gTail g u x ⟨a, b, withA [y0, y1, y2, y3, y4, y5, y6, y7] x⟩ (k + 1)).getD (q - ny) [] = (all g u (.goal x ⟨a, b, [y0, y1, y2, y3, y4, y5, y6, y7]⟩)).getD q0 [] by
              obtain ⟨h1, h2⟩ := HQT.out
              rw [HSTEP.out, HOFP.out] at h1 h2
              rw [List.length_append, List.length_map] at h1
              rw [List.getD_eq_getElem?_getD, List.getElem?_append_right (by rw [List.length_map]; exact v2), List.length_map] at h2
              rw [v1]
              exact ⟨by omega, by rw [List.getD_eq_getElem?_getD]; exact h2⟩)
            clear hlt v1 v2 hsub
            go_wp2
            exact ⟨⟨q - ny, k + 1, rfl, by go_num, by have := HKL.out; omega, by omega, HNEW, HK7, HC7, HQ7, HT7⟩, by have := HKL.out; simp [intOf]; omega⟩
        · have e3 : (pl == x) = false := beq_eq_false_iff_ne.2 hpx
          have e4 : (pl != x) = true := by rw [bne, e3]; rfl
          have HNEW := Lib.hid (show q < (gTail g u x ⟨a, b, withA [y0, y1, y2, y3, y4, y5, y6, y7] x⟩ (k + 1)).length ∧ (gTail g u x ⟨a, b, withA [y0, y1, y2, y3, y4, y5, y6, y7] x⟩ (k + 1)).getD q [] = (all g u (.goal x ⟨a, b, [y0, y1, y2, y3, y4, y5, y6, y7]⟩)).getD q0 [] by
            have h1 := HQT.out
            rw [HSTEP.out, show ofP g u x ⟨a, b, withA [y0, y1, y2, y3, y4, y5, y6, y7] x⟩ k = [] by unfold ofP; rw [HPE.out, if_neg hpx], List.nil_append] at h1
            exact h1)
          clear hpx
          go_wp2
          exact ⟨⟨q, k + 1, rfl, by go_num, by have := HKL.out; omega, by omega, HNEW, HKW, HCW, HQW, HTW⟩, by have := HKL.out; simp [intOf]; omega⟩
      · have h1 := HQT.out.1
        rw [gTail_end g u (by have := HLL.out; omega)] at h1
        simp at h1
/-- Both, however deep. -/
theorem finds_all (ok : OkD g u m) : ∀ (n : Nat),
    (∀ (x : Int) (s : Spn), -1000000 ≤ x ∧ x < 108 → InD u s → mu g (.goal x s) ≤ n → ∀ (q : Nat) W, q < m → q < (all g u (.goal x s)).length → Ctr g u m C M1 M2 pa pc wa wc ls W → Calls Try.prog 38 #[.pointer (some ⟨C, 0, none⟩), codeG (x, s), .int .i64 q] W (TreeEndD g u m C M1 M2 pa pc wa wc ls x s q W)) ∧
    (∀ (p d : Nat) (s : Spn), p < g.length → d ≤ (g.getD p (0, [])).2.length → InD u s → mu g (.row p d s) ≤ n → ∀ (q B : Nat) (a' : Option Addr) (c' : Nat) (ks : List Tl) W, q < m → q < (all g u (.row p d s)).length → B ≤ W.heap.size → CtrB g u m C M1 M2 pa pc wa wc ls B W → KidsD B W (.slice a' ks.length c') ks → ks.length ≤ d → Calls Try.prog 56 #[.pointer (some ⟨C, 0, none⟩), .slice a' ks.length c', codeR (p, d, s), .int .i64 q] W (KidsEndD g u m C M1 M2 pa pc wa wc ls B (Value.slice a' ks.length c').ownBlock ks p d s q W)) := by
  intro n
  induction n using Nat.strongRecOn with
  | ind n ih =>
    have key : ∀ (k : Nat), k < g.length → ∀ y ∈ (g.getD k (0, [])).2, -1000000 ≤ y ∧ y < 108 := fun k hk y hy => by
      rw [List.getD_eq_getElem?_getD, List.getElem?_eq_getElem hk] at hy
      exact ok.syms _ (List.getElem_mem hk) y hy
    refine ⟨fun x s hx hs hm q W hq hl hW => ?_, fun p d s hp hd hs hm q B a' c' ks W hq hl hB hC hK hkd => ?_⟩
    · refine tree_of ok x s hx hs (fun k hk ha q B a' c' W hq hl hB hC hK => ?_) q hq hl hW
      have h1 := mu_row g (k := k) hs.ab (ok.six.len k) (Dr.sym_in ok.six hk) ha
      exact (ih _ (Nat.lt_of_lt_of_le h1 hm)).2 k 0 _ (mem_prodsOf.1 hk).1 (Nat.zero_le _) (hs.with x) (Nat.le_refl _) q B a' c' [] W hq hl hB hC hK (Nat.le_refl _)
    · have h6 := ok.six.len p
      refine addKids_of ok p d s hp hd hs (fun i hdl hi q W hq hl hW => ?_) (fun i hdl hi q B a' c' ks W hq hl hB hC hK hkd => ?_) q a' c' ks hq hl hB hC hK hkd
      · have h1 := mu_fst g (p := p) (d := d) (y := (g.getD p (0, [])).2.getD d 0) hs.ab hi hs.le
        exact (ih _ (Nat.lt_of_lt_of_le h1 hm)).1 _ _ (key p hp _ (getD_mem hdl)) (hs.fst hi) (Nat.le_refl _) q W hq hl hW
      · have h1 := mu_snd g (p := p) (d := d) hs.ab h6 hdl hi hs.le
        exact (ih _ (Nat.lt_of_lt_of_le h1 hm)).2 p (d + 1) _ hp hdl (hs.snd hi) (Nat.le_refl _) q B a' c' ks W hq hl hB hC hK hkd
theorem tree_any (ok : OkD g u m) (x : Int) (s : Spn) (hx : -1000000 ≤ x ∧ x < 108) (hs : InD u s) (q : Nat) {W : World} (hq : q < m) (hl : q < (all g u (.goal x s)).length) (hW : Ctr g u m C M1 M2 pa pc wa wc ls W) :
    Calls Try.prog 38 #[.pointer (some ⟨C, 0, none⟩), codeG (x, s), .int .i64 q] W (TreeEndD g u m C M1 M2 pa pc wa wc ls x s q W) := (finds_all ok _).1 x s hx hs (Nat.le_refl _) q W hq hl hW
end Go.Proofs.Ytgfkkbpnphbdgaa

set_option linter.unusedVariables false
set_option linter.unusedSimpArgs false
namespace Go.Proofs.Ytgfkkbpnphbdgaa
open Go.RowKit
open Doc Dr

/-- How Trees ends: the first of all, in their order, in memory of its own. -/
def TreesEnd (g : Gr) (root : Int) (u : List Int) (m : Int) (w : World) (e : Ending) (w' : World) : Prop :=
  if askB g root u m = true then ∃ (a : Option Addr) (c : Nat) (ts : List Tl), e = .returned (.tuple #[.slice a ts.length c, .int .i64 0]) ∧ w'.ownsRow w.heap.size 39 3 (.slice a ts.length c) ts.length (tls ts) ∧ (∀ t ∈ ts, Lies (fun b => w.heap.size ≤ b) w' t) ∧ ts.map (fun t => [t.plain]) = (all g.prods u (wholeJ u root)).take m.toNat
  else e = .returned (.tuple #[.slice none 0 0, .int .i64 1])
variable {g : List (Int × List Int)} {u : List Int} {m C M1 M2 pc wc : Nat} {pa wa : Option Addr} {ls : List Lay}
theorem KidsD.under {B : Nat} {W W' : World} {rv : Value} {ks : List Tl} (h : KidsD B W rv ks) (hb : Below W.heap.size W W') : KidsD B W' rv ks where
  own := own_same h.own fun x hx hl => hb.block x hl
  kids := fun t ht => (h.kids t ht).under hb
set_option maxRecDepth 100000 in
set_option maxHeartbeats 8000000 in
theorem trees_calls (v : Value) (g : Gr) (root : Int) (wa : Option Addr) (wc : Nat) (u : List Int) (m : Int) (w : World) (hg : GramAt w v g) (hm : MidG g) (hr : wideI root) (hu : Cells w wa (nums u)) (hul : u.length ≤ 1000000000000) (huw : ∀ s ∈ u, wideI s) :
    Calls Try.prog 14 #[v, .int .i64 root, .slice wa u.length wc, .int .i64 m] w fun e w' => TreesEnd g root u m w e w' ∧ Below w.heap.size w w' := by
  have HG0 := Lib.hid hg
  obtain ⟨a1, a2, a3, c1, c2, c3, ls, rfl, hp, k1, k2, k3, k4, k5, k6, k7⟩ := hg
  obtain ⟨hbS, hsS, q0⟩ := one_alloc w (.cells #[.slice a1 g.terms.length c1, .slice a2 g.nons.length c2, .slice a3 ls.length c3] 25)
  have HG := Lib.hid (HG0.out.below hbS)
  have HU := Lib.hid (hu.below hbS)
  have HB := Lib.hid hbS
  have HQ := Lib.hid q0
  have HA := Lib.hid fun W (hW : GramAt W (.agg #[.slice a1 g.terms.length c1, .slice a2 g.nons.length c2, .slice a3 ls.length c3]) g) (hU : Cells W wa (nums u)) => asked_any _ g root wa wc u m W hW hm hr hU hul huw
  clear hp k1 k2 k3 k4 k5 k6 k7 HG0 hsS q0 hbS hu huw hr hm
  unfold TreesEnd
  by_cases hA : AskP g root u m
  · obtain ⟨M, rfl⟩ : ∃ M : Nat, m = M := Int.eq_ofNat_of_zero_le hA.2.2.2.1
    have hok := okD_of hA
    rw [Int.toNat_natCast] at hok
    rw [askB_true hA] at *
    have HNC := Lib.hid fun W (hW : GramAt W (.agg #[.slice a1 g.terms.length c1, .slice a2 g.nons.length c2, .slice a3 ls.length c3]) g) (hU : Cells W wa (nums u)) => newCounter_any _ g wa wc u M W hW hU hok.len
    have hw0 := fun W => whole_any root wa wc u W hok.ul
    have HR := Lib.hid (root_in hA)
    have HOK := Lib.hid hok
    have hul12 := hok.ul
    have hml := hok.ml
    simp only [codeG, bools, none8, List.replicate, List.map_cons, List.map_nil] at hw0
    push_cast at hw0
    have HW := Lib.hid hw0
    clear hA hok hw0
    simp only [↓reduceIte, Int.toNat_natCast]
    go_enter Try.func14, Try.ntmps14
    go_upto_region 1 with fail
    generalize w.alloc (.cells #[.slice a1 g.terms.length c1, .slice a2 g.nons.length c2, .slice a3 ls.length c3] 25) = S at *
    have g0 := (blk_cell (i := 0) HQ.out rfl).1
    have g1 := (blk_cell (i := 1) HQ.out rfl).1
    have g2 := (blk_cell (i := 2) HQ.out rfl).1
    have l0 := heap_lt HQ.out
    go_upto_region 3 with (go_at_call 34; (with_reducible refine (HA.out _ HG.out HU.out).mono ?_); rintro e w2 ⟨rfl, hb2⟩)
    have HQ2 := Lib.hid ((hb2.block _ l0).trans HQ.out)
    have HG2 := Lib.hid (HG.out.below hb2)
    have HU2 := Lib.hid (HU.out.below hb2)
    have HB2 := Lib.hid (HB.out.trans (hb2.mono HB.out.size))
    clear g0 g1 g2 l0 hb2
    have g0 := (blk_cell (i := 0) HQ2.out rfl).1
    have g1 := (blk_cell (i := 1) HQ2.out rfl).1
    have g2 := (blk_cell (i := 2) HQ2.out rfl).1
    have l0 := heap_lt HQ2.out
    go_upto_region 6 with (first
      | (go_at_call 35; (with_reducible refine (HNC.out _ HG2.out HU2.out).mono ?_); rintro e w3 ⟨hb3, C, M1, M2, pa, pc, ls', rfl, hc3, hM1, hM2⟩; have HB3 := Lib.hid (HB2.out.trans (hb3.mono HB2.out.size)); have HC3 := Lib.hid hc3; have HM := Lib.hid (⟨Nat.le_trans HB2.out.size hM1, Nat.le_trans HB2.out.size hM2⟩ : w.heap.size ≤ M1 ∧ w.heap.size ≤ M2); clear hc3 hM1 hM2)
      | (go_at_call 37; (with_reducible refine (HW.out _).mono ?_); rintro e w4 ⟨rfl, hb4⟩; have HC4 := Lib.hid (HC3.out.below hb4); have HB4 := Lib.hid (HB3.out.trans (hb4.mono HB3.out.size))))
    have hbX := box_belowT w4 (.cells #[.int .i64 root, .int .i64 0, .int .i64 (u.length : Int), .bool false, .bool false, .bool false, .bool false, .bool false, .bool false, .bool false, .bool false] 86)
    have HQX := Lib.hid (heap_alloc_new w4 (.cells #[.int .i64 root, .int .i64 0, .int .i64 (u.length : Int), .bool false, .bool false, .bool false, .bool false, .bool false, .bool false, .bool false, .bool false] 86))
    have HC5 := Lib.hid (HC4.out.below hbX)
    have HB5 := Lib.hid (HB4.out.trans (hbX.mono HB4.out.size))
    clear g0 g1 g2 l0 hbX
    generalize w4.alloc (.cells #[.int .i64 root, .int .i64 0, .int .i64 (u.length : Int), .bool false, .bool false, .bool false, .bool false, .bool false, .bool false, .bool false, .bool false] 86) = S5 at *
    generalize w4.heap.size = XB at *
    have ht := trees_any HOK.out root ⟨0, u.length, none8⟩ HR.out (inD_whole u) HC5.out
    have hfind := fun (q : Nat) (W : World) (hq : q < M) (hl : q < (all g.prods u (.goal root ⟨0, u.length, none8⟩)).length) (hW : Ctr g.prods u M C M1 M2 pa pc wa wc ls' W) => tree_any HOK.out root ⟨0, u.length, none8⟩ HR.out (inD_whole u) q hq hl hW
    unfold JobEnd at ht
    rw [num_all] at ht
    unfold TreeEndD at hfind
    have HALL := Lib.hid (show all g.prods u (wholeJ u root) = all g.prods u (.goal root ⟨0, u.length, none8⟩) from rfl)
    generalize all g.prods u (.goal root ⟨0, u.length, none8⟩) = AL at *
    obtain ⟨N, hN⟩ : ∃ N, min M AL.length = N := ⟨_, rfl⟩
    rw [hN] at ht
    simp only [codeG, bools, none8, List.replicate, List.map_cons, List.map_nil] at ht hfind
    push_cast at ht hfind
    have HT := Lib.hid ht
    have HFD := Lib.hid hfind
    have HN := Lib.hid hN
    have hN200 : N ≤ 200 := by omega
    clear ht hfind hN
    obtain ⟨r0, r1, r2, r3, r4, r5, r6, r7, r8, r9, r10, l0⟩ := goalD_cells HQX.out
    go_upto_region 7 with (go_at_call 36; (with_reducible refine HT.out.mono ?_); rintro e w6 ⟨rfl, hk6, hc6⟩)
    have HC6 := Lib.hid hc6
    have HB6 := Lib.hid (HB5.out.trans (hk6.out HM.out.1 HM.out.2 HB5.out.size))
    have HQ6 := Lib.hid (HC5.out.keeps hk6 HQX.out)
    clear r0 r1 r2 r3 r4 r5 r6 r7 r8 r9 r10 l0 hk6 hc6 HT
    have HXB := Lib.hid (heap_lt HQ6.out)
    go_loopw [12, 30] (fun lv iv wr => ∃ (k : Nat) (a : Option Addr) (c : Nat) (ts : List Tl), lv = .slice a ts.length c ∧ iv = .int .i64 k ∧ ts.length = k ∧ k ≤ N ∧ Hid (KidsD w6.heap.size wr (.slice a ts.length c) ts) ∧ Hid (CtrB g.prods u M C M1 M2 pa pc wa wc ls' w6.heap.size wr) ∧ Hid (ts.map (fun t => [t.plain]) = AL.take k) ∧ Hid (Below w.heap.size w wr) ∧ Hid (wr.heap[XB]? = some (.cells #[.int .i64 root, .int .i64 0, .int .i64 (u.length : Int), .bool false, .bool false, .bool false, .bool false, .bool false, .bool false, .bool false, .bool false] 86)) ∧ Hid (w6.heap.size ≤ wr.heap.size)) (fun _ iv _ => N - (intOf iv).toNat)
    case atStart => exact ⟨0, none, 0, [], rfl, rfl, rfl, by omega, Lib.hid ⟨World.ownsRow_nil _ _ _ _, fun t ht => by cases ht⟩, Lib.hid HC6.out.atB, Lib.hid rfl, HB6, HQ6, Lib.hid (Nat.le_refl _)⟩
    case round =>
      obtain ⟨k, a, c, ts, rfl, rfl, hlen, hk, HKD, HCB, HPL, HBW, HQR, HSZ⟩ := hrel
      by_cases hkl : k < N
      · obtain ⟨i0, hi0, hz0, hz1, hz2⟩ := info_of infoTq
        have e1 : (k : Int) < N := by omega
        obtain ⟨r0, r1, r2, r3, r4, r5, r6, r7, r8, r9, r10, l0⟩ := goalD_cells HQR.out
        have hkA : k < AL.length := by have := HN.out; omega
        have HFK := Lib.hid (HFD.out k wr (by have := HN.out; omega) hkA HCB.out.ctr)
        have HLEN := Lib.hid hlen
        have hl200 : ts.length ≤ 200 := by omega
        have HKL := Lib.hid hkl
        have HKA := Lib.hid hkA
        clear hlen hkl hkA
        go_wp2_with (first
          | (go_at_call 38; (with_reducible refine HFK.out.mono ?_); rintro e w7 ⟨t, rfl, hl7, hp7, hk7, hc7⟩; have HKD7 := Lib.hid (HKD.out.kept hk7 HCB.out.low.1 HCB.out.low.2); have HCB7 := Lib.hid (HCB.out.to (hk7.row none) (fun x hx => by cases hx) hc7.mg hc7.mr); have HQ7 := Lib.hid (HCB.out.ctr.keeps hk7 HQR.out); have HBW7 := Lib.hid (HBW.out.trans (hk7.out HM.out.1 HM.out.2 HBW.out.size)); have HKA7 := Lib.hid (HKD7.out.under (box_belowT w7 (.cells #[.int .i64 t.sym, .int .i64 t.prod, .slice t.a t.kids.length t.c] 39))); have HCA7 := Lib.hid (HCB7.out.to ((KeptD.of (M1 := M1) (M2 := M2) (box_belowT w7 (.cells #[.int .i64 t.sym, .int .i64 t.prod, .slice t.a t.kids.length t.c] 39))).row none) (fun x hx => by cases hx) (hc7.below (box_belowT w7 (.cells #[.int .i64 t.sym, .int .i64 t.prod, .slice t.a t.kids.length t.c] 39))).mg (hc7.below (box_belowT w7 (.cells #[.int .i64 t.sym, .int .i64 t.prod, .slice t.a t.kids.length t.c] 39))).mr); have HLA7 := Lib.hid (hl7.under (box_belowT w7 (.cells #[.int .i64 t.sym, .int .i64 t.prod, .slice t.a t.kids.length t.c] 39))); have HP7 := Lib.hid hp7; have HS7 := Lib.hid hk7.size; have HR0 := Lib.hid (row_of_own HKD.out); clear hl7 hp7 hk7 hc7)
          | (at_builtin; refine wpList_append_lies _ rfl (.tmp 33) (.tmp 38) 34 rfl w6.heap.size 39 i0 (.agg #[.int .i64 0, .int .i64 0, .slice none 0 0]) 3 40 Try.underlying34 hi0 hz0 hz1 hz2 rfl (by decide) (.slice a ts.length c) ts.length (tls ts) rfl HKA7.out.own ⟨w7.heap.size, 0, none⟩ 1 1 [.int .i64 t.sym, .int .i64 t.prod, .slice t.a t.kids.length t.c] rfl rfl (World.news_of_block (cs := #[.int .i64 t.sym, .int .i64 t.prod, .slice t.a t.kids.length t.c]) (t := 39) (fr := (0, 0)) (heap_alloc_new w7 (.cells #[.int .i64 t.sym, .int .i64 t.prod, .slice t.a t.kids.length t.c] 39))) (by simp [Value.oneCell']) (by decide) (by unfold maxLen; omega) (by omega) (by have h1 := HSZ.out; have h2 := HS7.out; simp; omega) (w7.heap.size + 1) (by simp) ?_; intro gg cap w8 hown8 hgrow8 hat8 hlt8))
        have hkd8 : KidsD w6.heap.size w8 (.slice (some ⟨gg, 0, none⟩) (ts ++ [t]).length cap) (ts ++ [t]) := HKA7.out.grow (W0 := wr) HLA7.out HR0.out HSZ.out (by rw [tls_app]; exact hown8) hgrow8 (by rcases hat8 with h | h; exact .inl h; exact .inr (by rw [h]; simp))
        have hlen2 : (ts ++ [t]).length = ts.length + 1 := by simp
        refine ⟨⟨k + 1, some ⟨gg, 0, none⟩, cap, ts ++ [t], by rw [hlen2], by go_num, by rw [hlen2, HLEN.out], by have := HKL.out; omega, Lib.hid hkd8, Lib.hid (HCA7.out.grow hgrow8 HKA7.out.low), Lib.hid ?_, Lib.hid ((HBW7.out.alloc HBW7.out.size _).grown hgrow8 (by have := HBW7.out.size; simp; omega) (fun x hx => by have h1 := HKA7.out.low x hx; have h2 := HB6.out.size; omega)), Lib.hid ((hgrow8.block XB (Nat.lt_of_lt_of_le (heap_lt HQ7.out) (box_belowT w7 (.cells #[.int .i64 t.sym, .int .i64 t.prod, .slice t.a t.kids.length t.c] 39)).size) (fun e => by have h1 := HKA7.out.low XB e.symm; have h2 := HXB.out; omega)).trans (((box_belowT w7 (.cells #[.int .i64 t.sym, .int .i64 t.prod, .slice t.a t.kids.length t.c] 39)).block _ (heap_lt HQ7.out)).trans HQ7.out)), Lib.hid (Nat.le_trans HSZ.out (Nat.le_trans HS7.out (Nat.le_trans (box_belowT w7 (.cells #[.int .i64 t.sym, .int .i64 t.prod, .slice t.a t.kids.length t.c] 39)).size hgrow8.size)))⟩, by have := HKL.out; simp [intOf]; omega⟩
        rw [List.map_append, HPL.out, List.take_add_one, List.getElem?_eq_getElem HKA.out, List.map_cons, List.map_nil, HP7.out, List.getD_eq_getElem?_getD, List.getElem?_eq_getElem HKA.out]
        rfl
      · have e1 : ¬ (k : Int) < N := by omega
        have HKL := Lib.hid hkl
        have HLEN := Lib.hid hlen
        clear hkl hlen
        go_wp2
        go_ret2
        refine ⟨⟨a, c, ts, rfl, own_base' HKD.out.own HB6.out.size, fun t ht => (HKD.out.kids t ht).weak fun b hb _ => by have h1 := hb.1; have h2 := HB6.out.size; omega, ?_⟩, HBW.out⟩
        rw [HALL.out, HPL.out, show k = N by have := HKL.out; omega, ← HN.out]
        rcases Nat.le_total M AL.length with h | h
        · rw [Nat.min_eq_left h]
        · rw [Nat.min_eq_right h, List.take_length, List.take_of_length_le h]
  · rw [askB_false hA] at *
    clear hA
    go_enter Try.func14, Try.ntmps14
    go_upto_region 1 with fail
    generalize w.alloc (.cells #[.slice a1 g.terms.length c1, .slice a2 g.nons.length c2, .slice a3 ls.length c3] 25) = S at *
    have g0 := (blk_cell (i := 0) HQ.out rfl).1
    have g1 := (blk_cell (i := 1) HQ.out rfl).1
    have g2 := (blk_cell (i := 2) HQ.out rfl).1
    have l0 := heap_lt HQ.out
    go_wp2_with (go_at_call 34; (with_reducible refine (HA.out _ HG.out HU.out).mono ?_); rintro e w2 ⟨rfl, hb2⟩; have HB2 := Lib.hid (HB.out.trans (hb2.mono HB.out.size)))
    go_ret2
    exact ⟨rfl, HB2.out⟩
end Go.Proofs.Ytgfkkbpnphbdgaa
