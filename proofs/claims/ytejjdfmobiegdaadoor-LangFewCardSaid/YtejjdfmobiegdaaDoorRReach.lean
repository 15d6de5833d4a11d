/- The document's own Nullable, Fruitful, Reached, Trim: walked. -/
import Derived.Test.YtejjdfmobiegdaaDoorGS
import Derived.Test.YtejjdfmobiegdaaDoorRaw
import Derived.Laws.MakeOwn
import Derived.Laws.OwnMore
set_option linter.unusedVariables false
namespace Go.Proofs.YtejjdfmobiegdaaDoor
open Go.RowKit
open Doc

/-- A set as a row of truths. -/
def bs (n S : Nat) : List Value := (List.range n).map fun i => Value.bool (S.testBit i)
theorem bs_at {n S i : Nat} (hi : i < n) : (bs n S)[i]? = some (.bool (S.testBit i)) := by
  unfold bs; rw [List.getElem?_map, List.getElem?_range hi]; rfl
theorem bs_set {n S i : Nat} (hi : i < n) (hn : n ≤ 64) : (bs n S).toArray.setIfInBounds i (.bool true) = (bs n (S ||| sdig (i : Int))).toArray := by
  rw [List.setIfInBounds_toArray]
  congr 1
  apply List.ext_getElem?
  intro j
  rw [List.getElem?_set]
  by_cases hj : j < n
  · rw [bs_at hj, bs_at hj, Nat.testBit_or, bit_dig]
    by_cases hij : i = j
    · subst hij
      have hl : i < (bs n S).length := by simp [bs]; exact hi
      rw [if_pos rfl, if_pos hl]
      simp; right; omega
    · rw [if_neg hij]
      have : decide ((i : Int) = (j : Int) ∧ j < 64) = false := by rw [decide_eq_false_iff_not]; omega
      rw [this, Bool.or_false]
  · have h1 : (bs n S)[j]? = none := List.getElem?_eq_none (by simp [bs]; omega)
    have h2 : (bs n (S ||| sdig (i : Int)))[j]? = none := List.getElem?_eq_none (by simp [bs]; omega)
    rw [if_neg (by omega), h1, h2]
theorem infoBool : (Tryd.prog.info? 4).map (fun i => (i.zero, i.size, i.bytes)) = some (some (.bool false), 1, 1) := by kernel_rfl
theorem bs_zero (n : Nat) : bs n 0 = List.replicate n (.bool false) := by
  unfold bs
  simp
  apply List.ext_getElem?
  intro j
  by_cases hj : j < n <;> simp [hj]
theorem make_bools (n : Nat) (hn : n ≤ 1000) (w : World) : (Instr.makeSlice 89 (.int .i64 n) (.int .i64 n)).run Tryd.prog w = .ok (.slice (some ⟨w.heap.size, 0, none⟩) n n) (w.alloc (.cells (bs n 0).toArray 4)) := by
  obtain ⟨i, hi, hz, h1, h2⟩ := info_of infoBool
  have hr := run_make (P := Tryd.prog) w 89 4 i (.bool false) Tryd.underlying89 hi hz .i64 .i64 n n (by omega) (Int.le_refl _) (by rw [h2]; omega) (by omega)
  have e : madeCells (Value.cells (.bool false)) (n * 1) = (bs n 0).toArray := by
    rw [bs_zero, Nat.mul_one]
    apply Array.ext'
    rw [show Value.cells (.bool false) = #[.bool false] from rfl, toList_madeCells_one]
  rw [Int.toNat_natCast, h1, e] at hr
  exact hr
/-- A row of truths as it lies. -/
def BsAt (w : World) (b n S : Nat) : Prop := w.heap[b]? = some (.cells (bs n S).toArray 4)
theorem BsAt.cell {w : World} {b n S : Nat} (h : BsAt w b n S) {i : Nat} (hi : i < n) : w.cell? ⟨b, i, none⟩ = some (.bool (S.testBit i)) ∧ w.frozen? ⟨b, i, none⟩ = false := blk_cell h (by simpa using bs_at hi)
theorem BsAt.set {w : World} {b n S : Nat} (h : BsAt w b n S) {i : Nat} (hi : i < n) (hn : n ≤ 64) : BsAt (w.setCell ⟨b, i, none⟩ (.bool true)) b n (S ||| sdig (i : Int)) := by
  unfold BsAt
  rw [heap_set w b i _ _ _ h (by simp [bs]; exact hi)]
  simp only [Array.set!_eq_setIfInBounds]
  rw [bs_set hi hn]
theorem gsF_snoc {h : List Int → Nat → Bool} {ps : List (Int × List Int)} {k : Nat} {p : Int × List Int} (hp : ps[k]? = some p) (S : Nat) : gsF h (ps.take (k + 1)) S = if h p.2 (gsF h (ps.take k) S) = true then gsF h (ps.take k) S ||| sdig (p.1 - 100) else gsF h (ps.take k) S := by
  unfold gsF
  rw [List.take_add_one, hp]; simp

theorem gsR1_snoc {left : Int} {r : List Int} {k : Nat} {s : Int} (hs : r[k]? = some s) (S : Nat) : gsR1 left (r.take (k + 1)) S = if (decide (100 ≤ s) && shas (gsR1 left (r.take k) S) (left - 100)) = true then gsR1 left (r.take k) S ||| sdig (s - 100) else gsR1 left (r.take k) S := by
  unfold gsR1
  rw [List.take_add_one, hs]; simp
theorem gsR_snoc {ps : List (Int × List Int)} {k : Nat} {p : Int × List Int} (hp : ps[k]? = some p) (S : Nat) : gsR (ps.take (k + 1)) S = gsR1 p.1 p.2 (gsR (ps.take k) S) := by
  unfold gsR
  rw [List.take_add_one, hp]; simp

set_option maxHeartbeats 4000000 in
theorem rfruit_any (b n S : Nat) (left : Int) (pa : Option Addr) (pc : Nat) (pr : List Int) (w : World) (hB : BsAt w b n S) (hc : Cells w pa (nums pr)) (hl : pr.length ≤ 1000) (hps : ∀ s ∈ pr, s < 100 + (n : Int)) (hn : n ≤ 64) :
    Calls Tryd.prog 58 #[.slice (some ⟨b, 0, none⟩) n n, .agg #[.int .i64 left, .slice pa pr.length pc]] w fun e w' => e = .returned (.bool (bearI pr S)) ∧ Below w.heap.size w w' := by
  have hbA := box_below w (.cells #[.int .i64 left, .slice pa pr.length pc] 68)
  have HBA2 : Hid (BsAt (w.alloc (.cells #[.int .i64 left, .slice pa pr.length pc] 68)) b n S) := Lib.hid ((hbA.block b (heap_lt hB)).trans hB)
  have HPR := Lib.hid (hc.below hbA)
  have HBW := Lib.hid hbA
  have HPS := Lib.hid hps
  clear hB hc hps hbA
  go_enter Tryd.func58, Tryd.ntmps58
  go_upto_region 2 with fail
  generalize hW2 : w.alloc (.cells #[.int .i64 left, .slice pa pr.length pc] 68) = W2 at *
  clear hW2
  go_loop [10] (fun i => ∃ m : Nat, m ≤ pr.length ∧ i = .int .i64 m ∧ Hid (bearI (pr.take m) S = true)) (fun i => pr.length - (intOf i).toNat)
  case atStart => exact ⟨0, by omega, rfl, Lib.hid (by simp [bearI])⟩
  case round =>
    obtain ⟨m, hm, rfl, HA⟩ := hrel
    by_cases hml : m < pr.length
    · obtain ⟨s, hs⟩ : ∃ s, pr[m]? = some s := ⟨_, List.getElem?_eq_getElem hml⟩
      obtain ⟨b4, o4, rfl, hb4, hc4⟩ := HPR.out.get (by unfold nums; intro e; rw [List.map_eq_nil_iff] at e; rw [e] at hml; simp at hml)
      have u0 := hc4 m _ (nums_at hs)
      have e3 : (m : Int) < pr.length := by omega
      have hsn := HPS.out s (List.mem_of_getElem? hs)
      have HVS := Lib.hid (bearI_step (S := S) hs)
      have HSS := Lib.hid hs
      clear hc4 hs
      by_cases h100 : 100 ≤ s
      · obtain ⟨i, hi⟩ := Int.eq_ofNat_of_zero_le (show 0 ≤ s - 100 by omega)
        have hin : i < n := by omega
        have hc := (HBA2.out.cell hin).1
        have hbl2 := heap_lt HBA2.out
        have e4 : (i : Int) < n := by omega
        cases hbi : S.testBit i with
        | true =>
          have HV2 := Lib.hid (show bearI (pr.take (m + 1)) S = true by rw [HVS.out, HA.out, hi, shas_bit _ _ (by omega), hbi]; simp)
          rw [hbi] at hc
          clear hbi
          go_wp2
          exact ⟨⟨m + 1, by omega, by go_num, HV2⟩, by simp [intOf]; omega⟩
        | false =>
          have HV2 := Lib.hid (show bearI pr S = false from all_not (h := fun s => decide (s < 100) || shas S (s - 100)) HSS.out (by show (decide (s < 100) || shas S (s - 100)) = false; rw [hi, shas_bit _ _ (by omega), hbi, decide_eq_false (by omega)]; rfl))
          rw [hbi] at hc
          clear hbi
          go_wp2
          go_ret
          exact ⟨ret_bool HV2.out.symm, HBW.out⟩
      · have HV2 := Lib.hid (show bearI (pr.take (m + 1)) S = true by rw [HVS.out, HA.out, decide_eq_true (by omega)]; rfl)
        go_wp2
        exact ⟨⟨m + 1, by omega, by go_num, HV2⟩, by simp [intOf]; omega⟩
    · have e3 : ¬ (m : Int) < pr.length := by omega
      have hfull : bearI pr S = true := by have := HA.out; rwa [List.take_of_length_le (by omega)] at this
      have HF := Lib.hid hfull
      clear hfull
      go_wp2
      go_ret
      exact ⟨ret_bool HF.out.symm, HBW.out⟩

set_option maxRecDepth 100000 in
set_option maxHeartbeats 8000000 in
theorem rfru_any (v : Value) (g : Gr) (w : World) (hg : GramAt w v g) (hck : CheckG g) :
    Calls Tryd.prog 57 #[v] w fun e w' => ∃ b, e = .returned (.slice (some ⟨b, 0, none⟩) g.nons.length g.nons.length) ∧ BsAt w' b g.nons.length (iterG (gsF bearI g.prods) 0 g.nons.length) ∧ Below w.heap.size w w' ∧ w.heap.size ≤ b := by
  obtain ⟨a1, a2, a3, c1, c2, c3, ls, rfl, hp, k1, k2, k3, k4, k5, k6, k7⟩ := hg
  have hS := box_below w (.cells #[.slice a1 g.terms.length c1, .slice a2 g.nons.length c2, .slice a3 ls.length c3] 29)
  have q0 := heap_alloc_new w (.cells #[.slice a1 g.terms.length c1, .slice a2 g.nons.length c2, .slice a3 ls.length c3] 29)
  have H3 := Lib.hid (k3.below hS)
  have H4 := Lib.hid (fun p hp => (k4 p hp).below hS)
  have HQ := Lib.hid q0
  have HP := Lib.hid hp
  have HS := Lib.hid hS
  have HCK := Lib.hid hck
  have hn8 := hck.n8
  have ht8 := hck.t8
  have hn1 := hck.n1
  have hp24 := hck.p24
  have hl0 := heap_lt q0
  have hll : ls.length ≤ 24 := by have : ls.length = g.prods.length := by rw [← hp, List.length_map]
                                  omega
  have y1 := (blk_cell (i := 1) (u := .slice a2 g.nons.length c2) q0 rfl).1
  clear hp k1 k2 k3 k4 hS q0 hck hp24
  have hmk := fun W => make_bools g.nons.length (by omega) W
  go_enter Tryd.func57, Tryd.ntmps57
  go_upto_region 1 with fail
  generalize hS1 : w.alloc (.cells #[.slice a1 g.terms.length c1, .slice a2 g.nons.length c2, .slice a3 ls.length c3] 29) = S1 at *
  clear hS1
  go_upto_region 2 with fail
  have q1 := heap_alloc_new S1 (.cells (bs g.nons.length 0).toArray 4)
  have hb1 := box_below S1 (.cells (bs g.nons.length 0).toArray 4)
  have HQ1 := Lib.hid q1
  have HB1 := Lib.hid hb1
  have y2 := (hb1.cell (p := ⟨w.heap.size, 1, none⟩) hl0).trans y1
  have y3 := Nat.lt_of_lt_of_le hl0 hb1.size
  have hbl : S1.heap.size < (S1.alloc (.cells (bs g.nons.length 0).toArray 4)).heap.size := heap_lt q1
  clear q1 hb1 y1 hmk
  generalize hS2 : S1.alloc (.cells (bs g.nons.length 0).toArray 4) = S2 at *
  clear hS2
  generalize hbe : S1.heap.size = b at *
  have HBE := Lib.hid hbe
  clear hbe
  go_upto_region 3 with fail
  go_loopw [13] (fun i wr => ∃ k : Nat, k ≤ g.nons.length ∧ i = .int .i64 k ∧ Hid (BsAt wr b g.nons.length (iterG (gsF bearI g.prods) 0 k)) ∧ Hid (Below b S2 wr)) (fun i _ => g.nons.length - (intOf i).toNat)
  case atStart => exact ⟨0, by omega, rfl, HQ1, Lib.hid (Below.refl _ _)⟩
  case round =>
    obtain ⟨k, hk, rfl, HBA, HBL⟩ := hrel
    by_cases hlt : k < g.nons.length
    · as_aux_lemma =>
      have e1 : (k : Int) < g.nons.length := by omega
      have hwr : Below b S1 wr := HB1.out.trans HBL.out
      have hq := (hwr.block w.heap.size hl0).trans HQ.out
      have z2 := (blk_cell (i := 2) (u := .slice a3 ls.length c3) hq rfl).1
      have z3 := heap_lt hq
      have HNX : Hid (iterG (gsF bearI g.prods) 0 (k + 1) = gsF bearI (ls.map Lay.plain) (iterG (gsF bearI g.prods) 0 k)) := Lib.hid (by rw [HP.out]; rfl)
      generalize iterG (gsF bearI g.prods) 0 k = S0 at *
      clear hwr hq
      go_upto_region 5 with fail
      go_loopw [18] (fun i wx => ∃ j : Nat, j ≤ ls.length ∧ i = .int .i64 j ∧ Hid (BsAt wx b g.nons.length (gsF bearI ((ls.map Lay.plain).take j) S0)) ∧ Hid (Below b S2 wx)) (fun i _ => ls.length - (intOf i).toNat)
      case atStart => exact ⟨0, by omega, rfl, HBA, HBL⟩
      case round =>
        rename World => wx
        clear z2 z3 HBA HBL
        obtain ⟨j, hj, rfl, HBA, HBL⟩ := hrel
        by_cases hjl : j < ls.length
        · have hwx : Below S1.heap.size S1 wx := by have := HB1.out.trans HBL.out; rwa [← HBE.out] at this
          obtain ⟨p, hp⟩ : ∃ p, ls[j]? = some p := ⟨_, List.getElem?_eq_getElem hjl⟩
          obtain ⟨pl, pr, pa, pc⟩ := p
          have hpm := List.mem_of_getElem? hp
          obtain ⟨b3, o3, rfl, hb3, hc3⟩ := (H3.out.below hwx).get (by intro e; have := (lays_at ls j _ hp).1; rw [e] at this; simp at this)
          have x0 := hc3 _ _ (lays_at ls j _ hp).1
          have x1 := hc3 _ _ (lays_at ls j _ hp).2
          rw [← Nat.add_assoc] at x1
          simp only at x0 x1
          have e2 : (j : Int) < ls.length := by omega
          have hpp : (pl, pr) ∈ g.prods := by rw [← HP.out]; exact List.mem_map_of_mem (f := Lay.plain) hpm
          have hpv := HCK.out.pv _ hpp
          obtain ⟨⟨hpl1, hpl2⟩, hpr6, hps⟩ := hpv
          simp only at hpl1 hpl2 hpr6 hps
          have HPS := Lib.hid hps
          have HST := Lib.hid (gsF_snoc (h := bearI) (show (ls.map Lay.plain)[j]? = some (pl, pr) by rw [List.getElem?_map, hp]; rfl) S0)
          have hbA := box_below wx (.cells #[.int .i64 pl, .slice pa pr.length pc] 68)
          have qA := heap_alloc_new wx (.cells #[.int .i64 pl, .slice pa pr.length pc] 68)
          have HPR := Lib.hid ((show Cells S1 pa (nums pr) from H4.out _ hpm).below (hwx.trans (hbA.mono hwx.size)))
          have HBA2 : Hid (BsAt (wx.alloc (.cells #[.int .i64 pl, .slice pa pr.length pc] 68)) b g.nons.length (gsF bearI ((ls.map Lay.plain).take j) S0)) := Lib.hid ((hbA.block b (heap_lt HBA.out)).trans HBA.out)
          have HBL2 := Lib.hid (HBL.out.trans (hbA.mono (Nat.le_of_lt (heap_lt HBA.out))))
          have z0 := (blk_cell (i := 0) (u := .int .i64 pl) qA rfl).1
          have z1 := (blk_cell (i := 1) (u := .slice pa pr.length pc) qA rfl).1
          have z2 := heap_lt qA
          simp only at HST
          generalize gsF bearI ((ls.map Lay.plain).take j) S0 = SJ at *
          clear hwx hp hpm hc3 hpp hps hbA qA HBA HBL
          go_upto_region 7 with fail
          generalize hW2 : wx.alloc (.cells #[.int .i64 pl, .slice pa pr.length pc] 68) = W2 at *
          clear hW2
          generalize hPBe : wx.heap.size = PB at *
          clear hPBe
          clear x0 x1
          have HFR := Lib.hid (rfruit_any b g.nons.length SJ pl pa pc pr W2 HBA2.out HPR.out (by omega) (fun s hs => by
            have := HPS.out s hs
            unfold symOk at this; omega) (by omega))
          obtain ⟨i, hi⟩ := Int.eq_ofNat_of_zero_le (show 0 ≤ pl - 100 by omega)
          have hin : i < g.nons.length := by omega
          have e4 : (i : Int) < g.nons.length := by omega
          cases hv : bearI pr SJ with
          | true =>
            have HN := Lib.hid fun (W : World) (hW : Below W2.heap.size W2 W) => (show BsAt (W.setCell ⟨b, i, none⟩ (.bool true)) b g.nons.length (gsF bearI ((ls.map Lay.plain).take (j + 1)) S0) by
              rw [HST.out, if_pos hv, hi]
              have h1 : BsAt W b g.nons.length SJ := (hW.block b (heap_lt HBA2.out)).trans HBA2.out
              exact h1.set hin (by omega))
            rw [hv] at HFR
            have HCB := Lib.hid fun (W : World) (hW : Below W2.heap.size W2 W) => (show (W.cell? ⟨b, i, none⟩ = some (.bool (SJ.testBit i)) ∧ W.frozen? ⟨b, i, none⟩ = false) ∧ b < W.heap.size from by
              have h1 : BsAt W b g.nons.length SJ := (hW.block b (heap_lt HBA2.out)).trans HBA2.out
              exact ⟨h1.cell hin, heap_lt h1⟩)
            clear hv
            go_wp2_with (go_at_call 58; refine HFR.out.mono ?_; rintro e w4 ⟨rfl, hb4⟩; obtain ⟨⟨hc, hfr⟩, hbl2⟩ := HCB.out _ hb4; have t0 := (hb4.cell (p := ⟨PB, 0, none⟩) z2).trans z0; have t1 := Nat.lt_of_lt_of_le z2 hb4.size)
            exact ⟨⟨j + 1, by omega, by go_num, Lib.hid (HN.out _ hb4), Lib.hid ((HBL2.out.trans (hb4.mono (Nat.le_of_lt (heap_lt HBA2.out)))).setCell (p := ⟨b, i, none⟩) (Nat.le_refl _) _)⟩, by simp [intOf]; omega⟩
          | false =>
            have HN := Lib.hid fun (W : World) (hW : Below W2.heap.size W2 W) => (show BsAt W b g.nons.length (gsF bearI ((ls.map Lay.plain).take (j + 1)) S0) by
              rw [HST.out, if_neg (by rw [hv]; decide)]
              exact (hW.block b (heap_lt HBA2.out)).trans HBA2.out)
            rw [hv] at HFR
            clear hv
            go_wp2_with (go_at_call 58; refine HFR.out.mono ?_; rintro e w4 ⟨rfl, hb4⟩)
            exact ⟨⟨j + 1, by omega, by go_num, Lib.hid (HN.out _ hb4), Lib.hid (HBL2.out.trans (hb4.mono (Nat.le_of_lt (heap_lt HBA2.out))))⟩, by simp [intOf]; omega⟩
        · have e2 : ¬ (j : Int) < ls.length := by omega
          have hfull : (ls.map Lay.plain).take j = ls.map Lay.plain := List.take_of_length_le (by simp; omega)
          rw [hfull] at HBA
          have HBN := Lib.hid (show BsAt wx b g.nons.length (iterG (gsF bearI g.prods) 0 (k + 1)) by rw [HNX.out]; exact HBA.out)
          clear hfull
          go_wp2
          exact ⟨⟨k + 1, by omega, by go_num, HBN, HBL⟩, by simp [intOf]; omega⟩
    · as_aux_lemma =>
      have e1 : ¬ (k : Int) < g.nons.length := by omega
      obtain rfl : k = g.nons.length := by omega
      have hfin := HS.out.trans ((HB1.out.trans HBL.out).mono (Nat.le_of_lt hl0))
      have HFIN := Lib.hid hfin
      clear hfin
      go_wp2
      go_ret
      exact ⟨b, rfl, HBA.out, HFIN.out, Nat.le_of_lt hl0⟩

end Go.Proofs.YtejjdfmobiegdaaDoor
