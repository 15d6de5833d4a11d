/- lang: addWords, walked: a word that is found; all of them. -/
import Derived.Test.YtejjdfmobiegdaaDoorTrkW2
set_option linter.unusedVariables false
namespace Go.Proofs.YtejjdfmobiegdaaDoor
open Go.RowKit
open Doc

set_option maxRecDepth 100000 in
set_option maxHeartbeats 8000000 in
/-- The word that leads to the last place is put behind the others. -/
theorem addw_here (n : Nat) (P : List Int → Bool) (t most : Nat) (X : Trk) (E : List Nat) (la : Option Addr) (lc : Nat) (R : List RowL) (ba : Option Addr) (bc : Nat) (b : List Int) (w0 w : World) (h9 : X.st.length = 9) (h104 : E.length = 104) (hE : ∀ x ∈ E, x < 8192) (hl : X.last < 13) (hW : WSt w0.heap.size w0 w la lc R ba bc b) (hm : R.length < most) (hR : R.length ≤ 500) (hbit : (E.getD 0 0).testBit X.last = true) (hbl : b.length = X.last) (hP : P b = true) :
    Calls Tryd.prog 46 #[.slice la R.length lc, .agg (trkL (X.wen E)).toArray, .slice ba b.length bc, .int .i64 most] w (AddEnd P t most w0 w la R ba bc 0 b) := by
  obtain ⟨i1, hi1, hy0, hy1, hy2⟩ := info_of infoRow7
  have hQ : TrkQ (w.alloc (.cells (trkL (X.wen E)).toArray 81)) w.heap.size X E := ⟨heap_alloc_new w _, h9, h104⟩
  have hlen := len_trk (X := X.wen E) h9 h104
  have HQ := Lib.hid hQ.q
  have HLEN := Lib.hid hlen
  have HLE := Lib.hid fun W => leads_any X E W h9 h104 hE hl
  have HS := Lib.hid (show Below w.heap.size w (w.alloc (.cells (trkL (X.wen E)).toArray 81)) from (Below.refl _ _).alloc (Nat.le_refl _) _)
  have hy := heap_lt hQ.q
  have HX2 := Lib.hid fun (W : World) (hq : W.heap[w.heap.size]? = some (.cells (trkL (X.wen E)).toArray 81)) => (⟨(blk_cell (w := W) (i := 2) (u := .int .i64 X.last) hq rfl).1, heap_lt hq⟩ : W.cell? ⟨w.heap.size, 2, none⟩ = some (.int .i64 X.last) ∧ w.heap.size < W.heap.size)
  clear hQ hlen
  generalize hZ : trkL (X.wen E) = Z at *
  clear hZ
  have e1 : ¬ (most : Int) ≤ R.length := by omega
  rw [hbit] at HLE
  have HW := Lib.hid hW
  have HWN := Lib.hid (show (Al.wds P t 0 b).take (most - R.length) = [b] by
    rw [Al.wds_zero hP]
    obtain ⟨m, hm2⟩ : ∃ m, most - R.length = m + 1 := ⟨most - R.length - 1, by omega⟩
    rw [hm2]; simp)
  rw [← hbl] at HX2
  have hb13 : b.length < 13 := by omega
  clear hE hbit hW h9 h104 hbl hl hm
  go_enter Tryd.func46, Tryd.ntmps46
  go_upto_region 1 with fail
  generalize w.alloc (.cells Z.toArray 81) = S at *
  generalize hB : w.heap.size = B at *
  have HBE := Lib.hid hB
  clear hB
  go_wp2
  refine wp_load_row 81 (.tmp 5) rfl B rfl 81 _ (0, 0) _ HQ.out Tryd.underlying81 rfl (by rw [infoTrk, List.size_toArray, HLEN.out]) ?_
  go_upto_region 3 with (go_at_call 56; refine (HLE.out _).mono ?_; rintro e w2 ⟨rfl, hb2⟩)
  obtain ⟨z2, z9⟩ := HX2.out w2 ((hb2.block B hy).trans HQ.out)
  have hbw : Below w.heap.size w w2 := by rw [HBE.out]; exact HS.out.trans (hb2.mono (by omega))
  have HB2 := Lib.hid hbw
  have HW2 := Lib.hid (HW.out.later HW.out.below.size hbw)
  have HCL := Lib.hid (cloneI_any ba bc b w2 (own_cells HW2.out.own).1 (by omega) (fun h => HW2.out.nilb h))
  have hz0 : w0.heap.size ≤ w2.heap.size := HW2.out.below.size
  clear hb2 hbw HLE HS hy
  go_upto_region 4 with fail
  go_wp2_with (first
    | (go_at_call 74; (with_reducible refine HCL.out.mono ?_); rintro e w3 ⟨a3, c3, rfl, ho3, hb3⟩
       have HO3 := Lib.hid ho3
       have HB3 := Lib.hid hb3
       have HL3 := Lib.hid ((HW2.out.later hz0 hb3).rows.own.alloc (.cells #[.slice a3 b.length c3] 25))
       have hz3 := hb3.size
       clear ho3 hb3)
    | (at_builtin; refine wpList_append_lies _ rfl (.tmp 25) (.tmp 28) 22 rfl w0.heap.size 25 i1 (.slice none 0 0) 1 24 Tryd.underlying22 hi1 hy0 hy1 hy2 rfl (by decide) _ R.length (rowVs R) rfl HL3.out ⟨w3.heap.size, 0, none⟩ 1 1 [.slice a3 b.length c3] rfl rfl (World.news_of_block (cs := #[.slice a3 b.length c3]) (t := 25) (fr := (0, 0)) (heap_alloc_new w3 _)) (by simp [Value.oneCell']) (by decide) (by unfold maxLen; omega) (by omega) (by simp; omega) _ rfl ?_; intro g5 cap5 w5 hown5 hgrow5 hat5 hlt5; have HO5 := Lib.hid hown5; have HG5 := Lib.hid hgrow5; have HA5 := Lib.hid hat5; clear hown5 hgrow5 hat5))
  go_ret
  have hbA : Below w2.heap.size w2 (w3.alloc (.cells #[.slice a3 b.length c3] 25)) := HB3.out.alloc hz3 _
  have hF := HW2.out.found (w1 := w3.alloc (.cells #[.slice a3 b.length c3] 25)) (r := ⟨a3, c3, b⟩) hz0 hbA ((own_cells HO3.out).1.below ((Below.refl _ _).alloc (Nat.le_refl _) _)) (fun x hx => by
    have hx : a3 = some x := hx
    have h5 := own_block HO3.out (g := x.block) (by rw [hx]; rfl)
    exact ⟨h5.1, by have := h5.2.1; simp; omega⟩) HO5.out HG5.out HA5.out
  exact ⟨some ⟨g5, 0, none⟩, cap5, [⟨a3, c3, b⟩], by rw [List.length_append]; rfl, HWN.out.symm, hF.1, (WTo.later w w2 la ba HB2.out).trans hF.2⟩

set_option maxRecDepth 100000 in
set_option maxHeartbeats 8000000 in
theorem addw_any (ap : Option Addr) (cp : Nat) (ls : List Lay) (t n most : Nat) (w0 : World) (hr : Cells w0 ap (lays ls)) (hrow : ∀ p ∈ ls, Cells w0 p.addr (nums p.right)) (hp : ∀ X : Trk, X.ls = ls → LaysOk X) (ht : t ≤ 8) (hn : n ≤ 6) (hm : most ≤ 500) (hls : ls.length ≤ 1000000) (hT : Tab32 w0) :
    ∀ (k : Nat) (b : List Int) (X : Trk) (E : List Nat) (la : Option Addr) (lc : Nat) (R : List RowL) (ba : Option Addr) (bc : Nat) (w : World), b.length + k = n → (∀ s ∈ b, 1 ≤ s ∧ s ≤ (t : Int)) → X.ap = ap → X.cp = cp → X.ls = ls → (∀ x ∈ X.en, x < 8192) → TrkB X E t n b → R.length ≤ 500 → WSt w0.heap.size w0 w la lc R ba bc b →
      Calls Tryd.prog 46 #[.slice la R.length lc, .agg (trkL (X.wen E)).toArray, .slice ba b.length bc, .int .i64 most] w (AddEnd (derB ls) t most w0 w la R ba bc k b) := by
  have HRC := Lib.hid hr
  have HROW := Lib.hid hrow
  have HP := Lib.hid hp
  have HT := Lib.hid hT
  clear hr hrow hp hT
  intro k
  induction k with
  | zero =>
    intro b X E la lc R ba bc w hk hbs hap hcp hXl hXe hX hR hW
    have hbit := hX.bit (by omega) (by omega) hbs
    rw [hXl] at hbit
    by_cases hmost : most ≤ R.length
    · exact addw_stop n _ t most 0 X E la lc R ba bc b w0 w hX.st.s9 hX.full.len hX.full.lt (by rw [hX.st.last]; omega) hW (.inl hmost)
    · cases hb : (E.getD 0 0).testBit X.last with
      | false => exact addw_stop n _ t most 0 X E la lc R ba bc b w0 w hX.st.s9 hX.full.len hX.full.lt (by rw [hX.st.last]; omega) hW (.inr ⟨hb, by have := hbit.1 hb; rwa [show n - b.length = 0 by omega] at this⟩)
      | true => exact addw_here n _ t most X E la lc R ba bc b w0 w hX.st.s9 hX.full.len hX.full.lt (by rw [hX.st.last]; omega) hW (by omega) hR hb (by rw [hX.st.last]; omega) (hbit.2 hb (by omega))
  | succ k ih =>
    intro b X E la lc R ba bc w hk hbs hap hcp hXl hXe hX hR hW
    have hbit := hX.bit (by omega) (by omega) hbs
    rw [hXl] at hbit
    by_cases hmost : most ≤ R.length
    · exact addw_stop n _ t most (k + 1) X E la lc R ba bc b w0 w hX.st.s9 hX.full.len hX.full.lt (by rw [hX.st.last]; omega) hW (.inl hmost)
    cases hb : (E.getD 0 0).testBit X.last with
    | false => exact addw_stop n _ t most (k + 1) X E la lc R ba bc b w0 w hX.st.s9 hX.full.len hX.full.lt (by rw [hX.st.last]; omega) hW (.inr ⟨hb, by have := hbit.1 hb; rwa [show n - b.length = k + 1 by omega] at this⟩)
    | true =>
      subst hap hcp hXl
      have h9 := hX.st.s9
      have h104 := hX.full.len
      have hE := hX.full.lt
      have hQ : TrkQ (w.alloc (.cells (trkL (X.wen E)).toArray 81)) w.heap.size X E := ⟨heap_alloc_new w _, h9, h104⟩
      have hlen := len_trk (X := X.wen E) h9 h104
      have HQ := Lib.hid hQ.q
      have HLEN := Lib.hid hlen
      have HLE := Lib.hid fun W => leads_any X E W h9 h104 hE (by rw [hX.st.last]; omega)
      have HS := Lib.hid (show Below w.heap.size w (w.alloc (.cells (trkL (X.wen E)).toArray 81)) from (Below.refl _ _).alloc (Nat.le_refl _) _)
      have hy := heap_lt hQ.q
      have HX2 := Lib.hid fun (W : World) (hq : W.heap[w.heap.size]? = some (.cells (trkL (X.wen E)).toArray 81)) => (⟨by rw [← hX.st.terms]; exact (blk_cell (w := W) (i := 1) (u := .int .i64 X.terms) hq rfl).1, by rw [← hX.st.last]; exact (blk_cell (w := W) (i := 2) (u := .int .i64 X.last) hq rfl).1, heap_lt hq⟩ : W.cell? ⟨w.heap.size, 1, none⟩ = some (.int .i64 t) ∧ W.cell? ⟨w.heap.size, 2, none⟩ = some (.int .i64 n) ∧ w.heap.size < W.heap.size)
      have HFX := Lib.hid fun (m : Nat) (hmt : m < t) (W : World) (hB : Below w0.heap.size w0 W) => (show Calls Tryd.prog 81 #[.agg (trkL (X.wen E)).toArray, .int .i64 b.length, .int .i64 ((m : Int) + 1)] W fun e w' => Below W.heap.size W w' ∧ ∃ E', e = .returned (.agg (trkL ((X.wst (fixS X.st b.length (m + 1) t)).wen E')).toArray) ∧ TrkB (X.wst (fixS X.st b.length (m + 1) t)) E' t n (b ++ [(m : Int) + 1]) from fixed_any X E t n b (m + 1) W (HRC.out.below hB) (fun p hp => (HROW.out p hp).below hB) (HP.out X rfl) hX hXe ht (by omega) (by omega) (by omega) (by omega) hls (HT.out.below hB))
      have HIH := Lib.hid fun (m : Nat) (hmt : m < t) (E' : List Nat) (la : Option Addr) (lc : Nat) (R : List RowL) (ca : Option Addr) (cc : Nat) (W : World) (h1 : TrkB (X.wst (fixS X.st b.length (m + 1) t)) E' t n (b ++ [(m : Int) + 1])) (h2 : R.length ≤ 500) (h3 : WSt w0.heap.size w0 W la lc R ca cc (b ++ [(m : Int) + 1])) => (by
        have := ih (b ++ [(m : Int) + 1]) (X.wst (fixS X.st b.length (m + 1) t)) E' la lc R ca cc W (by rw [List.length_append, List.length_singleton]; omega) (fun s hs => by
          rcases List.mem_append.1 hs with hs | hs
          · exact hbs s hs
          · rw [List.mem_singleton.1 hs]; omega) rfl rfl rfl hXe h1 h2 h3
        rwa [show (b ++ [(m : Int) + 1]).length = b.length + 1 by simp] at this : Calls Tryd.prog 46 #[.slice la R.length lc, .agg (trkL ((X.wst (fixS X.st b.length (m + 1) t)).wen E')).toArray, .slice ca (b.length + 1) cc, .int .i64 most] W (AddEnd (derB X.ls) t most w0 W la R ca cc k (b ++ [(m : Int) + 1])))
      clear hQ hlen ih hX hXe hbit hE h9 h104
      generalize hZ : trkL (X.wen E) = Z at *
      clear hZ
      have e1 : ¬ (most : Int) ≤ R.length := by omega
      have e2 : ((b.length : Int) == (n : Int)) = false := by simp; omega
      have hbn : b.length ≤ 6 := by omega
      rw [hb] at HLE
      have HW := Lib.hid hW
      clear hb hW hbs hk
      go_enter Tryd.func46, Tryd.ntmps46
      go_upto_region 1 with fail
      generalize w.alloc (.cells Z.toArray 81) = S at *
      generalize hB : w.heap.size = B at *
      have HBE := Lib.hid hB
      clear hB
      go_wp2
      refine wp_load_row 81 (.tmp 5) rfl B rfl 81 _ (0, 0) _ HQ.out Tryd.underlying81 rfl (by rw [infoTrk, List.size_toArray, HLEN.out]) ?_
      go_upto_region 3 with (go_at_call 56; refine (HLE.out _).mono ?_; rintro e w2 ⟨rfl, hb2⟩)
      have hq2 := (hb2.block B hy).trans HQ.out
      obtain ⟨z1, z2, z9⟩ := HX2.out w2 hq2
      have HQ2 := Lib.hid hq2
      have hbw : Below w.heap.size w w2 := by rw [HBE.out]; exact HS.out.trans (hb2.mono (by omega))
      have HB2 := Lib.hid hbw
      have HW2 := Lib.hid (HW.out.later HW.out.below.size hbw)
      have HKB := Lib.hid fun (W : World) (la' : Option Addr) (N : List RowL) (hT : WTo w2 W la la' ba N) => (show W.heap[B]? = some (.cells Z.toArray 81) from (hT.keep B z9 (fun y hy2 e => by
          have := (own_block HW.out.rows.own (g := y.block) (by rw [hy2]; rfl)).2.1
          rw [HBE.out] at this; omega) (fun y hy2 e => by
          have := (own_block HW.out.own (g := y.block) (by rw [hy2]; rfl)).2.1
          rw [HBE.out] at this; omega)).trans HQ2.out)
      clear hb2 hbw hq2 HLE HS hy HW hmost e1
      go_wp2_with fail
      clear z1 z2 z9
      go_loopw [0, 32] (fun l i wr => ∃ (m : Nat) (la' : Option Addr) (lc' : Nat) (N : List RowL), m ≤ t ∧ l = .slice la' (R ++ N).length lc' ∧ i = .int .i64 m ∧ Hid (N.map (·.row) = (Al.wpart (derB X.ls) t k b m).take (most - R.length)) ∧ Hid (WSt w0.heap.size w0 wr la' lc' (R ++ N) ba bc b) ∧ Hid (WTo w2 wr la la' ba N)) (fun _ i _ => t - (intOf i).toNat)
      case atStart => exact ⟨0, la, lc, [], by omega, by rw [List.append_nil], rfl, Lib.hid (by rw [Al.wpart_zero]; simp), Lib.hid (by rw [List.append_nil]; exact HW2.out), Lib.hid (WTo.refl _ _ _)⟩
      case round =>
        obtain ⟨m, la', lc', N, hmt, rfl, rfl, HN, HWR, HTO⟩ := hrel
        by_cases hlt : m < t
        · have hlt' : (m : Int) < t := by omega
          have hNl : N.length ≤ most - R.length := by
            have : (N.map (·.row)).length = N.length := List.length_map _
            rw [HN.out, List.length_take] at this
            omega
          have hRN : (R ++ N).length ≤ 500 := by rw [List.length_append]; omega
          have HRN := Lib.hid (show most - (R ++ N).length = most - R.length - ((Al.wpart (derB X.ls) t k b m).take (most - R.length)).length by rw [← HN.out, List.length_map, List.length_append]; omega)
          have hqr := HKB.out wr la' N HTO.out
          have HQR := Lib.hid hqr
          have hbz : w0.heap.size ≤ wr.heap.size := HWR.out.below.size
          have HF1 := Lib.hid (HFX.out m hlt wr HWR.out.below)
          have hwk : IntKind.i64.wrap ((m : Int) + 1) = (m : Int) + 1 := IntWalk.i64_in _ (by omega)
          have HJ := Lib.hid (HIH.out m hlt)
          have hqlt := heap_lt hqr
          clear hqr hNl hlt
          generalize hQE : R ++ N = Q at *
          have HQE := Lib.hid hQE
          clear hQE
          go_upto_region 8 with fail
          go_wp2
          refine wp_load_row 81 (.tmp 5) rfl B rfl 81 _ (0, 0) _ HQR.out Tryd.underlying81 rfl (by rw [infoTrk, List.size_toArray, HLEN.out]) ?_
          go_wp2_with (first
            | (go_at_call 81; (with_reducible refine HF1.out.mono ?_); rintro e w3 ⟨hb3, E', rfl, hX3⟩
               have hbA := hb3.alloc hb3.size (.cells #[.int .i64 ((m : Int) + 1)] 3)
               have HBA := Lib.hid hbA
               have HW3 := Lib.hid (HWR.out.later hbz hbA)
               have HX3 := Lib.hid hX3
               have hb3z : w0.heap.size ≤ (w3.alloc (.cells #[.int .i64 ((m : Int) + 1)] 3)).heap.size := Nat.le_trans hbz hbA.size
               have HO3 := Lib.hid HW3.out.own
               clear hb3 hbA hX3)
            | (at_builtin; refine wpList_app1 rfl (.tmp 42) (.tmp 45) rfl w0.heap.size ba b.length bc b rfl HO3.out hb3z ⟨w3.heap.size, 0, none⟩ ((m : Int) + 1) 1 rfl (cells_new w3 #[.int .i64 ((m : Int) + 1)] 3) (by omega) ?_; intro ca cc w5 ho5 hg5 hl5
               have HL5 := Lib.hid hl5
               have HG5 := Lib.hid hg5
               have HW5 := Lib.hid (HW3.out.longer hb3z ho5 hg5 hl5)
               clear ho5 hg5 hl5)
            | (go_at_call 46; (with_reducible refine (HJ.out E' la' lc' Q ca cc w5 HX3.out hRN HW5.out).mono ?_); rintro e w6 ⟨la2, lc2, N2, rfl, hN2, hW6, hT6⟩
               have HN2 := Lib.hid hN2
               have HBK := Lib.hid (HW3.out.back HG5.out HL5.out HW5.out hW6 hT6)
               clear hN2 hW6 hT6))
          go_roundw
          case rel => exact ⟨m + 1, la2, lc2, N ++ N2, by omega, by rw [← List.append_assoc, HQE.out, List.length_append], by go_num, Lib.hid (by
            have h2 : N2.map (·.row) = (Al.wds (derB X.ls) t k (b ++ [((m + 1 : Nat) : Int)])).take (most - Q.length) := HN2.out
            rw [List.map_append, HN.out, h2, HRN.out, take_step, Al.wpart_succ]), Lib.hid (by rw [← List.append_assoc, HQE.out]; exact HBK.out.1), Lib.hid (HTO.out.trans ((WTo.later wr _ la' ba HBA.out).trans HBK.out.2))⟩
          case measure => simp [intOf]; omega
        · have hmt2 : m = t := by omega
          subst hmt2
          have HFN := Lib.hid (show N.map (·.row) = (Al.wds (derB X.ls) m (k + 1) b).take (most - R.length) by rw [HN.out, Al.wpart_full])
          go_wp2
          go_ret
          exact ⟨la', lc', N, rfl, HFN.out, HWR.out, (WTo.later w w2 la ba HB2.out).trans HTO.out⟩
end Go.Proofs.YtejjdfmobiegdaaDoor
