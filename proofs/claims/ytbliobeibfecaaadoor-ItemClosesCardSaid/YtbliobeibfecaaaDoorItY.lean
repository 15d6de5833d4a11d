/- ItemCloses, walked. -/
import Derived.Test.YtbliobeibfecaaaDoorItU
import Derived.Test.YtbliobeibfecaaaDoorPlayH
import Derived.Test.YtbliobeibfecaaaDoorRowC
set_option linter.unusedVariables false
namespace Go.Proofs.YtbliobeibfecaaaDoor
open Go.RowKit
open Doc

/-- Is it among them? -/
def hasI (y : It) (l : List It) : Bool := decide (y ∈ l)
theorem hasI_succ (y : It) {l : List It} {j : Nat} {z : It} (h : l[j]? = some z) : hasI y (l.take (j + 1)) = (hasI y (l.take j) || decide (y = z)) := by
  unfold hasI
  rw [List.take_add_one, h, Bool.eq_iff_iff]
  simp
theorem hasI_right {K : MkP} (hk : MkOk K) {l L : List It} (h : CloseP K l L) {y : It} (hy : y ∈ l) : hasI y L = K.right y := by
  unfold hasI
  rw [Bool.eq_iff_iff, decide_eq_true_iff]
  exact ⟨fun h1 => h.mem hk h1, fun h1 => (h.2 y).2 (.base hy h1)⟩
theorem gram_lays {w : World} {g : Gr} {a1 a2 a3 : Option Addr} {n1 n2 n3 c1 c2 c3 : Nat} (h : GramAt w (.agg #[.slice a1 n1 c1, .slice a2 n2 c2, .slice a3 n3 c3]) g) : ∃ ls : List Lay, ls.map Lay.plain = g.prods ∧ Cells w a3 (lays ls) ∧ n3 = ls.length := by
  obtain ⟨b1, b2, b3, d1, d2, d3, ls, he, hp, k1, k2, k3, _⟩ := h
  simp only [Value.agg.injEq, Array.mk.injEq, List.cons.injEq, Value.slice.injEq] at he
  obtain ⟨_, _, ⟨rfl, rfl, rfl⟩, _⟩ := he
  exact ⟨ls, hp, k3, rfl⟩
set_option maxRecDepth 100000 in
set_option maxHeartbeats 16000000 in
theorem itemCloses_walk (x : RawX) (la : Option Addr) (lc : Nat) (l : List Int) (w : World) (hx : RawAt w x) (hl : Cells w la (nums l)) (HT : Sl.Tab w) :
    Calls Tryd.prog 7 #[x.v, .slice la l.length lc] w fun e w' => e = .returned (.bool true) ∧ Below w.heap.size w w' := by
  have hck : CheckG x.any := anyF_check x.terms x.nons x.plain
  have hAN := Lib.hid (fun W h => any_gram x W h)
  have HCK := Lib.hid hck
  generalize hgg : x.any = g at *
  have HX := Lib.hid hx
  have HTT := Lib.hid HT
  have HL := Lib.hid hl
  clear hx hck hgg HT hl
  obtain ⟨xp, xt, xn, xh, rows, xa, xc, word⟩ := x
  unfold RawX.v at *
  simp only at *
  have hb0 : Below w.heap.size w (w.alloc (.cells #[.int .i64 xp, .int .i64 xt, .int .i64 xn, .int .i64 xh, .slice xa rows.length xc, .string word] 24)) := (Below.refl _ _).alloc (Nat.le_refl _) _
  have HA1 := Lib.hid (hAN.out _ (HX.out.below hb0))
  have HB0 := Lib.hid hb0
  clear hAN hb0
  go_enter Tryd.func7, Tryd.ntmps7
  go_upto_region 2 with (go_at_call 21; refine HA1.out.mono ?_; rintro e w1 ⟨hb1, at_, an, ap, ct, cn, cp, ls, rfl, hg1, hls, hc1, hr1⟩)
  have hll : ls.length = g.prods.length := by rw [← hls, List.length_map]
  rw [hll] at hg1 ⊢
  have hbA := (HB0.out.trans (hb1.mono HB0.out.size)).alloc (Nat.le_trans HB0.out.size hb1.size) (.cells #[.slice at_ g.terms.length ct, .slice an g.nons.length cn, .slice ap g.prods.length cp] 29)
  have hbS : Below w1.heap.size w1 (w1.alloc (.cells #[.slice at_ g.terms.length ct, .slice an g.nons.length cn, .slice ap g.prods.length cp] 29)) := (Below.refl _ _).alloc (Nat.le_refl _) _
  have q0 := heap_alloc_new w1 (.cells #[.slice at_ g.terms.length ct, .slice an g.nons.length cn, .slice ap g.prods.length cp] 29)
  have HG := Lib.hid (hg1.below hbS)
  have HBA := Lib.hid hbA
  have HQ0 := Lib.hid q0
  clear hb1 hg1 hls hc1 hr1 hbA hbS q0 HA1 HX HB0 hll
  generalize w1.alloc (.cells #[.slice at_ g.terms.length ct, .slice an g.nons.length cn, .slice ap g.prods.length cp] 29) = S at *
  generalize w1.heap.size = B1 at *
  have hl1 : B1 < S.heap.size := heap_lt HQ0.out
  have HCX := Lib.hid fun (W : World) (hW : Below S.heap.size S W) => (⟨(blk_cell (i := 0) ((hW.block B1 hl1).trans HQ0.out) rfl).1, (blk_cell (i := 1) ((hW.block B1 hl1).trans HQ0.out) rfl).1, (blk_cell (i := 2) ((hW.block B1 hl1).trans HQ0.out) rfl).1, heap_lt ((hW.block B1 hl1).trans HQ0.out)⟩ : W.cell? ⟨B1, 0, none⟩ = some (.slice at_ g.terms.length ct) ∧ W.cell? ⟨B1, 1, none⟩ = some (.slice an g.nons.length cn) ∧ W.cell? ⟨B1, 2, none⟩ = some (.slice ap g.prods.length cp) ∧ B1 < W.heap.size)
  have HN := Lib.hid (inew_any _ g S HG.out HCK.out)
  unfold NewTo at HN
  have HWK := Lib.hid fun (W : World) (hW : Below S.heap.size S W) => wakes11_any W (HTT.out.below (HBA.out.trans (hW.mono HBA.out.size)))
  obtain ⟨x0, x1, x2, x3⟩ := HCX.out S (Below.refl _ _)
  by_cases hfr : Fru g 100
  · have HN1 := Lib.hid (HN.out.mono fun e w' ⟨hb, he⟩ => (by
      rcases he with ⟨_, h⟩ | ⟨h, _⟩
      · exact ⟨hb, h⟩
      · exact absurd hfr h : Below S.heap.size S w' ∧ ∃ (BM BT bt : Nat) (M : MakR) (F : List Nat), e = Ending.returned (.tuple #[.pointer (some ⟨BM, 0, none⟩), .int .i64 0]) ∧ MakG g M ∧ FirstIs g F ∧ MakT w' BM M BT bt F))
    clear HN hfr
    go_upto_region 5 with (go_at_call 24; refine HN1.out.mono ?_; rintro e w2 ⟨hb2, BM, BT, bt, M, F, rfl, hMG, hF, hm⟩)
    have hK := mkOk_of hm.ok
    have HB2 := Lib.hid hb2
    have HM := Lib.hid hm
    have HT2 := Lib.hid (HTT.out.below (HBA.out.trans (hb2.mono HBA.out.size)))
    have ht8 := HCK.out.t8
    have ht1 := HCK.out.t1
    have hn8 := HCK.out.n8
    have hn1 := HCK.out.n1
    have hp24 := HCK.out.p24
    have HIT := Lib.hid (items_any _ g la lc l w2 (HG.out.below hb2) (by omega) (by omega) ((HL.out.below HBA.out).below hb2))
    obtain ⟨y0, y1, y2, y3⟩ := HCX.out w2 hb2
    have HMG := Lib.hid hMG
    clear x0 x1 x2 x3 hb2 hm HN1 hMG hF
    go_upto_region 6 with (go_at_call 32; refine HIT.out.mono ?_; rintro e w3 ⟨its, ia, ic, rfl, hil, hio, hb3⟩)
    have HB3 := Lib.hid hb3
    have HIO := Lib.hid hio
    have HM3 := Lib.hid (HM.out.below hb3)
    have HT3 := Lib.hid (HT2.out.below hb3)
    clear y0 y1 y2 y3 hb3 hio HIT
    have HCG := Lib.hid fun (a : Option Addr) (c : Nat) (l : List It) (W : World) (hW : Below w3.heap.size w3 W) (hl : ItsAt W a l) (h5 : l.length ≤ 100000) => iclose_any BM BT bt M F a c l W (HM3.out.below hW) (HT3.out.below hW) hl h5
    unfold CloseTo at HCG
    have HC4 := Lib.hid (HCG.out ia ic its w3 (Below.refl _ _) HIO.out.its (by omega))
    go_upto_region 9 with (first
      | (go_at_call 27; (with_reducible refine HC4.out.mono ?_); rintro e w4 ⟨C, ca, cc, rfl, hC1, hC2, hC3, hC4⟩
         have HC5 := Lib.hid (HCG.out ca cc C w4 hC4 hC3.its (by omega)))
      | (go_at_call 27; (with_reducible refine HC5.out.mono ?_); rintro e w5 ⟨D, da, dc, rfl, hD1, hD2, hD3, hD4⟩
         have hCD : C = D := CloseP.uniq (hC1.idem hK) hD1
         subst hCD
         have hI5 : ItsAt w5 ca C := hC3.its.below hD4
         have HS5 := Lib.hid (show Calls Tryd.prog 25 #[.slice ca C.length cc, .slice da C.length dc] w5 (fun e w' => e = .returned (.bool true) ∧ Below w5.heap.size w5 w') from (isame_any ca da cc dc C C w5 hI5 hD3.its (by omega) (by omega)).mono fun e w' ⟨he, n, hw⟩ => ⟨he.trans (by simp), hw ▸ below_drews (Below.refl _ _) n⟩))
      | (go_at_call 25; (with_reducible refine HS5.out.mono ?_); rintro e w6 ⟨rfl, hb6⟩))
    have HW6 := Lib.hid ((hC4.trans (hD4.mono hC4.size)).trans (hb6.mono (hC4.trans (hD4.mono hC4.size)).size))
    have HIC := Lib.hid (show ItsAt w6 ca C from hI5.below hb6)
    have HCP := Lib.hid hC1
    have HRC := Lib.hid fun x (hx : x ∈ C) => (hC1.mem hK hx : isIt M x = true)
    have HIS := Lib.hid fun x (W : World) (hW : Below w3.heap.size w3 W) => isIt_any BM M x W (HM3.out.below hW).at_ HM3.out.ok.ok
    have HNX := Lib.hid fun x (W : World) (hW : Below w3.heap.size w3 W) => inext_any BM M x W (HM3.out.below hW).at_ HM3.out.ok.ok
    have HCXW := Lib.hid fun (W : World) (hW : Below w3.heap.size w3 W) => HCX.out W (HB2.out.trans (HB3.out.trans (hW.mono HB3.out.size) |>.mono HB2.out.size))
    clear hC4 hD4 hb6 hI5 HS5 HC5 HC4 hC1 hC3 hD1 hD2 hD3
    go_wp2_with fail
    go_loopw [60] (fun i wr => ∃ k : Nat, k ≤ C.length ∧ i = .int .i64 k ∧ Hid (Below w6.heap.size w6 wr)) (fun i _ => C.length - (intOf i).toNat)
    case atStart => exact ⟨0, by omega, rfl, Lib.hid (Below.refl _ _)⟩
    case round =>
      obtain ⟨k, hk, rfl, HBR⟩ := hrel
      rename World => w7
      by_cases hlt : k < C.length
      · have hlt' : (k : Int) < C.length := by omega
        obtain ⟨y, hy⟩ : ∃ y, C[k]? = some y := ⟨_, List.getElem?_eq_getElem hlt⟩
        obtain ⟨b, o, rfl⟩ := HIC.out.some (by intro e; rw [e] at hlt; simp at hlt)
        obtain ⟨x0, x1, x2, x3⟩ := ItsAt.cell (HIC.out.below HBR.out) hy
        have hyr : isIt M y = true := HRC.out y (List.mem_of_getElem? hy)
        have HY := Lib.hid hy
        have HYL := Lib.hid fun z (q : Nat) (hq : k = q + 1) (hz : C[q]? = some z) => (show lessIt z y = true from by
          obtain ⟨h1, e1⟩ := List.getElem?_eq_some_iff.1 hz
          obtain ⟨h2, e2⟩ := List.getElem?_eq_some_iff.1 HY.out
          have := List.pairwise_iff_getElem.1 HCP.out.1 q k h1 h2 (by omega)
          rwa [e1, e2] at this)
        have HLY := Lib.hid fun z (W : World) => iless_any z y W
        have HIY := Lib.hid (HIS.out y)
        rw [hyr] at HIY
        clear hy hyr
        obtain ⟨p, d, aa⟩ := y
        unfold itV at *
        simp only at *
        have hA : Below w7.heap.size w7 (w7.alloc (.cells #[.int .i64 p, .int .i64 d, .int .i64 aa] 48)) := (Below.refl _ _).alloc (Nat.le_refl _) _
        have HBA7 := Lib.hid (HBR.out.trans (hA.mono HBR.out.size))
        have HQA := Lib.hid (heap_alloc_new w7 (.cells #[.int .i64 p, .int .i64 d, .int .i64 aa] 48))
        clear hA
        go_upto_region 12 with fail
        clear x0 x1 x2 x3
        generalize w7.alloc (.cells #[.int .i64 p, .int .i64 d, .int .i64 aa] 48) = A at *
        generalize w7.heap.size = BI at *
        have y0 := (blk_cell (i := 0) HQA.out rfl).1
        have y1 := (blk_cell (i := 1) HQA.out rfl).1
        have y2 := (blk_cell (i := 2) HQA.out rfl).1
        have y3 := heap_lt HQA.out
        have HIA := Lib.hid fun (W : World) (hW : Below A.heap.size A W) => HIY.out W (HW6.out.trans ((HBA7.out.trans (hW.mono HBA7.out.size)).mono HW6.out.size))
        have HFA := Lib.hid fun (W : World) (hW : Below A.heap.size A W) => (⟨(blk_cell (i := 0) ((hW.block BI (heap_lt HQA.out)).trans HQA.out) rfl).1, (blk_cell (i := 1) ((hW.block BI (heap_lt HQA.out)).trans HQA.out) rfl).1, (blk_cell (i := 2) ((hW.block BI (heap_lt HQA.out)).trans HQA.out) rfl).1, heap_lt ((hW.block BI (heap_lt HQA.out)).trans HQA.out)⟩ : W.cell? ⟨BI, 0, none⟩ = some (.int .i64 p) ∧ W.cell? ⟨BI, 1, none⟩ = some (.int .i64 d) ∧ W.cell? ⟨BI, 2, none⟩ = some (.int .i64 aa) ∧ BI < W.heap.size)
        by_cases hk0 : k = 0
        · have hkz : ¬ (0 : Int) < k := by omega
          have hkn : ¬ 0 < k := by omega
          have hkd : decide (0 < k) = false := decide_eq_false hkn
          have hkd2 : decide ((0 : Int) < k) = false := decide_eq_false hkz
          have hkd3 : decide ((k : Int) > 0) = false := decide_eq_false hkz
          have HKZ := Lib.hid hk0
          clear hk0
          have HBS : Hid (Below A.heap.size A A) := Lib.hid (Below.refl _ _)
          have HKX : Hid (∀ W W' : World, Hid (Below A.heap.size A W) → Below W.heap.size W W' → ((W'.cell? ⟨BI, 0, none⟩ = some (.int .i64 p) ∧ W'.cell? ⟨BI, 1, none⟩ = some (.int .i64 d) ∧ W'.cell? ⟨BI, 2, none⟩ = some (.int .i64 aa) ∧ BI < W'.heap.size) ∧ Hid (Below A.heap.size A W'))) := Lib.hid fun W W' h k => by
            have hb := h.out.trans (k.mono h.out.size)
            exact ⟨HFA.out W' hb, Lib.hid hb⟩
          refine wp_region_noPanic ?_
          refine wp_region_held_drew (S := (fun w' => ((w'.cell? ⟨BI, 0, none⟩ = some (.int .i64 p) ∧ w'.cell? ⟨BI, 1, none⟩ = some (.int .i64 d) ∧ w'.cell? ⟨BI, 2, none⟩ = some (.int .i64 aa) ∧ BI < w'.heap.size) ∧ Hid (Below A.heap.size A w')))) (by kernel_rfl) ?_ (fun hHeld => ?_)
          · (first | assumption | (exact HKX.out _ _ HBS (Below.refl _ _).drew) | (exact HKX.out _ _ (And.right (show _ ∧ Hid (Below A.heap.size A _) by assumption)) (by assumption)))
          refine wpAnyH_take (i := 0) (v := ?_) (by simp only [List.getElem?_toArray, List.getElem?_cons_zero]; rfl) (by kernel_rfl) (by kernel_rfl) (by kernel_rfl) (fun _ _ _ h => h) (Or.inl ⟨by rfl, ?_⟩) (by assumption) ?_
          rotate_left
          · (intro w hSw; (try dsimp only at hSw); go_simp; (try with_reducible rfl))
          (try simp only [Act.put, List.setIfInBounds_toArray, List.set_cons_zero, List.set_cons_succ])
          refine wpAnyH_take (i := 1) (v := ?_) (by simp only [List.getElem?_toArray, List.getElem?_cons_succ, List.getElem?_cons_zero]; rfl) (by kernel_rfl) (by kernel_rfl) (by kernel_rfl) (fun _ _ _ h => h) (Or.inl ⟨by rfl, ?_⟩) (by assumption) ?_
          rotate_left
          · (intro w hSw; (try dsimp only at hSw); go_simp; (try with_reducible rfl))
          (try simp only [Act.put, List.setIfInBounds_toArray, List.set_cons_zero, List.set_cons_succ])
          refine wpAnyH_ready (rs := [2]) (by kernel_rfl) (by simp) ?_
          refine AllReadyH.cons (by simp only [List.getElem?_toArray, List.getElem?_cons_succ, List.getElem?_cons_zero]; rfl) (fun K hK => ?_) ?_
          · (go_simp; go_at_call 30; (with_reducible refine (HIA.out _ (Hid.out (And.right (show _ ∧ Hid (Below A.heap.size A _) by assumption)))).mono ?_); rintro e w8 ⟨rfl, hb8⟩)
            refine hK.out _ _ ?_ (fun hHeld => ?_)
            · (first | assumption | (exact HKX.out _ _ HBS (Below.refl _ _).drew) | (exact HKX.out _ _ (And.right (show _ ∧ Hid (Below A.heap.size A _) by assumption)) (by assumption)))
            clear hK K
            (try simp only [Act.put, List.setIfInBounds_toArray, List.set_cons_zero, List.set_cons_succ])
            refine wpAnyH_take (i := 3) (v := ?_) (by simp only [List.getElem?_toArray, List.getElem?_cons_succ, List.getElem?_cons_zero]; rfl) (by kernel_rfl) (by kernel_rfl) (by kernel_rfl) (fun _ _ _ h => h) (Or.inl ⟨by rfl, ?_⟩) (by assumption) ?_
            rotate_left
            · (intro w hSw; (try dsimp only at hSw); go_simp; (try with_reducible rfl))
            (try simp only [Act.put, List.setIfInBounds_toArray, List.set_cons_zero, List.set_cons_succ])
            refine wpAnyH_take (i := 4) (v := ?_) (by simp only [List.getElem?_toArray, List.getElem?_cons_succ, List.getElem?_cons_zero]; rfl) (by kernel_rfl) (by kernel_rfl) (by kernel_rfl) (fun _ _ _ h => h) (Or.inl ⟨by rfl, ?_⟩) (by assumption) ?_
            rotate_left
            · (intro w hSw; (try dsimp only at hSw); go_simp; (try with_reducible rfl))
            (try simp only [Act.put, List.setIfInBounds_toArray, List.set_cons_zero, List.set_cons_succ])
            refine wpAnyH_take (i := 5) (v := ?_) (by simp only [List.getElem?_toArray, List.getElem?_cons_succ, List.getElem?_cons_zero]; rfl) (by kernel_rfl) (by kernel_rfl) (by kernel_rfl) (fun _ _ _ h => h) (Or.inl ⟨by rfl, ?_⟩) (by assumption) ?_
            rotate_left
            · (intro w hSw; (try dsimp only at hSw); go_simp; (try with_reducible rfl))
            (try simp only [Act.put, List.setIfInBounds_toArray, List.set_cons_zero, List.set_cons_succ])
            refine wpAnyH_take (i := 6) (v := ?_) (by simp only [List.getElem?_toArray, List.getElem?_cons_succ, List.getElem?_cons_zero]; rfl) (by kernel_rfl) (by kernel_rfl) (by kernel_rfl) (fun _ _ _ h => h) (Or.inl ⟨by rfl, ?_⟩) (by assumption) ?_
            rotate_left
            · (intro w hSw; (try dsimp only at hSw); go_simp; (try with_reducible rfl))
            (try simp only [Act.put, List.setIfInBounds_toArray, List.set_cons_zero, List.set_cons_succ])
            refine wpAnyH_take (i := 7) (v := ?_) (by simp only [List.getElem?_toArray, List.getElem?_cons_succ, List.getElem?_cons_zero]; rfl) (by kernel_rfl) (by kernel_rfl) (by kernel_rfl) (fun _ _ _ h => h) (Or.inl ⟨by rfl, ?_⟩) (by assumption) ?_
            rotate_left
            · (intro w hSw; (try dsimp only at hSw); go_simp; (try with_reducible rfl))
            (try simp only [Act.put, List.setIfInBounds_toArray, List.set_cons_zero, List.set_cons_succ])
            refine wpAnyH_take (i := 8) (v := undef) (by simp only [List.getElem?_toArray, List.getElem?_cons_succ, List.getElem?_cons_zero]; rfl) (by kernel_rfl) (by kernel_rfl) (by kernel_rfl) (fun _ _ _ h => h) (Or.inr ⟨by rfl, rfl⟩) (by assumption) ?_
            (try simp only [Act.put, List.setIfInBounds_toArray, List.set_cons_zero, List.set_cons_succ])
            refine wpAnyH_take (i := 9) (v := undef) (by simp only [List.getElem?_toArray, List.getElem?_cons_succ, List.getElem?_cons_zero]; rfl) (by kernel_rfl) (by kernel_rfl) (by kernel_rfl) (fun _ _ _ h => h) (Or.inr ⟨by rfl, rfl⟩) (by assumption) ?_
            (try simp only [Act.put, List.setIfInBounds_toArray, List.set_cons_zero, List.set_cons_succ])
            refine wpAnyH_take (i := 10) (v := undef) (by simp only [List.getElem?_toArray, List.getElem?_cons_succ, List.getElem?_cons_zero]; rfl) (by kernel_rfl) (by kernel_rfl) (by kernel_rfl) (fun _ _ _ h => h) (Or.inr ⟨by rfl, rfl⟩) (by assumption) ?_
            (try simp only [Act.put, List.setIfInBounds_toArray, List.set_cons_zero, List.set_cons_succ])
            refine wpAnyH_take (i := 11) (v := undef) (by simp only [List.getElem?_toArray, List.getElem?_cons_succ, List.getElem?_cons_zero]; rfl) (by kernel_rfl) (by kernel_rfl) (by kernel_rfl) (fun _ _ _ h => h) (Or.inr ⟨by rfl, rfl⟩) (by assumption) ?_
            (try simp only [Act.put, List.setIfInBounds_toArray, List.set_cons_zero, List.set_cons_succ])
            refine wpAnyH_take (i := 12) (v := undef) (by simp only [List.getElem?_toArray, List.getElem?_cons_succ, List.getElem?_cons_zero]; rfl) (by kernel_rfl) (by kernel_rfl) (by kernel_rfl) (fun _ _ _ h => h) (Or.inr ⟨by rfl, rfl⟩) (by assumption) ?_
            (try simp only [Act.put, List.setIfInBounds_toArray, List.set_cons_zero, List.set_cons_succ])
            refine wpAnyH_take (i := 13) (v := undef) (by simp only [List.getElem?_toArray, List.getElem?_cons_succ, List.getElem?_cons_zero]; rfl) (by kernel_rfl) (by kernel_rfl) (by kernel_rfl) (fun _ _ _ h => h) (Or.inr ⟨by rfl, rfl⟩) (by assumption) ?_
            (try simp only [Act.put, List.setIfInBounds_toArray, List.set_cons_zero, List.set_cons_succ])
            refine wpAnyH_take (i := 14) (v := undef) (by simp only [List.getElem?_toArray, List.getElem?_cons_succ, List.getElem?_cons_zero]; rfl) (by kernel_rfl) (by kernel_rfl) (by kernel_rfl) (fun _ _ _ h => h) (Or.inr ⟨by rfl, rfl⟩) (by assumption) ?_
            (try simp only [Act.put, List.setIfInBounds_toArray, List.set_cons_zero, List.set_cons_succ])
            refine wpAnyH_take (i := 15) (v := undef) (by simp only [List.getElem?_toArray, List.getElem?_cons_succ, List.getElem?_cons_zero]; rfl) (by kernel_rfl) (by kernel_rfl) (by kernel_rfl) (fun _ _ _ h => h) (Or.inr ⟨by rfl, rfl⟩) (by assumption) ?_
            (try simp only [Act.put, List.setIfInBounds_toArray, List.set_cons_zero, List.set_cons_succ])
            refine wpAnyH_take (i := 16) (v := ?_) (by simp only [List.getElem?_toArray, List.getElem?_cons_succ, List.getElem?_cons_zero]; rfl) (by kernel_rfl) (by kernel_rfl) (by kernel_rfl) (fun _ _ _ h => h) (Or.inl ⟨by rfl, ?_⟩) (by assumption) ?_
            rotate_left
            · (intro w hSw; (try dsimp only at hSw); go_simp; (try with_reducible rfl))
            (try simp only [Act.put, List.setIfInBounds_toArray, List.set_cons_zero, List.set_cons_succ])
            refine wpAnyH_take (i := 17) (v := ?_) (by simp only [List.getElem?_toArray, List.getElem?_cons_succ, List.getElem?_cons_zero]; rfl) (by kernel_rfl) (by kernel_rfl) (by kernel_rfl) (fun _ _ _ h => h) (Or.inl ⟨by rfl, ?_⟩) (by assumption) ?_
            rotate_left
            · (intro w hSw; (try dsimp only at hSw); go_simp; (try with_reducible rfl))
            (try simp only [Act.put, List.setIfInBounds_toArray, List.set_cons_zero, List.set_cons_succ])
            refine wpAnyH_done (by kernel_rfl) ?_ _
            refine NoPanic.normal ?_
            have HB9 := Lib.hid (HBA7.out.trans ((Hid.out (And.right (show _ ∧ Hid (Below A.heap.size A _) by assumption))).mono HBA7.out.size))
            clear hHeld
            go_wp2
            go_roundw
            case rel => exact ⟨k + 1, by omega, by go_num, HB9⟩
            case measure => simp [intOf]; omega
          exact AllReadyH.nil
        · obtain ⟨q, hq⟩ : ∃ q, k = q + 1 := ⟨k - 1, by omega⟩
          obtain ⟨z, hz⟩ : ∃ z, C[q]? = some z := ⟨_, List.getElem?_eq_getElem (by omega)⟩
          have hzl := HYL.out z q hq hz
          have HLZ := Lib.hid (HLY.out z)
          rw [hzl] at HLZ
          have HZC := Lib.hid fun (W : World) (hW : Below A.heap.size A W) => ItsAt.cell (HIC.out.below (HBA7.out.trans (hW.mono HBA7.out.size))) hz
          have hk1 : (0 : Int) < k := by omega
          have hkn : 0 < k := by omega
          have hkd : decide (0 < k) = true := decide_eq_true hkn
          have hkd2 : decide ((0 : Int) < k) = true := decide_eq_true hk1
          have hkd3 : decide ((k : Int) > 0) = true := decide_eq_true hk1
          have hkq : IntKind.i64.wrap ((k : Int) - 1) = (q : Int) := by rw [show (k : Int) - 1 = (q : Int) by omega]; exact IntWalk.i64_in _ (by omega)
          have hql : (q : Int) < C.length := by omega
          have hq0 : ¬ (q : Int) < 0 := by omega
          clear hz hzl hq hk0 HYL HLY
          obtain ⟨zp, zd, za⟩ := z
          simp only at *
          have HBS : Hid (Below A.heap.size A A) := Lib.hid (Below.refl _ _)
          have HKX : Hid (∀ W W' : World, Hid (Below A.heap.size A W) → Below W.heap.size W W' → (((W'.cell? ⟨BI, 0, none⟩ = some (.int .i64 p) ∧ W'.cell? ⟨BI, 1, none⟩ = some (.int .i64 d) ∧ W'.cell? ⟨BI, 2, none⟩ = some (.int .i64 aa) ∧ BI < W'.heap.size) ∧ (W'.cell? ⟨b, o + q * 3, none⟩ = some (.int .i64 zp) ∧ W'.cell? ⟨b, o + q * 3 + 1, none⟩ = some (.int .i64 zd) ∧ W'.cell? ⟨b, o + q * 3 + 2, none⟩ = some (.int .i64 za) ∧ b < W'.heap.size)) ∧ Hid (Below A.heap.size A W'))) := Lib.hid fun W W' h k => by
            have hb := h.out.trans (k.mono h.out.size)
            exact ⟨⟨HFA.out W' hb, HZC.out W' hb⟩, Lib.hid hb⟩
          refine wp_region_noPanic ?_
          refine wp_region_held_drew (S := (fun w' => (((w'.cell? ⟨BI, 0, none⟩ = some (.int .i64 p) ∧ w'.cell? ⟨BI, 1, none⟩ = some (.int .i64 d) ∧ w'.cell? ⟨BI, 2, none⟩ = some (.int .i64 aa) ∧ BI < w'.heap.size) ∧ (w'.cell? ⟨b, o + q * 3, none⟩ = some (.int .i64 zp) ∧ w'.cell? ⟨b, o + q * 3 + 1, none⟩ = some (.int .i64 zd) ∧ w'.cell? ⟨b, o + q * 3 + 2, none⟩ = some (.int .i64 za) ∧ b < w'.heap.size)) ∧ Hid (Below A.heap.size A w')))) (by kernel_rfl) ?_ (fun hHeld => ?_)
          · (first | assumption | (exact HKX.out _ _ HBS (Below.refl _ _).drew) | (exact HKX.out _ _ (And.right (show _ ∧ Hid (Below A.heap.size A _) by assumption)) (by assumption)))
          refine wpAnyH_take (i := 0) (v := ?_) (by simp only [List.getElem?_toArray, List.getElem?_cons_zero]; rfl) (by kernel_rfl) (by kernel_rfl) (by kernel_rfl) (fun _ _ _ h => h) (Or.inl ⟨by rfl, ?_⟩) (by assumption) ?_
          rotate_left
          · (intro w hSw; (try dsimp only at hSw); go_simp; (try with_reducible rfl))
          (try simp only [Act.put, List.setIfInBounds_toArray, List.set_cons_zero, List.set_cons_succ])
          refine wpAnyH_take (i := 1) (v := ?_) (by simp only [List.getElem?_toArray, List.getElem?_cons_succ, List.getElem?_cons_zero]; rfl) (by kernel_rfl) (by kernel_rfl) (by kernel_rfl) (fun _ _ _ h => h) (Or.inl ⟨by rfl, ?_⟩) (by assumption) ?_
          rotate_left
          · (intro w hSw; (try dsimp only at hSw); go_simp; (try with_reducible rfl))
          (try simp only [Act.put, List.setIfInBounds_toArray, List.set_cons_zero, List.set_cons_succ])
          refine wpAnyH_ready (rs := [2]) (by kernel_rfl) (by simp) ?_
          refine AllReadyH.cons (by simp only [List.getElem?_toArray, List.getElem?_cons_succ, List.getElem?_cons_zero]; rfl) (fun K hK => ?_) ?_
          · (go_simp; go_at_call 30; (with_reducible refine (HIA.out _ (Hid.out (And.right (show _ ∧ Hid (Below A.heap.size A _) by assumption)))).mono ?_); rintro e w8 ⟨rfl, hb8⟩)
            refine hK.out _ _ ?_ (fun hHeld => ?_)
            · (first | assumption | (exact HKX.out _ _ HBS (Below.refl _ _).drew) | (exact HKX.out _ _ (And.right (show _ ∧ Hid (Below A.heap.size A _) by assumption)) (by assumption)))
            clear hK K
            (try simp only [Act.put, List.setIfInBounds_toArray, List.set_cons_zero, List.set_cons_succ])
            refine wpAnyH_take (i := 3) (v := ?_) (by simp only [List.getElem?_toArray, List.getElem?_cons_succ, List.getElem?_cons_zero]; rfl) (by kernel_rfl) (by kernel_rfl) (by kernel_rfl) (fun _ _ _ h => h) (Or.inl ⟨by rfl, ?_⟩) (by assumption) ?_
            rotate_left
            · (intro w hSw; (try dsimp only at hSw); go_simp; (try with_reducible rfl))
            (try simp only [Act.put, List.setIfInBounds_toArray, List.set_cons_zero, List.set_cons_succ])
            refine wpAnyH_take (i := 4) (v := ?_) (by simp only [List.getElem?_toArray, List.getElem?_cons_succ, List.getElem?_cons_zero]; rfl) (by kernel_rfl) (by kernel_rfl) (by kernel_rfl) (fun _ _ _ h => h) (Or.inl ⟨by rfl, ?_⟩) (by assumption) ?_
            rotate_left
            · (intro w hSw; (try dsimp only at hSw); go_simp; (try with_reducible rfl))
            (try simp only [Act.put, List.setIfInBounds_toArray, List.set_cons_zero, List.set_cons_succ])
            refine wpAnyH_take (i := 5) (v := ?_) (by simp only [List.getElem?_toArray, List.getElem?_cons_succ, List.getElem?_cons_zero]; rfl) (by kernel_rfl) (by kernel_rfl) (by kernel_rfl) (fun _ _ _ h => h) (Or.inl ⟨by rfl, ?_⟩) (by assumption) ?_
            rotate_left
            · (intro w hSw; (try dsimp only at hSw); go_simp; (try with_reducible rfl))
            (try simp only [Act.put, List.setIfInBounds_toArray, List.set_cons_zero, List.set_cons_succ])
            refine wpAnyH_take (i := 6) (v := ?_) (by simp only [List.getElem?_toArray, List.getElem?_cons_succ, List.getElem?_cons_zero]; rfl) (by kernel_rfl) (by kernel_rfl) (by kernel_rfl) (fun _ _ _ h => h) (Or.inl ⟨by rfl, ?_⟩) (by assumption) ?_
            rotate_left
            · (intro w hSw; (try dsimp only at hSw); go_simp; (try with_reducible rfl))
            (try simp only [Act.put, List.setIfInBounds_toArray, List.set_cons_zero, List.set_cons_succ])
            refine wpAnyH_take (i := 7) (v := ?_) (by simp only [List.getElem?_toArray, List.getElem?_cons_succ, List.getElem?_cons_zero]; rfl) (by kernel_rfl) (by kernel_rfl) (by kernel_rfl) (fun _ _ _ h => h) (Or.inl ⟨by rfl, ?_⟩) (by assumption) ?_
            rotate_left
            · (intro w hSw; (try dsimp only at hSw); go_simp; (try with_reducible rfl))
            (try simp only [Act.put, List.setIfInBounds_toArray, List.set_cons_zero, List.set_cons_succ])
            refine wpAnyH_take (i := 8) (v := ?_) (by simp only [List.getElem?_toArray, List.getElem?_cons_succ, List.getElem?_cons_zero]; rfl) (by kernel_rfl) (by kernel_rfl) (by kernel_rfl) (fun _ _ _ h => h) (Or.inl ⟨by rfl, ?_⟩) (by assumption) ?_
            rotate_left
            · (intro w hSw; (try dsimp only at hSw); go_simp; (try with_reducible rfl))
            (try simp only [Act.put, List.setIfInBounds_toArray, List.set_cons_zero, List.set_cons_succ])
            refine wpAnyH_take (i := 9) (v := ?_) (by simp only [List.getElem?_toArray, List.getElem?_cons_succ, List.getElem?_cons_zero]; rfl) (by kernel_rfl) (by kernel_rfl) (by kernel_rfl) (fun _ _ _ h => h) (Or.inl ⟨by rfl, ?_⟩) (by assumption) ?_
            rotate_left
            · (intro w hSw; (try dsimp only at hSw); go_simp; (try with_reducible rfl))
            (try simp only [Act.put, List.setIfInBounds_toArray, List.set_cons_zero, List.set_cons_succ])
            refine wpAnyH_take (i := 10) (v := ?_) (by simp only [List.getElem?_toArray, List.getElem?_cons_succ, List.getElem?_cons_zero]; rfl) (by kernel_rfl) (by kernel_rfl) (by kernel_rfl) (fun _ _ _ h => h) (Or.inl ⟨by rfl, ?_⟩) (by assumption) ?_
            rotate_left
            · (intro w hSw; (try dsimp only at hSw); go_simp; (try with_reducible rfl))
            (try simp only [Act.put, List.setIfInBounds_toArray, List.set_cons_zero, List.set_cons_succ])
            refine wpAnyH_take (i := 11) (v := ?_) (by simp only [List.getElem?_toArray, List.getElem?_cons_succ, List.getElem?_cons_zero]; rfl) (by kernel_rfl) (by kernel_rfl) (by kernel_rfl) (fun _ _ _ h => h) (Or.inl ⟨by rfl, ?_⟩) (by assumption) ?_
            rotate_left
            · (intro w hSw; (try dsimp only at hSw); go_simp; (try with_reducible rfl))
            (try simp only [Act.put, List.setIfInBounds_toArray, List.set_cons_zero, List.set_cons_succ])
            refine wpAnyH_take (i := 12) (v := ?_) (by simp only [List.getElem?_toArray, List.getElem?_cons_succ, List.getElem?_cons_zero]; rfl) (by kernel_rfl) (by kernel_rfl) (by kernel_rfl) (fun _ _ _ h => h) (Or.inl ⟨by rfl, ?_⟩) (by assumption) ?_
            rotate_left
            · (intro w hSw; (try dsimp only at hSw); go_simp; (try with_reducible rfl))
            (try simp only [Act.put, List.setIfInBounds_toArray, List.set_cons_zero, List.set_cons_succ])
            refine wpAnyH_take (i := 13) (v := ?_) (by simp only [List.getElem?_toArray, List.getElem?_cons_succ, List.getElem?_cons_zero]; rfl) (by kernel_rfl) (by kernel_rfl) (by kernel_rfl) (fun _ _ _ h => h) (Or.inl ⟨by rfl, ?_⟩) (by assumption) ?_
            rotate_left
            · (intro w hSw; (try dsimp only at hSw); go_simp; (try with_reducible rfl))
            (try simp only [Act.put, List.setIfInBounds_toArray, List.set_cons_zero, List.set_cons_succ])
            refine wpAnyH_ready (rs := [14]) (by kernel_rfl) (by simp) ?_
            refine AllReadyH.cons (by simp only [List.getElem?_toArray, List.getElem?_cons_succ, List.getElem?_cons_zero]; rfl) (fun K hK => ?_) ?_
            · (go_simp; go_at_call 33; (with_reducible refine (HLZ.out _).mono ?_); rintro e w9 ⟨rfl, hb9⟩)
              refine hK.out _ _ ?_ (fun hHeld => ?_)
              · (first | assumption | (exact HKX.out _ _ HBS (Below.refl _ _).drew) | (exact HKX.out _ _ (And.right (show _ ∧ Hid (Below A.heap.size A _) by assumption)) (by assumption)))
              clear hK K
              (try simp only [Act.put, List.setIfInBounds_toArray, List.set_cons_zero, List.set_cons_succ])
              refine wpAnyH_take (i := 15) (v := ?_) (by simp only [List.getElem?_toArray, List.getElem?_cons_succ, List.getElem?_cons_zero]; rfl) (by kernel_rfl) (by kernel_rfl) (by kernel_rfl) (fun _ _ _ h => h) (Or.inl ⟨by rfl, ?_⟩) (by assumption) ?_
              rotate_left
              · (intro w hSw; (try dsimp only at hSw); go_simp; (try with_reducible rfl))
              (try simp only [Act.put, List.setIfInBounds_toArray, List.set_cons_zero, List.set_cons_succ])
              refine wpAnyH_take (i := 16) (v := ?_) (by simp only [List.getElem?_toArray, List.getElem?_cons_succ, List.getElem?_cons_zero]; rfl) (by kernel_rfl) (by kernel_rfl) (by kernel_rfl) (fun _ _ _ h => h) (Or.inl ⟨by rfl, ?_⟩) (by assumption) ?_
              rotate_left
              · (intro w hSw; (try dsimp only at hSw); go_simp; (try with_reducible rfl))
              (try simp only [Act.put, List.setIfInBounds_toArray, List.set_cons_zero, List.set_cons_succ])
              refine wpAnyH_take (i := 17) (v := ?_) (by simp only [List.getElem?_toArray, List.getElem?_cons_succ, List.getElem?_cons_zero]; rfl) (by kernel_rfl) (by kernel_rfl) (by kernel_rfl) (fun _ _ _ h => h) (Or.inl ⟨by rfl, ?_⟩) (by assumption) ?_
              rotate_left
              · (intro w hSw; (try dsimp only at hSw); go_simp; (try with_reducible rfl))
              (try simp only [Act.put, List.setIfInBounds_toArray, List.set_cons_zero, List.set_cons_succ])
              refine wpAnyH_done (by kernel_rfl) ?_ _
              refine NoPanic.normal ?_
              have HB9 := Lib.hid (HBA7.out.trans ((Hid.out (And.right (show _ ∧ Hid (Below A.heap.size A _) by assumption))).mono HBA7.out.size))
              clear hHeld
              go_wp2
              go_roundw
              case rel => exact ⟨k + 1, by omega, by go_num, HB9⟩
              case measure => simp [intOf]; omega
            exact AllReadyH.nil
          exact AllReadyH.nil
      · have hge : ¬ (k : Int) < C.length := by omega
        have HB7 := Lib.hid (HW6.out.trans (HBR.out.mono HW6.out.size))
        have HIC7 := Lib.hid (show ItsAt w7 ca C from HIC.out.below HBR.out)
        go_wp2_with fail
        go_loopw [86] (fun i wr => ∃ k : Nat, k ≤ its.length ∧ i = .int .i64 k ∧ Hid (Below w7.heap.size w7 wr)) (fun i _ => its.length - (intOf i).toNat)
        case atStart => exact ⟨0, by omega, rfl, Lib.hid (Below.refl _ _)⟩
        case round =>
          clear HBR hlt hge
          obtain ⟨k2, hk2, rfl, HBR⟩ := hrel
          rename World => w8
          by_cases hlt : k2 < its.length
          · have hlt' : (k2 : Int) < its.length := by omega
            obtain ⟨y, hy⟩ : ∃ y, its[k2]? = some y := ⟨_, List.getElem?_eq_getElem hlt⟩
            have HW8 := Lib.hid (HB7.out.trans (HBR.out.mono HB7.out.size))
            have HCE := Lib.hid (HIO.out.its.some (by intro e; rw [e] at hlt; simp at hlt))
            obtain ⟨b, o, rfl⟩ := HCE.out
            obtain ⟨x0, x1, x2, x3⟩ := ItsAt.cell (HIO.out.its.below HW8.out) hy
            have HBO := Lib.hid (show hasI y C = isIt M y from hasI_right hK HCP.out (List.mem_of_getElem? hy))
            have HIY := Lib.hid (HIS.out y)
            rw [← HBO.out] at HIY
            have HY := Lib.hid hy
            have HHZ := Lib.hid (show hasI y (C.take 0) = false by unfold hasI; simp)
            have HHS := Lib.hid fun (j : Nat) (z : It) (hz : C[j]? = some z) => hasI_succ y hz
            have HHA := Lib.hid (show hasI y (C.take C.length) = hasI y C by rw [List.take_length])
            have HEQ := Lib.hid fun (z : It) W => ieql_run y z W
            clear hy HBO
            generalize hasI y C = hb at *
            have hfn : ∃ f : Nat → Bool, ∀ j, f j = hasI y (C.take j) := ⟨fun j => hasI y (C.take j), fun _ => rfl⟩
            obtain ⟨f, hf⟩ := hfn
            rw [← hf] at HHZ HHA
            have HHS2 := Lib.hid fun (j : Nat) (z : It) (hz : C[j]? = some z) => (show f (j + 1) = (f j || decide (y = z)) by rw [hf, hf]; exact HHS.out j z hz)
            clear hf HHS
            obtain ⟨p, d, aa⟩ := y
            unfold itV at *
            simp only at *
            have hA : Below w8.heap.size w8 (w8.alloc (.cells #[.int .i64 p, .int .i64 d, .int .i64 aa] 48)) := (Below.refl _ _).alloc (Nat.le_refl _) _
            have HBA8 := Lib.hid (HBR.out.trans (hA.mono HBR.out.size))
            have HQA := Lib.hid (heap_alloc_new w8 (.cells #[.int .i64 p, .int .i64 d, .int .i64 aa] 48))
            clear hA
            go_upto_region 18 with fail
            clear x0 x1 x2 x3
            generalize w8.alloc (.cells #[.int .i64 p, .int .i64 d, .int .i64 aa] 48) = A at *
            generalize w8.heap.size = BI at *
            go_wp2_with fail
            go_loopw [14, 92] (fun fv i wr => ∃ j : Nat, j ≤ C.length ∧ i = .int .i64 j ∧ fv = .bool (f j) ∧ Hid (Below A.heap.size A wr)) (fun _ i _ => C.length - (intOf i).toNat)
            case atStart => exact ⟨0, by omega, rfl, by rw [HHZ.out], Lib.hid (Below.refl _ _)⟩
            case round =>
              obtain ⟨j, hj, rfl, rfl, HBS⟩ := hrel
              rename World => w9
              by_cases hlt3 : j < C.length
              · have hlt3' : (j : Int) < C.length := by omega
                obtain ⟨z, hz⟩ : ∃ z, C[j]? = some z := ⟨_, List.getElem?_eq_getElem hlt3⟩
                obtain ⟨b2, o2, rfl⟩ := HIC.out.some (by intro e; rw [e] at hlt3; simp at hlt3)
                obtain ⟨x0, x1, x2, x3⟩ := ItsAt.cell (HIC7.out.below (HBA8.out.trans (HBS.out.mono HBA8.out.size))) hz
                have HFS := Lib.hid (HHS2.out j z hz)
                have heq := HEQ.out z
                have hie := fun W => ieq_in p d aa z.1 z.2.1 z.2.2 W
                have hq9 := (HBS.out.block BI (heap_lt HQA.out)).trans HQA.out
                have hA2 : Below w9.heap.size w9 (w9.alloc (.cells #[.int .i64 z.1, .int .i64 z.2.1, .int .i64 z.2.2] 48)) := (Below.refl _ _).alloc (Nat.le_refl _) _
                have HQZ := Lib.hid (heap_alloc_new w9 (.cells #[.int .i64 z.1, .int .i64 z.2.1, .int .i64 z.2.2] 48))
                have HQY := Lib.hid ((hA2.block BI (heap_lt hq9)).trans hq9)
                have HB9 := Lib.hid (HBS.out.trans (hA2.mono HBS.out.size))
                clear hz hq9 hA2
                obtain ⟨zp, zd, za⟩ := z
                simp only at *
                generalize hdz : decide ((p, d, aa) = (zp, zd, za)) = dz at *
                have HDZ := Lib.hid hdz
                clear hdz
                go_upto_region 22 with fail
                clear x0 x1 x2 x3
                generalize w9.alloc (.cells #[.int .i64 zp, .int .i64 zd, .int .i64 za] 48) = A2 at *
                generalize w9.heap.size = BZ at *
                have y0 := (blk_cell (i := 0) HQY.out rfl).1
                have y1 := (blk_cell (i := 1) HQY.out rfl).1
                have y2 := (blk_cell (i := 2) HQY.out rfl).1
                have y3 := heap_lt HQY.out
                have z0 := (blk_cell (i := 0) HQZ.out rfl).1
                have z1 := (blk_cell (i := 1) HQZ.out rfl).1
                have z2 := (blk_cell (i := 2) HQZ.out rfl).1
                have z3 := heap_lt HQZ.out
                cases hfj : f j with
                | true =>
                  have HF2 := Lib.hid (show f (j + 1) = true by rw [HFS.out, hfj]; rfl)
                  clear hfj heq hie
                  go_wp2
                  go_roundw
                  case rel => exact ⟨j + 1, by omega, by go_num, by rw [HF2.out], HB9⟩
                  case measure => simp [intOf]; omega
                | false =>
                  have HF2 := Lib.hid (show f (j + 1) = dz by rw [HFS.out, hfj]; rfl)
                  clear hfj
                  go_wp2
                  go_roundw
                  case rel => exact ⟨j + 1, by omega, by go_num, by rw [HF2.out], HB9⟩
                  case measure => simp [intOf]; omega
              · have hge3 : ¬ (j : Int) < C.length := by omega
                have hjc : j = C.length := by omega
                have HFE := Lib.hid (show f j = hb by rw [hjc]; exact HHA.out)
                rw [HFE.out]
                have HB9 := Lib.hid (HBA8.out.trans (HBS.out.mono HBA8.out.size))
                have hq9 := (HBS.out.block BI (heap_lt HQA.out)).trans HQA.out
                have y0 := (blk_cell (i := 0) hq9 rfl).1
                have y1 := (blk_cell (i := 1) hq9 rfl).1
                have y2 := (blk_cell (i := 2) hq9 rfl).1
                have y3 := heap_lt hq9
                have HIA := Lib.hid (HIY.out w9 (HB7.out.trans (HB9.out.mono HB7.out.size)))
                clear hjc hq9
                cases hb with
                | true =>
                  go_wp2_with (go_at_call 30; (with_reducible refine HIA.out.mono ?_); rintro e w10 ⟨rfl, hb10⟩)
                  have HB10 := Lib.hid (HB9.out.trans (hb10.mono HB9.out.size))
                  clear hb10
                  go_roundw
                  case rel => exact ⟨k2 + 1, by omega, by go_num, HB10⟩
                  case measure => simp [intOf]; omega
                | false =>
                  go_wp2_with (go_at_call 30; (with_reducible refine HIA.out.mono ?_); rintro e w10 ⟨rfl, hb10⟩)
                  have HB10 := Lib.hid (HB9.out.trans (hb10.mono HB9.out.size))
                  clear hb10
                  go_roundw
                  case rel => exact ⟨k2 + 1, by omega, by go_num, HB10⟩
                  case measure => simp [intOf]; omega
          · have hge2 : ¬ (k2 : Int) < its.length := by omega
            have HW8 := Lib.hid (HB7.out.trans (HBR.out.mono HB7.out.size))
            have HBG := Lib.hid fun (W : World) (hW : Below w3.heap.size w3 W) => ibegin_any BM BT bt M F W (HM3.out.below hW) (HT3.out.below hW)
            unfold CloseTo at HBG
            have HBG8 := Lib.hid (HBG.out w8 HW8.out)
            have HLY := Lib.hid (gram_lays HG.out)
            go_wp2_with (go_at_call 26; (with_reducible refine HBG8.out.mono ?_); rintro e w9 ⟨L, la3, lc3, rfl, hL1, hL2, hL3, hL4⟩)
            have HW9 := Lib.hid (HW8.out.trans (hL4.mono HW8.out.size))
            have HIL := Lib.hid hL3.its
            have HLP := Lib.hid hL1
            clear hL1 hL3 hL4 HBG8 hge2
            go_loopw [112] (fun i wr => ∃ k : Nat, k ≤ L.length ∧ i = .int .i64 k ∧ Hid (Below w9.heap.size w9 wr)) (fun i _ => L.length - (intOf i).toNat)
            case atStart => exact ⟨0, by omega, rfl, Lib.hid (Below.refl _ _)⟩
            case round =>
              clear HBR
              obtain ⟨k3, hk3, rfl, HBR⟩ := hrel
              rename World => w10
              have HW10 := Lib.hid (HW9.out.trans (HBR.out.mono HW9.out.size))
              by_cases hlt3 : k3 < L.length
              · have hlt3' : (k3 : Int) < L.length := by omega
                obtain ⟨y, hy⟩ : ∃ y, L[k3]? = some y := ⟨_, List.getElem?_eq_getElem hlt3⟩
                have hbeg := CloseP.begin HLP.out (List.mem_of_getElem? hy)
                obtain ⟨b, o, rfl⟩ := HIL.out.some (by intro e; rw [e] at hlt3; simp at hlt3)
                obtain ⟨x0, x1, x2, x3⟩ := ItsAt.cell (HIL.out.below HBR.out) hy
                clear hy
                obtain ⟨p, d, aa⟩ := y
                simp only at *
                obtain ⟨hd, hbg⟩ := hbeg
                subst hd
                have HBB := Lib.hid hbg
                clear hbg
                have hA : Below w10.heap.size w10 (w10.alloc (.cells #[.int .i64 p, .int .i64 0, .int .i64 aa] 48)) := (Below.refl _ _).alloc (Nat.le_refl _) _
                have HBA10 := Lib.hid (HBR.out.trans (hA.mono HBR.out.size))
                have HQA := Lib.hid (heap_alloc_new w10 (.cells #[.int .i64 p, .int .i64 0, .int .i64 aa] 48))
                clear hA
                go_upto_region 30 with fail
                clear x0 x1 x2 x3
                generalize w10.alloc (.cells #[.int .i64 p, .int .i64 0, .int .i64 aa] 48) = A at *
                generalize w10.heap.size = BI at *
                have y0 := (blk_cell (i := 0) HQA.out rfl).1
                have y1 := (blk_cell (i := 1) HQA.out rfl).1
                have y3 := heap_lt HQA.out
                by_cases hp : p < 0
                · go_wp2
                  go_roundw
                  case rel => exact ⟨k3 + 1, by omega, by go_num, HBA10⟩
                  case measure => simp [intOf]; omega
                · obtain ⟨z0, hz0, s0, hs1, hs2, hs3⟩ := HBB.out (by omega)
                  obtain ⟨j0, q, e1, e2, _, e4⟩ := (HMG.out.o _ _).1 hs3
                  have hs0 : q.1 = s0 := by omega
                  subst e1
                  obtain ⟨lys, hly1, hly2, hly3⟩ := HLY.out
                  have hj0 := (List.getElem?_eq_some_iff.1 e2).1
                  obtain ⟨lp, hlp⟩ : ∃ lp, lys[j0]? = some lp := ⟨_, List.getElem?_eq_getElem (by rw [← hly1, List.length_map] at hj0; exact hj0)⟩
                  have hlq : lp.left = s0 := by
                    rw [← hly1, List.getElem?_map, hlp] at e2
                    rw [← hs0, ← Option.some.inj e2]; rfl
                  obtain ⟨b3, o3, rfl, hb3, hc3⟩ := Cells.get hly2 (by intro e; have := (lays_at lys j0 lp hlp).1; rw [e] at this; simp at this)
                  have hc4 := hc3 _ _ (lays_at lys j0 lp hlp).1
                  rw [hlq] at hc4
                  have HPC := Lib.hid fun (W : World) (hW : Below S.heap.size S W) => (hW.cell (p := ⟨b3, o3 + j0 * 2, none⟩) hb3).trans hc4
                  have hjp : (j0 : Int) < g.prods.length := by omega
                  obtain ⟨f, hf⟩ : ∃ f : Nat → Bool, ∀ j, f j = (L.take j).any fun z => decide (nextM M z = some s0) := ⟨fun j => (L.take j).any fun z => decide (nextM M z = some s0), fun _ => rfl⟩
                  have HF0 := Lib.hid (show f 0 = false by rw [hf]; simp)
                  have HFA := Lib.hid (show f L.length = true by rw [hf, List.take_length, List.any_eq_true]; exact ⟨z0, hz0, by simpa using hs1⟩)
                  have HFS := Lib.hid fun (j : Nat) (z : It) (hz : L[j]? = some z) => (show f (j + 1) = (f j || decide (nextM M z = some s0)) by rw [hf, hf, List.take_add_one, hz, List.any_append]; simp)
                  have HBG10 := Lib.hid (HBG.out A (HW9.out.trans (HBA10.out.mono HW9.out.size)))
                  clear hf hz0 hs1 hs2 hs3 e2 e4 hs0 hly1 hly2 hly3 hj0 hlp hlq hb3 hc3 hc4
                  go_wp2_with (go_at_call 26; (with_reducible refine HBG10.out.mono ?_); rintro e w11 ⟨L2, la4, lc4, rfl, hN1, hN2, hN3, hN4⟩; obtain rfl := HLP.out.uniq hN1)
                  have HB11 := Lib.hid (HBA10.out.trans (hN4.mono HBA10.out.size))
                  have HIL2 := Lib.hid hN3.its
                  have HQB := Lib.hid ((hN4.block BI (heap_lt HQA.out)).trans HQA.out)
                  clear hN1 hN3 hN4 HBG10 y0 y1 y3
                  go_loopw [19, 125] (fun fv i wr => ∃ j : Nat, j ≤ L.length ∧ i = .int .i64 j ∧ fv = .bool (f j) ∧ Hid (Below w11.heap.size w11 wr)) (fun _ i _ => L.length - (intOf i).toNat)
                  case atStart => exact ⟨0, by omega, rfl, by rw [HF0.out], Lib.hid (Below.refl _ _)⟩
                  case round =>
                    obtain ⟨j, hj, rfl, rfl, HBS⟩ := hrel
                    rename World => w12
                    by_cases hlt4 : j < L.length
                    · have hlt4' : (j : Int) < L.length := by omega
                      obtain ⟨z, hz⟩ : ∃ z, L[j]? = some z := ⟨_, List.getElem?_eq_getElem hlt4⟩
                      obtain ⟨b2, o2, rfl⟩ := HIL2.out.some (by intro e; rw [e] at hlt4; simp at hlt4)
                      obtain ⟨x0, x1, x2, x3⟩ := ItsAt.cell (HIL2.out.below HBS.out) hz
                      have HF1 := Lib.hid (HFS.out j z hz)
                      have HNZ := Lib.hid (HNX.out z)
                      clear hz
                      generalize nextM M z = nz at *
                      obtain ⟨zp, zd, za⟩ := z
                      unfold itV at *
                      simp only at *
                      have hA2 : Below w12.heap.size w12 (w12.alloc (.cells #[.int .i64 zp, .int .i64 zd, .int .i64 za] 48)) := (Below.refl _ _).alloc (Nat.le_refl _) _
                      have HQZ := Lib.hid (heap_alloc_new w12 (.cells #[.int .i64 zp, .int .i64 zd, .int .i64 za] 48))
                      have HB13 := Lib.hid (HBS.out.trans (hA2.mono HBS.out.size))
                      clear hA2
                      go_upto_region 37 with fail
                      clear x0 x1 x2 x3
                      generalize w12.alloc (.cells #[.int .i64 zp, .int .i64 zd, .int .i64 za] 48) = A2 at *
                      generalize w12.heap.size = BZ at *
                      have z0 := (blk_cell (i := 0) HQZ.out rfl).1
                      have z1 := (blk_cell (i := 1) HQZ.out rfl).1
                      have z2 := (blk_cell (i := 2) HQZ.out rfl).1
                      have z3 := heap_lt HQZ.out
                      have HNW := Lib.hid (HNZ.out A2 (HW9.out.trans ((HB11.out.trans (HB13.out.mono HB11.out.size)).mono HW9.out.size)))
                      cases nz with
                      | none =>
                        have HF2 := Lib.hid (show f (j + 1) = f j by rw [HF1.out]; simp)
                        go_upto_region 38 with (go_at_call 29; (with_reducible refine HNW.out.mono ?_); rintro e w13 ⟨rfl, hb13⟩)
                        have HB14 := Lib.hid (HB13.out.trans (hb13.mono HB13.out.size))
                        clear hb13
                        rw [← HF2.out]
                        cases hfj : f (j + 1) with
                        | true =>
                          have HF3 := Lib.hid hfj
                          clear hfj
                          go_wp2
                          go_roundw
                          case rel => exact ⟨j + 1, by omega, by go_num, by rw [HF3.out], HB14⟩
                          case measure => simp [intOf]; omega
                        | false =>
                          have HF3 := Lib.hid hfj
                          clear hfj
                          go_wp2
                          go_roundw
                          case rel => exact ⟨j + 1, by omega, by go_num, by rw [HF3.out], HB14⟩
                          case measure => simp [intOf]; omega
                      | some t =>
                        go_upto_region 38 with (go_at_call 29; (with_reducible refine HNW.out.mono ?_); rintro e w13 ⟨rfl, hb13⟩)
                        have HB14 := Lib.hid (HB13.out.trans (hb13.mono HB13.out.size))
                        obtain ⟨v0, v1, v2, v3⟩ := HCXW.out w13 (HW9.out.trans ((HB11.out.trans (HB14.out.mono HB11.out.size)).mono HW9.out.size))
                        have v4 := HPC.out w13 (HB2.out.trans ((HB3.out.trans ((HW9.out.trans ((HB11.out.trans (HB14.out.mono HB11.out.size)).mono HW9.out.size)).mono HB3.out.size)).mono HB2.out.size))
                        have hqb := (((HB14.out).block BI (heap_lt HQB.out)).trans HQB.out)
                        have v5 := (blk_cell (i := 0) hqb rfl).1
                        have v6 := heap_lt hqb
                        clear hb13 hqb z0 z1 z2 z3
                        cases hfj : f j with
                        | true =>
                          have HF3 := Lib.hid (show f (j + 1) = true by rw [HF1.out, hfj]; rfl)
                          clear hfj
                          go_wp2
                          go_roundw
                          case rel => exact ⟨j + 1, by omega, by go_num, by rw [HF3.out], HB14⟩
                          case measure => simp [intOf]; omega
                        | false =>
                          by_cases hts : t = s0
                          · have HF3 := Lib.hid (show f (j + 1) = true by rw [HF1.out, hts]; simp)
                            have hb3 : (t == s0) = true := by simp [hts]
                            clear hfj hts
                            go_wp2
                            go_roundw
                            case rel => exact ⟨j + 1, by omega, by go_num, by rw [HF3.out], HB14⟩
                            case measure => simp [intOf]; omega
                          · have HF3 := Lib.hid (show f (j + 1) = false by rw [HF1.out, hfj]; simp [hts])
                            have hb3 : (t == s0) = false := by simp [hts]
                            clear hfj hts
                            go_wp2
                            go_roundw
                            case rel => exact ⟨j + 1, by omega, by go_num, by rw [HF3.out], HB14⟩
                            case measure => simp [intOf]; omega
                    · have hjl : j = L.length := by omega
                      have hge4 : ¬ (j : Int) < L.length := by omega
                      have HFE := Lib.hid (show f j = true by rw [hjl]; exact HFA.out)
                      have HB12 := Lib.hid (HB11.out.trans (HBS.out.mono HB11.out.size))
                      clear hjl
                      rw [HFE.out]
                      go_wp2
                      go_roundw
                      case rel => exact ⟨k3 + 1, by omega, by go_num, HB12⟩
                      case measure => simp [intOf]; omega
              · have hge3 : ¬ (k3 : Int) < L.length := by omega
                have hWS := HB2.out.trans ((HB3.out.trans (HW10.out.mono HB3.out.size)).mono HB2.out.size)
                have HWZ := Lib.hid (HWK.out w10 hWS)
                have HWS := Lib.hid hWS
                clear hWS
                go_wp2_with (go_at_call 31; (with_reducible refine HWZ.out.mono ?_); rintro e w11 ⟨rfl, hb11⟩)
                go_ret
                exact ⟨rfl, HBA.out.trans ((HWS.out.trans (hb11.mono HWS.out.size)).mono HBA.out.size)⟩
  · have HN1 := Lib.hid (HN.out.mono fun e w' ⟨hb, he⟩ => (by
      rcases he with ⟨h, _⟩ | ⟨_, h⟩
      · exact absurd h hfr
      · exact ⟨h, hb⟩ : e = Ending.returned (.tuple #[.pointer none, .int .i64 6]) ∧ Below S.heap.size S w'))
    go_wp2_with (first
      | (go_at_call 24; (with_reducible refine HN1.out.mono ?_); rintro e w2 ⟨rfl, hb2⟩)
      | (go_at_call 31; (with_reducible refine (HWK.out _ hb2).mono ?_); rintro e w3 ⟨rfl, hb3⟩))
    go_ret
    exact ⟨rfl, HBA.out.trans ((hb2.trans (hb3.mono hb2.size)).mono HBA.out.size)⟩
theorem itemCloses_row (x : RawX) (la : Option Addr) (len lc : Nat) (zs : List Int) (w : World) (hx : RawAt w x) (hr : IsRow .i64 w la len lc zs) (hT : Sl.Tab w) :
    Calls Tryd.prog 7 #[x.v, .slice la len lc] w fun e w' => e = .returned (.bool true) ∧ Below w.heap.size w w' := by
  obtain ⟨h1, h2⟩ := row_len hr
  have h := itemCloses_walk x la lc (zs.take len) w hx (row_cells hr) hT
  rwa [h1] at h
end Go.Proofs.YtbliobeibfecaaaDoor
