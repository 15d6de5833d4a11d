/- lang: Words, walked. -/
import Derived.Test.YtejjdfmobiegdaaDoorTrkW3
import Derived.Test.YtejjdfmobiegdaaDoorTrkV
set_option linter.unusedVariables false
namespace Go.Proofs.YtejjdfmobiegdaaDoor
open Go.RowKit
open Doc

/-- What the rows that bear words derive of the start is what the grammar derives. -/
theorem derB_has {g : Gr} (hck : CheckG g) {F : Nat} {l : List Int} {er : Int} {ls : List Lay} (hF : SetIs F (Fru g)) (hT : TrimOf g F l er) (hp : ls.map Lay.plain = g.prods) : derB (pickL ls l) = hasD g := by
  funext v
  rw [Bool.eq_iff_iff, derB_iff, hasD_iff]
  constructor
  · intro h
    refine der_mono (fun p hp' => ?_) h
    obtain ⟨q, hq, rfl⟩ := List.mem_map.1 hp'
    obtain ⟨k, _, hk⟩ := List.mem_filterMap.1 hq
    rw [← hp]; exact List.mem_map_of_mem (List.mem_of_getElem? hk)
  · intro h
    exact der_pick (pick_has hck hF hT (wd_fru h 100 (by simp) (by omega)) hp) h
def WordsEndL (g : Gr) (n most : Nat) (w : World) (e : Ending) (w' : World) : Prop := ∃ (a : Option Addr) (c : Nat) (R : List RowL), e = .returned (.tuple #[.slice a R.length c, .int .i64 0]) ∧ R.map (·.row) = ((Al.levs g.terms.length n).filter (hasD g)).take most ∧ (∃ base, w.heap.size ≤ base ∧ RowsG w' base a c R)

set_option maxRecDepth 100000 in
set_option maxHeartbeats 8000000 in
theorem lwords_any (v : Value) (g : Gr) (n most : Nat) (w : World) (hg : GramAt w v g) (hck : CheckG g) (hn : n ≤ 6) (hm : most ≤ 500) (hT : Tab32 w) :
    Calls Tryd.prog 13 #[v, .int .i64 n, .int .i64 most] w fun e w' => Below w.heap.size w w' ∧ WordsEndL g n most w e w' := by
  have hg0 := hg
  obtain ⟨a1, a2, a3, c1, c2, c3, ls, rfl, hp, k1, k2, k3, k4, k5, k6, k7⟩ := hg
  have hS : Below w.heap.size w (w.alloc (.cells #[.slice a1 g.terms.length c1, .slice a2 g.nons.length c2, .slice a3 ls.length c3] 29)) := (Below.refl _ _).alloc (Nat.le_refl _) _
  have hQ := heap_alloc_new w (.cells #[.slice a1 g.terms.length c1, .slice a2 g.nons.length c2, .slice a3 ls.length c3] 29)
  have HQ := Lib.hid hQ
  have x0 := (blk_cell (i := 0) (u := .slice a1 g.terms.length c1) hQ rfl).1
  have x1 := (blk_cell (i := 1) (u := .slice a2 g.nons.length c2) hQ rfl).1
  have x2 := (blk_cell (i := 2) (u := .slice a3 ls.length c3) hQ rfl).1
  have hl0 := heap_lt hQ
  have HGS := Lib.hid (hg0.below hS)
  have HTS := Lib.hid (hT.below hS)
  have HS := Lib.hid hS
  have HCK := Lib.hid hck
  have ht8 := hck.t8
  have g1 : decide ((n : Int) < 0) = false := by simp
  have g2 : decide ((n : Int) > 6) = false := by simp; omega
  have g3 : decide ((most : Int) < 0) = false := by simp
  have g4 : decide ((most : Int) > 500) = false := by simp; omega
  clear hg0 hp k1 k2 k3 k4 k5 k6 k7 hQ hck hS hT
  go_enter Tryd.func13, Tryd.ntmps13
  go_upto_region 1 with fail
  generalize hSq : w.alloc (.cells #[.slice a1 g.terms.length c1, .slice a2 g.nons.length c2, .slice a3 ls.length c3] 29) = S at *
  clear hSq
  generalize hB0 : w.heap.size = B0 at *
  have HB0 := Lib.hid hB0
  clear hB0
  have HCC := Lib.hid (check_calls _ g _ HGS.out HCK.out)
  have HBR := Lib.hid fun (W : World) (hW : Below S.heap.size S W) => bearing_any _ g W (HGS.out.below hW) HCK.out
  have HX := Lib.hid fun (W : World) (hW : Below S.heap.size S W) => (⟨(blk_cell (i := 0) ((hW.block B0 hl0).trans HQ.out) rfl).1, (blk_cell (i := 1) ((hW.block B0 hl0).trans HQ.out) rfl).1, (blk_cell (i := 2) ((hW.block B0 hl0).trans HQ.out) rfl).1, heap_lt ((hW.block B0 hl0).trans HQ.out)⟩ : W.cell? ⟨B0, 0, none⟩ = some (.slice a1 g.terms.length c1) ∧ W.cell? ⟨B0, 1, none⟩ = some (.slice a2 g.nons.length c2) ∧ W.cell? ⟨B0, 2, none⟩ = some (.slice a3 ls.length c3) ∧ B0 < W.heap.size)
  have HTL := Lib.hid fun (F : Nat) (l : List Int) (er : Int) (h : TrimOf g F l er) => (show l.length ≤ 1000000 by
    rcases h with ⟨_, _, rfl⟩ | ⟨_, _, rfl⟩
    · have := trimF_len F g.prods 0; have := HCK.out.p24; omega
    · simp)
  go_upto_region 6 with (go_at_call 44; refine HCC.out.mono ?_; rintro e w2 ⟨rfl, hb2⟩)
  have HB2 := Lib.hid hb2
  obtain ⟨y0, y1, y2, y3⟩ := HX.out w2 hb2
  clear hb2 x0 x1 x2
  go_upto_region 7 with (go_at_call 45; refine (HBR.out _ HB2.out).mono ?_; rintro e w3 ⟨hb3, F, l, er, ls2, a, c, hF, hTO, hpl2, rfl, hc3, hrw3⟩)
  have hS3 := HB2.out.trans (hb3.mono HB2.out.size)
  have HS3 := Lib.hid hS3
  have hPl := Nat.le_trans (pickL_len ls2 l) (HTL.out F l er hTO)
  have HDB := Lib.hid (derB_has HCK.out hF hTO hpl2)
  have HLO := Lib.hid (show ∀ X : Trk, X.ls = pickL ls2 l → LaysOk X from fun X hX p hp => lays_ok HCK.out hpl2 p (hX ▸ hp))
  have HFT := Lib.hid fun (m : Nat) (hmn : m ≤ 6) (W : World) (hW : Below w3.heap.size w3 W) => ftrack_any a c (pickL ls2 l) g.terms.length m W (hc3.below hW) (fun p hp => (hrw3 p hp).below hW) (HLO.out _ rfl) ht8 (by omega) hPl (HTS.out.below (hS3.trans (hW.mono hS3.size)))
  have HAW := Lib.hid fun (m : Nat) (hmn : m ≤ 6) (E : List Nat) (la : Option Addr) (lc : Nat) (R : List RowL) (W : World) (hX : TrkB ((newT a c (pickL ls2 l) g.terms.length m).wst (freeS m g.terms.length)) E g.terms.length m []) (hR : R.length ≤ 500) (hW : WSt w3.heap.size w3 W la lc R none 0 []) => (show Calls Tryd.prog 46 #[.slice la R.length lc, .agg (trkL (((newT a c (pickL ls2 l) g.terms.length m).wst (freeS m g.terms.length)).wen E)).toArray, .slice none 0 0, .int .i64 most] W (AddEnd (derB (pickL ls2 l)) g.terms.length most w3 W la R none 0 m []) from addw_any a c (pickL ls2 l) g.terms.length m most w3 hc3 hrw3 HLO.out ht8 hmn hm hPl (HTS.out.below hS3) m [] ((newT a c (pickL ls2 l) g.terms.length m).wst (freeS m g.terms.length)) E la lc R none 0 W (by simp) (fun s hs => by cases hs) rfl rfl rfl (fun x hx => by rw [show ((newT a c (pickL ls2 l) g.terms.length m).wst (freeS m g.terms.length)).en = List.replicate 104 0 from rfl, List.mem_replicate] at hx; omega) hX hR hW)
  have hz3 : S.heap.size ≤ w3.heap.size := hS3.size
  clear hb3 hF hTO hpl2 hc3 hrw3 hS3 y0 y1 y2 y3 HBR HCC HTL
  go_wp2_with fail
  go_loopw [10, 35] (fun v i wr => ∃ (m : Nat) (la : Option Addr) (lc : Nat) (R : List RowL), m ≤ n + 1 ∧ v = .slice la R.length lc ∧ i = .int .i64 m ∧ Hid (R.map (·.row) = (Al.wlen (hasD g) g.terms.length m).take most) ∧ Hid (WSt w3.heap.size w3 wr la lc R none 0 [])) (fun _ i _ => n + 1 - (intOf i).toNat)
  case atStart => exact ⟨0, none, 0, [], by omega, rfl, rfl, Lib.hid (by simp [Al.wlen]), Lib.hid ⟨Below.refl _ _, RowsG.nil _ _, World.ownsRow_nil _ _ _ _, fun r hr => by cases hr⟩⟩
  case round =>
    obtain ⟨m, la, lc, R, hmn, rfl, rfl, HR, HW⟩ := hrel
    by_cases hlt : m < n + 1
    · have e1 : (m : Int) < (n : Int) + 1 := by omega
      have hRl : R.length ≤ most := by
        have : (R.map (·.row)).length = R.length := List.length_map _
        rw [HR.out, List.length_take] at this
        omega
      have hR500 : R.length ≤ 500 := by omega
      have HRM := Lib.hid (show most - R.length = most - ((Al.wlen (hasD g) g.terms.length m).take most).length by rw [← HR.out, List.length_map])
      obtain ⟨y0, y1, y2, y3⟩ := HX.out wr (HS3.out.trans (HW.out.below.mono hz3))
      have HF1 := Lib.hid (HFT.out m (by omega) wr HW.out.below)
      have HJ := Lib.hid (HAW.out m (by omega))
      have hbz : w3.heap.size ≤ wr.heap.size := HW.out.below.size
      clear hRl
      go_wp2_with (first
        | (go_at_call 47; (with_reducible refine HF1.out.mono ?_); rintro e w4 ⟨hb4, E, rfl, hX4⟩
           have HW4 := Lib.hid (HW.out.later hbz hb4)
           have HX4 := Lib.hid hX4
           clear hb4 hX4)
        | (go_at_call 46; (with_reducible refine (HJ.out E la lc R w4 HX4.out hR500 HW4.out).mono ?_); rintro e w5 ⟨la5, lc5, N, rfl, hN, hW5, hT5⟩
           have HN := Lib.hid hN
           have HW5 := Lib.hid hW5
           clear hN hW5 hT5))
      go_roundw
      case rel => exact ⟨m + 1, la5, lc5, R ++ N, by omega, by rw [List.length_append], by go_num, Lib.hid (by rw [List.map_append, HR.out, HN.out, HRM.out, HDB.out, take_step]; rfl), HW5⟩
      case measure => simp [intOf]; omega
    · have hmn2 : m = n + 1 := by omega
      subst hmn2
      have HFN := Lib.hid (show R.map (·.row) = ((Al.levs g.terms.length n).filter (hasD g)).take most by rw [HR.out, Al.wlen_levs])
      have e1 : ¬ ((n + 1 : Nat) : Int) < (n : Int) + 1 := by omega
      go_wp2
      go_ret2
      exact ⟨by rw [HB0.out]; exact HS.out.trans ((HS3.out.trans (HW.out.below.mono hz3)).mono (Nat.le_of_lt hl0)), la, lc, R, rfl, HFN.out, w3.heap.size, by rw [HB0.out]; omega, HW.out.rows⟩
end Go.Proofs.YtejjdfmobiegdaaDoor
