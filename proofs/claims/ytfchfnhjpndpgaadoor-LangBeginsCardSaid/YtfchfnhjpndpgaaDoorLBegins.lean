/- LangBegins, walked. -/
import Derived.Test.YtfchfnhjpndpgaaDoorTrkV
import Derived.Test.YtfchfnhjpndpgaaDoorPlayH
set_option linter.unusedVariables false
namespace Go.Proofs.YtfchfnhjpndpgaaDoor
open Go.RowKit
open Doc

set_option maxRecDepth 100000 in
set_option maxHeartbeats 8000000 in
theorem langBegins_walk (x : RawX) (la : Option Addr) (lc : Nat) (row : List Int) (cut : Int) (w : World) (hx : RawAt w x) (hl : Cells w la (nums row)) (hrl : row.length ≤ 17592186044404) (hT : Tab32 w) :
    Calls Tryd.prog 6 #[x.v, .slice la row.length lc, .int .i64 cut] w fun e w' => e = .returned (.bool true) ∧ Below w.heap.size w w' := by
  have hck : CheckG x.any := anyF_check x.terms x.nons x.plain
  have hAN := Lib.hid (fun W h => any_gram x W h)
  have HCK := Lib.hid hck
  have ht8 := hck.t8
  have ht1 := hck.t1
  have hp24 := hck.p24
  generalize hgg : x.any = g at *
  have HX := Lib.hid hx
  have HTT := Lib.hid hT
  clear hx hck hgg hT
  obtain ⟨xp, xt, xn, xh, rows, xa, xc, word⟩ := x
  unfold RawX.v at *
  simp only at *
  have hb0 : Below w.heap.size w (w.alloc (.cells #[.int .i64 xp, .int .i64 xt, .int .i64 xn, .int .i64 xh, .slice xa rows.length xc, .string word] 43)) := (Below.refl _ _).alloc (Nat.le_refl _) _
  have HA1 := Lib.hid (hAN.out _ (HX.out.below hb0))
  have HB0 := Lib.hid hb0
  have HL := Lib.hid hl
  clear hAN hb0 hl
  go_enter Tryd.func6, Tryd.ntmps6
  go_upto_region 2 with (go_at_call 26; refine HA1.out.mono ?_; rintro e w1 ⟨hb1, at_, an, ap, ct, cn, cp, ls, rfl, hg1, hls, hc1, hr1⟩)
  have hll : ls.length = g.prods.length := by rw [← hls, List.length_map]
  rw [hll] at hg1 ⊢
  have hbA := (HB0.out.trans (hb1.mono HB0.out.size)).alloc (Nat.le_trans HB0.out.size hb1.size) (.cells #[.slice at_ g.terms.length ct, .slice an g.nons.length cn, .slice ap g.prods.length cp] 25)
  have hbS : Below w1.heap.size w1 (w1.alloc (.cells #[.slice at_ g.terms.length ct, .slice an g.nons.length cn, .slice ap g.prods.length cp] 25)) := (Below.refl _ _).alloc (Nat.le_refl _) _
  have q0 := heap_alloc_new w1 (.cells #[.slice at_ g.terms.length ct, .slice an g.nons.length cn, .slice ap g.prods.length cp] 25)
  have HG := Lib.hid (hg1.below hbS)
  have HBA := Lib.hid hbA
  have HQ0 := Lib.hid q0
  clear hb1 hg1 hls hc1 hr1 hbA hbS q0 HA1 HX HB0 hll
  generalize w1.alloc (.cells #[.slice at_ g.terms.length ct, .slice an g.nons.length cn, .slice ap g.prods.length cp] 25) = S at *
  generalize w1.heap.size = B1 at *
  have HLS := Lib.hid (HL.out.below HBA.out)
  have hl1 : B1 < S.heap.size := heap_lt HQ0.out
  go_wp2_with fail
  go_loopw [8, 9] (fun sl i wr => ∃ (k : Nat) (a : Option Addr) (c : Nat) (l : List Int), k ≤ row.length ∧ k ≤ 6 ∧ l.length = k ∧ sl = .slice a l.length c ∧ i = .int .i64 k ∧ Hid (∀ y ∈ l, 1 ≤ y ∧ y ≤ (g.terms.length : Int)) ∧ Hid (wr.ownsRow S.heap.size 3 1 (.slice a l.length c) l.length (nums l)) ∧ Hid (Below S.heap.size S wr)) (fun _ i _ => 6 - (intOf i).toNat)
  case atStart => exact ⟨0, none, 0, [], by omega, by omega, rfl, rfl, rfl, Lib.hid (by simp), Lib.hid (World.ownsRow_nil _ _ _ _), Lib.hid (Below.refl _ _)⟩
  case round =>
    obtain ⟨k, a, c, l, hkr, hk6, hlk, rfl, rfl, HSY, HO, HBR⟩ := hrel
    have HLK := Lib.hid hlk
    have hl6 : l.length ≤ 6 := by omega
    have q0 := (HBR.out.block B1 hl1).trans HQ0.out
    have d0 := (blk_cell (i := 0) q0 rfl).1
    have d1 := (blk_cell (i := 1) q0 rfl).1
    have d2 := (blk_cell (i := 2) q0 rfl).1
    have d3 := heap_lt q0
    clear hlk q0
    by_cases hlt : k < row.length ∧ k < 6
    · obtain ⟨hlt, hlt3⟩ := hlt
      obtain ⟨y, hy⟩ : ∃ y, row[k]? = some y := ⟨_, List.getElem?_eq_getElem hlt⟩
      have e1 : (k : Int) < row.length := by omega
      have e2 : (k : Int) < 6 := by omega
      obtain ⟨rb, ro, rfl, hrb, hrc⟩ := (HLS.out.below HBR.out).get (by unfold nums; intro e; rw [List.map_eq_nil_iff] at e; rw [e] at hlt; simp at hlt)
      have x0 := hrc k _ (nums_at hy)
      obtain ⟨v2, hv, hvl⟩ : ∃ v2 : Nat, y % (g.terms.length : Int) = v2 ∧ v2 < g.terms.length := ⟨(y % (g.terms.length : Int)).toNat, by
        have := Int.emod_nonneg y (show (g.terms.length : Int) ≠ 0 by omega); omega, by
        have := Int.emod_nonneg y (show (g.terms.length : Int) ≠ 0 by omega)
        have := Int.emod_lt_of_pos y (show (0 : Int) < (g.terms.length : Int) by omega); omega⟩
      have HWI := Lib.hid fun W => (within_any y g.terms.length (by omega) (by omega) W).mono fun e w' h => (⟨h.1.trans (by rw [hv]), h.2⟩ : e = Ending.returned (.int .i64 v2) ∧ w' = W)
      have HOD := Lib.hid (own_same HO.out (w' := wr.drew) (fun g _ _ => rfl))
      have HLT := Lib.hid hlt
      have HSN := Lib.hid (show ∀ z ∈ l ++ [1 + (v2 : Int)], 1 ≤ z ∧ z ≤ (g.terms.length : Int) from fun z hz => by
        rcases List.mem_append.1 hz with hz | hz
        · exact HSY.out z hz
        · rw [List.mem_singleton.1 hz]; exact ⟨by omega, by omega⟩)
      have hwr : IntKind.i64.wrap (1 + (v2 : Int)) = 1 + (v2 : Int) := IntWalk.i64_in _ (by omega)
      clear hv hy hrc hlt
      go_upto_region 6 with fail
      go_region_law (first
        | (refine step_app ?_ (.tmp 23) (.tmp 33) ?_ S.heap.size a l.length c l ?_ (HOD.out.alloc _) ?_ (some ⟨wr.heap.size, 0, none⟩) [1 + (v2 : Int)] 1 ?_ (cells_new wr.drew (#[.int .i64 (1 + (v2 : Int))] : Array Value) 3) ?_ ?_; (rfl); (rfl); (rfl); (have := HBR.out.size; simp; omega); (rfl); (simp; omega); intro va' vc' w' hown' hb')
        | (rw [if_pos (by simp [Region.wanted])]; go_wp2_with (go_at_call 13; (with_reducible refine (HWI.out _).mono ?_); rintro e w9 ⟨rfl, hw9⟩; rw [hw9]; clear hw9)))
      all_goals
        go_wp2
        exact ⟨⟨k + 1, va', vc', l ++ [1 + (v2 : Int)], by have := HLT.out; omega, by omega, by rw [List.length_append, HLK.out]; rfl, by rw [List.length_append]; rfl, by go_num, HSN, Lib.hid (by rw [List.length_append]; exact hown'), Lib.hid ((HBR.out.alloc HBR.out.size _).drew.trans hb')⟩, by simp [intOf]; omega⟩
    · have hex : ¬ (k : Int) < row.length ∨ ((k : Int) < row.length ∧ ¬ (k : Int) < 6) := by omega
      have hcap := (own_cells HO.out).2
      have HCL := Lib.hid (own_cells HO.out).1
      have hsz := HBR.out.size
      have HG2 := Lib.hid (HG.out.below HBR.out)
      have HT2 := Lib.hid (HTT.out.below (HBA.out.trans (HBR.out.mono HBA.out.size)))
      have HBT := Lib.hid (HBA.out.trans (HBR.out.mono HBA.out.size))
      obtain ⟨v3, hv, hvl⟩ : ∃ v3 : Nat, cut % ((l.length : Int) + 1) = v3 ∧ v3 ≤ l.length := ⟨(cut % ((l.length : Int) + 1)).toNat, by
        have := Int.emod_nonneg cut (show (l.length : Int) + 1 ≠ 0 by omega); omega, by
        have := Int.emod_nonneg cut (show (l.length : Int) + 1 ≠ 0 by omega)
        have := Int.emod_lt_of_pos cut (show (0 : Int) < (l.length : Int) + 1 by omega); omega⟩
      have HWI := Lib.hid fun W => (within_any cut ((l.length : Int) + 1) (by omega) (by omega) W).mono fun e w' h => (⟨h.1.trans (by rw [hv]), h.2⟩ : e = Ending.returned (.int .i64 v3) ∧ w' = W)
      have HQ2 := Lib.hid fun (W : World) (hW : Below wr.heap.size wr W) => (show W.heap[B1]? = _ from (hW.block B1 (by omega)).trans ((HBR.out.block B1 hl1).trans HQ0.out))
      have HCX := Lib.hid fun (W : World) (hW : Below wr.heap.size wr W) => (⟨(blk_cell (i := 0) (HQ2.out W hW) rfl).1, (blk_cell (i := 1) (HQ2.out W hW) rfl).1, (blk_cell (i := 2) (HQ2.out W hW) rfl).1, heap_lt (HQ2.out W hW)⟩ : W.cell? ⟨B1, 0, none⟩ = some (.slice at_ g.terms.length ct) ∧ W.cell? ⟨B1, 1, none⟩ = some (.slice an g.nons.length cn) ∧ W.cell? ⟨B1, 2, none⟩ = some (.slice ap g.prods.length cp) ∧ B1 < W.heap.size)
      have HHA := Lib.hid fun (W : World) (hW : Below wr.heap.size wr W) => lhas_d _ g a c l W (HG2.out.below hW) HCK.out (HCL.out.below hW) (by omega) HSY.out (HT2.out.below hW)
      have HBE := Lib.hid fun (W : World) (hW : Below wr.heap.size wr W) => lbegins_d _ g a c l W (HG2.out.below hW) HCK.out (HCL.out.below hW) (by omega) HSY.out (HT2.out.below hW)
      have hlt : (l.take v3).length = v3 := by rw [List.length_take]; omega
      have hct : Cells wr a (nums (l.take v3)) := by
        rcases HCL.out with h0 | ⟨b, o, h1, h2, h3⟩
        · left
          unfold nums at h0 ⊢
          rw [List.map_eq_nil_iff] at h0
          rw [h0]; simp
        · right
          refine ⟨b, o, h1, h2, fun j u hj => h3 j u ?_⟩
          unfold nums at hj ⊢
          rw [List.map_take, List.getElem?_take] at hj
          split at hj
          · exact hj
          · cases hj
      have HBK := Lib.hid fun (W : World) (hW : Below wr.heap.size wr W) => (by
        have := lbegins_d _ g a c (l.take v3) W (HG2.out.below hW) HCK.out (hct.below hW) (by omega) (fun s hs => HSY.out s (List.mem_of_mem_take hs)) (HT2.out.below hW)
        rwa [hlt] at this : Calls Tryd.prog 17 #[_, .slice a v3 c] W fun e w' => e = .returned (.bool (begD g (l.take v3))) ∧ Below W.heap.size W w')
      have hvc : v3 ≤ c := by omega
      have hvc' : (v3 : Int) ≤ c := by omega
      have HTR := Lib.hid fun (W : World) (hW : Below wr.heap.size wr W) => rtrim_any _ g W (HG2.out.below hW) HCK.out
      have HBN := Lib.hid fun (W : World) (hW : Below wr.heap.size wr W) => ((lbegins_d _ g none 0 [] W (HG2.out.below hW) HCK.out (.inl rfl) (by simp) (fun s hs => by cases hs) (HT2.out.below hW)).mono fun e w' h => ⟨h.1.trans (by rw [rtrim_pos HCK.out]), h.2⟩ : Calls Tryd.prog 17 #[_, .slice none 0 0] W fun e w' => e = .returned (.bool (decide ((0 : Int) < ((rtrimL g).length : Int)))) ∧ Below W.heap.size W w')
      have HWK := Lib.hid fun (W : World) (hW : Below wr.heap.size wr W) => lwakes_any W (HT2.out.below hW)
      obtain ⟨x0, x1, x2, x3⟩ := HCX.out wr (Below.refl _ _)
      clear hv hct hlt d0 d1 d2 d3 HO HQ2 HG2 HT2 HCL
      rcases hex with hx1 | ⟨hx1, hx2⟩
      all_goals
        go_upto_region 8 with (go_at_call 13; (with_reducible refine (HWI.out _).mono ?_); rintro e w9 ⟨rfl, hw9⟩; obtain rfl := hw9.symm)
        go_upto_if 61 with fail
        go_cut [61] from 40 to 61 (fun b wx => b = .bool false ∧ Hid (Below wr.heap.size wr wx))
        case first =>
          cases hB : begD g l with
          | true =>
            have hK := beg_take v3 hB
            have HB1 := Lib.hid fun (W : World) (hW : Below wr.heap.size wr W) => ((HBE.out W hW).mono fun e w' h => ⟨h.1.trans (by rw [hB]), h.2⟩ : Calls Tryd.prog 17 #[_, .slice a l.length c] W fun e w' => e = .returned (.bool true) ∧ Below W.heap.size W w')
            have HK1 := Lib.hid fun (W : World) (hW : Below wr.heap.size wr W) => ((HBK.out W hW).mono fun e w' h => ⟨h.1.trans (by rw [hK]), h.2⟩ : Calls Tryd.prog 17 #[_, .slice a v3 c] W fun e w' => e = .returned (.bool true) ∧ Below W.heap.size W w')
            cases hH : hasD g l with
            | true =>
              have HH1 := Lib.hid fun (W : World) (hW : Below wr.heap.size wr W) => ((HHA.out W hW).mono fun e w' h => ⟨h.1.trans (by rw [hH]), h.2⟩ : Calls Tryd.prog 16 #[_, .slice a l.length c] W fun e w' => e = .returned (.bool true) ∧ Below W.heap.size W w')
              clear hH hB hK HHA HBE HBK
              (first | (go_region_with (first
                | (go_at_call 16; refine (HH1.out _ (below_drews (Below.refl _ _) 1)).mono ?_; rintro e w3 ⟨rfl, hb3⟩
                   have hS3 := (Below.refl wr.heap.size wr).drew.trans hb3
                   have HS3 := Lib.hid hS3
                   obtain ⟨y0, y1, y2, y3⟩ := HCX.out w3 hS3
                   clear hb3 hS3)
                | (go_at_call 17; (with_reducible refine (HB1.out _ HS3.out).mono ?_); rintro e w4 ⟨rfl, hb4⟩
                   have hS4 := HS3.out.trans (hb4.mono HS3.out.size)
                   have HS4 := Lib.hid hS4
                   obtain ⟨z0, z1, z2, z3⟩ := HCX.out w4 hS4
                   clear hb4 hS4)
                | (go_at_call 17; (with_reducible refine (HB1.out _ HS4.out).mono ?_); rintro e w5 ⟨rfl, hb5⟩
                   have hS5 := HS4.out.trans (hb5.mono HS4.out.size)
                   have HS5 := Lib.hid hS5
                   obtain ⟨u0, u1, u2, u3⟩ := HCX.out w5 hS5
                   clear hb5 hS5)
                | (go_at_call 17; (with_reducible refine (HK1.out _ HS5.out).mono ?_); rintro e w6 ⟨rfl, hb6⟩
                   have hS6 := HS5.out.trans (hb6.mono HS5.out.size)
                   have HS6 := Lib.hid hS6
                   obtain ⟨v0, v1, v2, v3⟩ := HCX.out w6 hS6
                   clear hb6 hS6))) | fail)
              all_goals
                go_wp2
                go_meet
                case rel => exact ⟨rfl, HS6⟩
            | false =>
              have HH1 := Lib.hid fun (W : World) (hW : Below wr.heap.size wr W) => ((HHA.out W hW).mono fun e w' h => ⟨h.1.trans (by rw [hH]), h.2⟩ : Calls Tryd.prog 16 #[_, .slice a l.length c] W fun e w' => e = .returned (.bool false) ∧ Below W.heap.size W w')
              clear hH hB hK HHA HBE HBK
              (first | (go_region_with (first
                | (go_at_call 16; refine (HH1.out _ (below_drews (Below.refl _ _) 1)).mono ?_; rintro e w3 ⟨rfl, hb3⟩
                   have hS3 := (Below.refl wr.heap.size wr).drew.trans hb3
                   have HS3 := Lib.hid hS3
                   obtain ⟨y0, y1, y2, y3⟩ := HCX.out w3 hS3
                   clear hb3 hS3)
                | (go_at_call 17; (with_reducible refine (HB1.out _ HS3.out).mono ?_); rintro e w5 ⟨rfl, hb5⟩
                   have hS5 := HS3.out.trans (hb5.mono HS3.out.size)
                   have HS5 := Lib.hid hS5
                   obtain ⟨u0, u1, u2, u3⟩ := HCX.out w5 hS5
                   clear hb5 hS5)
                | (go_at_call 17; (with_reducible refine (HK1.out _ HS5.out).mono ?_); rintro e w6 ⟨rfl, hb6⟩
                   have hS6 := HS5.out.trans (hb6.mono HS5.out.size)
                   have HS6 := Lib.hid hS6
                   obtain ⟨v0, v1, v2, v3⟩ := HCX.out w6 hS6
                   clear hb6 hS6))) | fail)
              all_goals
                go_wp2
                go_meet
                case rel => exact ⟨rfl, HS6⟩
          | false =>
            have hH : hasD g l = false := by
              cases h : hasD g l with
              | false => rfl
              | true => rw [has_beg h] at hB; cases hB
            have HB1 := Lib.hid fun (W : World) (hW : Below wr.heap.size wr W) => ((HBE.out W hW).mono fun e w' h => ⟨h.1.trans (by rw [hB]), h.2⟩ : Calls Tryd.prog 17 #[_, .slice a l.length c] W fun e w' => e = .returned (.bool false) ∧ Below W.heap.size W w')
            have HH1 := Lib.hid fun (W : World) (hW : Below wr.heap.size wr W) => ((HHA.out W hW).mono fun e w' h => ⟨h.1.trans (by rw [hH]), h.2⟩ : Calls Tryd.prog 16 #[_, .slice a l.length c] W fun e w' => e = .returned (.bool false) ∧ Below W.heap.size W w')
            clear hH hB HHA HBE HBK
            (first | (go_region_with (first
              | (go_at_call 16; refine (HH1.out _ (below_drews (Below.refl _ _) 1)).mono ?_; rintro e w3 ⟨rfl, hb3⟩
                 have hS3 := (Below.refl wr.heap.size wr).drew.trans hb3
                 have HS3 := Lib.hid hS3
                 obtain ⟨y0, y1, y2, y3⟩ := HCX.out w3 hS3
                 clear hb3 hS3)
              | (go_at_call 17; (with_reducible refine (HB1.out _ HS3.out).mono ?_); rintro e w6 ⟨rfl, hb6⟩
                 have hS6 := HS3.out.trans (hb6.mono HS3.out.size)
                 have HS6 := Lib.hid hS6
                 obtain ⟨u0, u1, u2, u3⟩ := HCX.out w6 hS6
                 clear hb6 hS6))) | fail)
            all_goals
              go_wp2
              go_meet
              case rel => exact ⟨rfl, HS6⟩
        case rest =>
          obtain ⟨rfl, HS6⟩ := hcut
          rename World => w6
          obtain ⟨v0, v1, v2, v3⟩ := HCX.out w6 HS6.out
          clear x0 x1 x2 x3 HHA HBE HBK
          go_upto_region 10 with fail
          go_region_with (first
            | (go_at_call 17; refine (HBN.out _ (below_drews HS6.out 1)).mono ?_; rintro e wa ⟨rfl, hba⟩
               have hSa := HS6.out.drew.trans (hba.mono HS6.out.size)
               have HSa := Lib.hid hSa
               obtain ⟨s0, s1, s2, s3⟩ := HCX.out wa hSa
               clear hba hSa)
            | (go_at_call 27; (with_reducible refine (HTR.out _ HSa.out).mono ?_); rintro e wb ⟨hbb, ta, tc, rfl, hob⟩
               have hSb := HSa.out.trans (hbb.mono HSa.out.size)
               have HSb := Lib.hid hSb
               clear hbb hSb hob)
            | (go_at_call 18; (with_reducible refine (HWK.out _ HSb.out).mono ?_); rintro e wc ⟨rfl, hbc⟩
               have hSc := HSb.out.trans (hbc.mono HSb.out.size)
               have HSc := Lib.hid hSc
               clear hbc hSc))
          all_goals
            go_wp2
            go_ret
            exact ⟨rfl, HBT.out.trans (HSc.out.mono HBT.out.size)⟩
end Go.Proofs.YtfchfnhjpndpgaaDoor
