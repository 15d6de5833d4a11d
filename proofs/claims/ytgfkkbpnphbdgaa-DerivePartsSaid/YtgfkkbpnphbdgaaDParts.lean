/- DeriveParts: walked. -/
import Derived.Test.YtgfkkbpnphbdgaaDerX
import Derived.Test.YtgfkkbpnphbdgaaRaw
import Derived.Test.YtgfkkbpnphbdgaaAppAll
import Derived.Test.YtgfkkbpnphbdgaaPlayH
import Derived.Test.YtgfkkbpnphbdgaaSpanR
import Derived.Deep.RegionLaw
import Derived.Deep.AppendLies
set_option linter.unusedVariables false
set_option linter.unusedSimpArgs false
namespace Go.Proofs.Ytgfkkbpnphbdgaa
open Go.RowKit
open Doc Dr

theorem sym_wide {g : Gr} (hc : CheckG g) {s : Int} (h : symB g s = true) : wideI s := by
  have := (symB_iff g s).1 h
  have := hc.t8; have := hc.n8
  unfold symOk at *; unfold wideI; omega
/-- Can, of a grammar that may be, of what its symbols are. -/
theorem can_ok {g : Gr} (hc : CheckG g) {v : Value} {root : Int} {u : List Int} {c : Nat} {a : Option Addr} {W : World} (hg : GramAt W v g) (hr : symB g root = true) (hu : Cells W a (nums u)) (hs : ∀ s ∈ u, symB g s = true) (hl : u.length ≤ 1000000) :
    Calls Try.prog 13 #[v, .int .i64 root, .slice a u.length c] W fun e w' => e = .returned (.bool (canB g root u)) ∧ Below W.heap.size W w' :=
  can_calls v g root a c u W hg (check_tiny hc).mid (sym_wide hc hr) hu (by omega) (fun s h => sym_wide hc (hs s h))
theorem can_true {g : Gr} (hc : CheckG g) {root : Int} {u : List Int} (hr : symB g root = true) (hs : ∀ s ∈ u, symB g s = true) (hl : u.length ≤ 12) (hd : Sp.DerF g.prods [root] u) : canB g root u = true :=
  canB_iff.2 ⟨⟨hc, hr, hl, by omega, by omega, hs⟩, hd⟩
theorem part_cells {W : World} {a : Option Addr} {l : List Int} {c at0 tt : Nat} (h : Cells W a (nums l)) (ht : at0 ≤ tt ∧ tt ≤ l.length) (hlc : l.length ≤ c) : Cells W (if c = at0 then a else Option.map (fun x => x.add at0) a) (nums ((l.drop at0).take (tt - at0))) := by
  by_cases hz : (l.drop at0).take (tt - at0) = []
  · rw [hz]; exact .inl rfl
  · have hlt : at0 < l.length := by
      rcases Nat.lt_or_ge at0 l.length with h1 | h1
      · exact h1
      · exact absurd (by rw [List.drop_eq_nil_of_le h1]; simp) hz
    obtain ⟨b, off, rfl, hb, hc⟩ := h.get (by unfold nums; intro e; rw [List.map_eq_nil_iff] at e; rw [e] at hlt; simp at hlt)
    rw [if_neg (by omega)]
    refine .inr ⟨b, off + at0, by simp only [Option.map_some]; rw [addr_add' b off at0], hb, fun i v hi => ?_⟩
    unfold nums at hi
    rw [List.getElem?_map, List.getElem?_take] at hi
    by_cases hil : i < tt - at0
    · rw [if_pos hil, List.getElem?_drop] at hi
      rw [Nat.add_assoc]
      exact hc (at0 + i) v (by unfold nums; rw [List.getElem?_map]; exact hi)
    · rw [if_neg hil] at hi; cases hi
theorem symB_pr {g : Gr} (hc : CheckG g) {pl : Int} {pr : List Int} (hp : (pl, pr) ∈ g.prods) {j : Nat} {y : Int} (hy : pr[j]? = some y) : symB g y = true := (symB_iff g y).2 ((hc.pv _ hp).2.2 y (List.mem_of_getElem? hy))
theorem part_der {ps : List (Int × List Int)} {pr l : List Int} {j at0 tt : Nat} {y : Int} (hy : pr[j]? = some y) (ht : at0 ≤ tt ∧ tt ≤ l.length) (h1 : Sp.DerF ps (pr.take j) (l.take at0)) (h2 : Sp.DerF ps [y] ((l.drop at0).take (tt - at0))) : Sp.DerF ps (pr.take (j + 1)) (l.take tt) := by
  rw [List.take_add_one, hy]
  have : l.take tt = l.take at0 ++ (l.drop at0).take (tt - at0) := by
    conv => lhs; rw [show tt = at0 + (tt - at0) by omega]
    rw [List.take_add]
  rw [this]
  exact h1.append h2
set_option maxRecDepth 100000 in
set_option maxHeartbeats 16000000 in
theorem deriveParts_walk (x : RawX) (pk : Int) (la : Option Addr) (lc : Nat) (row : List Int) (ca : Option Addr) (cc : Nat) (cuts : List Int) (w : World) (hx : RawAt w x) (hl : Cells w la (nums row)) (hrl : row.length ≤ 17592186043904) (hrw : ∀ y ∈ row, -9223372036854775808 ≤ y ∧ y ≤ 9223372036854775807)
    (hcl : Cells w ca (nums cuts)) (hcr : cuts.length ≤ 17592186043904) (hcw : ∀ y ∈ cuts, -9223372036854775808 ≤ y ∧ y ≤ 9223372036854775807) :
    Calls Try.prog 8 #[x.v, .int .i64 pk, .slice la row.length lc, .slice ca cuts.length cc] w fun e w' => e = .returned (.bool true) ∧ Below w.heap.size w w' := by
  have hck : CheckG x.any := anyF_check x.terms x.nons x.plain
  have hAN := Lib.hid (fun W h => any_gram x W h)
  have HCK := Lib.hid hck
  have ht8 := hck.t8
  have hn8 := hck.n8
  have ht1 := hck.t1
  have hp24 := hck.p24
  have hp1 := hck.p1
  generalize hgg : x.any = g at *
  have HX := Lib.hid hx
  have HRW := Lib.hid hrw
  have HCW := Lib.hid hcw
  clear hx hck hgg hrw hcw
  obtain ⟨xp, xt, xn, xh, rows, xa, xc, word⟩ := x
  unfold RawX.v at *
  simp only at *
  have hb0 : Below w.heap.size w (w.alloc (.cells #[.int .i64 xp, .int .i64 xt, .int .i64 xn, .int .i64 xh, .slice xa rows.length xc, .string word] 46)) := (Below.refl _ _).alloc (Nat.le_refl _) _
  have HA1 := Lib.hid (hAN.out _ (HX.out.below hb0))
  have HB0 := Lib.hid hb0
  have HL := Lib.hid hl
  have HCL := Lib.hid hcl
  clear hAN hb0 hl hcl
  go_enter Try.func8, Try.ntmps8
  go_upto_region 2 with (go_at_call 22; refine HA1.out.mono ?_; rintro e w1 ⟨hb1, at_, an, ap, ct, cn, cp, ls, rfl, hg1, hls, hc1, hr1⟩)
  have hbA := (HB0.out.trans (hb1.mono HB0.out.size)).alloc (Nat.le_trans HB0.out.size hb1.size) (.cells #[.slice at_ g.terms.length ct, .slice an g.nons.length cn, .slice ap ls.length cp] 25)
  have hbS : Below w1.heap.size w1 (w1.alloc (.cells #[.slice at_ g.terms.length ct, .slice an g.nons.length cn, .slice ap ls.length cp] 25)) := (Below.refl _ _).alloc (Nat.le_refl _) _
  have q0 := heap_alloc_new w1 (.cells #[.slice at_ g.terms.length ct, .slice an g.nons.length cn, .slice ap ls.length cp] 25)
  have HG := Lib.hid (hg1.below hbS)
  have HBA := Lib.hid hbA
  have HQ0 := Lib.hid q0
  have HLS := Lib.hid hls
  have HC1 := Lib.hid (hc1.below hbS)
  have HR1 := Lib.hid fun p hp => (hr1 p hp).below hbS
  have hll : ls.length = g.prods.length := by rw [← hls, List.length_map]
  have hl24 : ls.length ≤ 24 := by omega
  have hl1 : 1 ≤ ls.length := by omega
  clear hb1 hg1 hls hc1 hr1 hbA hbS q0 HA1 HX HB0 hll hp1 hp24
  generalize w1.alloc (.cells #[.slice at_ g.terms.length ct, .slice an g.nons.length cn, .slice ap ls.length cp] 25) = S at *
  generalize w1.heap.size = B1 at *
  have l1 := heap_lt HQ0.out
  have c0 := (blk_cell (i := 0) HQ0.out rfl).1
  have c1 := (blk_cell (i := 1) HQ0.out rfl).1
  have c2 := (blk_cell (i := 2) HQ0.out rfl).1
  obtain ⟨v, hv, hvl⟩ : ∃ v : Nat, pk % (ls.length : Int) = v ∧ v < ls.length := ⟨(pk % (ls.length : Int)).toNat, by
    have := Int.emod_nonneg pk (show (ls.length : Int) ≠ 0 by omega); omega, by
    have := Int.emod_nonneg pk (show (ls.length : Int) ≠ 0 by omega)
    have := Int.emod_lt_of_pos pk (show (0 : Int) < ls.length by omega); omega⟩
  obtain ⟨q, hq⟩ : ∃ q, ls[v]? = some q := ⟨_, List.getElem?_eq_getElem hvl⟩
  obtain ⟨b3, o3, rfl, hb3, hc3⟩ := HC1.out.get (by intro e; have := (lays_at ls v _ hq).1; rw [e] at this; simp at this)
  have x0 := hc3 _ _ (lays_at ls v _ hq).1
  have x1 := hc3 _ _ (lays_at ls v _ hq).2
  rw [← Nat.add_assoc] at x1
  have hqm := List.mem_of_getElem? hq
  have HPM := Lib.hid (show (q.left, q.right) ∈ g.prods by rw [← HLS.out]; exact List.mem_map_of_mem hqm)
  have HPR := Lib.hid (HR1.out q hqm)
  obtain ⟨pl, pr, pra, prc⟩ := q
  simp only at x0 x1
  have e1 : (v : Int) < ls.length := by omega
  have HWI := Lib.hid fun W => (within_any pk ls.length (by omega) (by omega) W).mono fun e w' h => (⟨h.1.trans (by rw [hv]), h.2⟩ : e = Ending.returned (.int .i64 v) ∧ w' = W)
  clear hv hq hc3 hqm HR1 HC1 HLS hvl
  go_cut [10] from 20 to 28 (fun p wx => p = .pointer (some ⟨S.heap.size, 0, none⟩) ∧ Hid (Below S.heap.size S wx) ∧ Hid (wx.heap[S.heap.size]? = some (.cells #[.int .i64 pl, .slice pra pr.length prc] 63)))
  case first =>
    go_region_with (first | (go_at_call 11; (with_reducible refine (HWI.out _).mono ?_); rintro e w3 ⟨rfl, hw3⟩; rw [hw3]; clear hw3))
    all_goals
      go_wp2
      go_meet
      case rel => exact ⟨rfl, Lib.hid (box_belowT S _).drew, Lib.hid (heap_alloc_new S _)⟩
  case rest =>
    obtain ⟨rfl, HBX, HQP⟩ := hcut
    rename World => S2
    have HB2 := Lib.hid (HBA.out.trans (HBX.out.mono HBA.out.size))
    have HG2 := Lib.hid (HG.out.below HBX.out)
    have HQ2 := Lib.hid ((HBX.out.block _ l1).trans HQ0.out)
    have HPR2 := Lib.hid (HPR.out.below HBX.out)
    generalize S.heap.size = PB at *
    clear c0 c1 c2 x0 x1 hb3 l1 e1 HWI HBA HG HQ0 HPR HBX
    have hl2 : B1 < S2.heap.size := heap_lt HQ2.out
    have lp := heap_lt HQP.out
    go_upto_region 5 with fail
    have HBL := Lib.hid HL.out
    have HB2S := Lib.hid HB2.out.size
    go_loopw [11, 12] (fun sl i wr => ∃ (k : Nat) (a : Option Addr) (c : Nat) (l : List Int), k ≤ row.length ∧ k ≤ 5 ∧ l.length = k ∧ sl = .slice a l.length c ∧ i = .int .i64 k ∧ Hid (∀ y ∈ l, symB g y = true) ∧ Hid (wr.ownsRow S2.heap.size 3 1 (.slice a l.length c) l.length (nums l)) ∧ Hid (Below S2.heap.size S2 wr)) (fun _ i _ => 5 - (intOf i).toNat)
    case atStart => exact ⟨0, none, 0, [], by omega, by omega, rfl, rfl, rfl, Lib.hid (by simp), Lib.hid (World.ownsRow_nil _ _ _ _), Lib.hid (Below.refl _ _)⟩
    case round =>
      obtain ⟨k, a, c, l, hkr, hk5, hlk, rfl, rfl, HSY, HO, HBR⟩ := hrel
      have HLK := Lib.hid hlk
      have hl5 : l.length ≤ 5 := by omega
      have q0 := (HBR.out.block B1 hl2).trans HQ2.out
      have d0 := (blk_cell (i := 0) q0 rfl).1
      have d2 := heap_lt q0
      clear hlk q0
      by_cases hlt : k < row.length ∧ k < 5
      · obtain ⟨hlt, hlt3⟩ := hlt
        obtain ⟨y, hy⟩ : ∃ y, row[k]? = some y := ⟨_, List.getElem?_eq_getElem hlt⟩
        have e1 : (k : Int) < row.length := by omega
        have e2 : (k : Int) < 5 := by omega
        obtain ⟨rb, ro, rfl, hrb, hrc⟩ := (HBL.out.below (HB2.out.trans (HBR.out.mono HB2S.out))).get (by unfold nums; intro e; rw [List.map_eq_nil_iff] at e; rw [e] at hlt; simp at hlt)
        have x0 := hrc k _ (nums_at hy)
        obtain ⟨v2, hv, hvl⟩ : ∃ v2 : Nat, y % (g.terms.length : Int) = v2 ∧ v2 < g.terms.length := ⟨(y % (g.terms.length : Int)).toNat, by
          have := Int.emod_nonneg y (show (g.terms.length : Int) ≠ 0 by omega); omega, by
          have := Int.emod_nonneg y (show (g.terms.length : Int) ≠ 0 by omega)
          have := Int.emod_lt_of_pos y (show (0 : Int) < (g.terms.length : Int) by omega); omega⟩
        have HWI := Lib.hid fun W => (within_any y g.terms.length (by omega) (by omega) W).mono fun e w' h => (⟨h.1.trans (by rw [hv]), h.2⟩ : e = Ending.returned (.int .i64 v2) ∧ w' = W)
        have HOD := Lib.hid (own_same HO.out (w' := wr.drew) (fun g _ _ => rfl))
        have HLT := Lib.hid hlt
        have HSN := Lib.hid (show ∀ z ∈ l ++ [1 + (v2 : Int)], symB g z = true from fun z hz => by
          rcases List.mem_append.1 hz with hz | hz
          · exact HSY.out z hz
          · rw [List.mem_singleton.1 hz]; exact (symB_iff g _).2 (.inl ⟨by omega, by omega⟩))
        have hwr : IntKind.i64.wrap (1 + (v2 : Int)) = 1 + (v2 : Int) := IntWalk.i64_in _ (by omega)
        clear hv hy hrc hlt
        go_upto_region 7 with fail
        go_region_law (first
          | (refine step_app ?_ (.tmp 39) (.tmp 49) ?_ S2.heap.size a l.length c l ?_ (HOD.out.alloc _) ?_ (some ⟨wr.heap.size, 0, none⟩) [1 + (v2 : Int)] 1 ?_ (cells_new wr.drew (#[.int .i64 (1 + (v2 : Int))] : Array Value) 3) ?_ ?_; (rfl); (rfl); (rfl); (have := HBR.out.size; simp; omega); (rfl); (simp; omega); intro va' vc' w' hown' hb')
          | (rw [if_pos (by simp [Region.wanted])]; go_wp2_with (go_at_call 11; (with_reducible refine (HWI.out _).mono ?_); rintro e w9 ⟨rfl, hw9⟩; rw [hw9]; clear hw9)))
        all_goals
          go_wp2
          exact ⟨⟨k + 1, va', vc', l ++ [1 + (v2 : Int)], by have := HLT.out; omega, by omega, by rw [List.length_append, HLK.out]; rfl, by rw [List.length_append]; rfl, by go_num, HSN, Lib.hid (by rw [List.length_append]; exact hown'), Lib.hid ((HBR.out.alloc HBR.out.size _).drew.trans hb')⟩, by simp [intOf]; omega⟩
      · have hex : ¬ (k : Int) < row.length ∨ ((k : Int) < row.length ∧ ¬ (k : Int) < 5) := by omega
        have qp := (HBR.out.block PB lp).trans HQP.out
        have p0 := (blk_cell (i := 0) qp rfl).1
        have p1 := (blk_cell (i := 1) qp rfl).1
        have lp0 := heap_lt qp
        have HPR3 := Lib.hid (HPR2.out.below HBR.out)
        have HG3 := Lib.hid (HG2.out.below HBR.out)
        have HQ3 := Lib.hid ((HBR.out.block B1 hl2).trans HQ2.out)
        have HQP3 := Lib.hid qp
        have HB3 := Lib.hid (HB2.out.trans (HBR.out.mono HB2S.out))
        have hpr6 : pr.length ≤ 6 := (HCK.out.pv _ HPM.out).2.1
        clear hlt qp HB2 HG2 HQ2 HQP HPR2 hl2 lp
        rcases hex with hx1 | ⟨hx1, hx2⟩
        all_goals
          go_upto_region 10 with fail
          rename World => W3
          clear d0 d2 p0 p1 lp0
          have hlc := (own_cells HO.out).2
          have HCO := Lib.hid (own_cells HO.out).1
          go_loopw [13, 14, 54] (fun av al iv wr => ∃ (at0 j : Nat) (b : Bool), av = .int .i64 at0 ∧ al = .bool b ∧ iv = .int .i64 j ∧ j ≤ pr.length ∧ at0 ≤ l.length ∧ Hid (b = true → Sp.DerF g.prods (pr.take j) (l.take at0)) ∧ Hid (Below W3.heap.size W3 wr)) (fun _ _ iv _ => pr.length - (intOf iv).toNat)
          case atStart => exact ⟨0, 0, true, rfl, rfl, rfl, by omega, by omega, Lib.hid fun _ => .nil, Lib.hid (Below.refl _ _)⟩
          case round =>
            obtain ⟨at0, j, b, rfl, rfl, rfl, hj, hat, HDE, HBY⟩ := hrel
            have qg := (HBY.out.block B1 (heap_lt HQ3.out)).trans HQ3.out
            have qp := (HBY.out.block PB (heap_lt HQP3.out)).trans HQP3.out
            have d0 := (blk_cell (i := 0) qg rfl).1
            have d1 := (blk_cell (i := 1) qg rfl).1
            have d2 := (blk_cell (i := 2) qg rfl).1
            have p0 := (blk_cell (i := 0) qp rfl).1
            have p1 := (blk_cell (i := 1) qp rfl).1
            have lg := heap_lt qg
            have lp0 := heap_lt qp
            have HGY := Lib.hid (HG3.out.below HBY.out)
            have HCY := Lib.hid (HCO.out.below HBY.out)
            have HCPY := Lib.hid (HPR3.out.below HBY.out)
            clear qg qp
            by_cases hjl : j < pr.length
            · obtain ⟨y, hy⟩ : ∃ y, pr[j]? = some y := ⟨_, List.getElem?_eq_getElem hjl⟩
              obtain ⟨rb, ro, rfl, hrb, hrc⟩ := HCPY.out.get (by unfold nums; intro e; rw [List.map_eq_nil_iff] at e; rw [e] at hjl; simp at hjl)
              have x0 := hrc j _ (nums_at hy)
              have e3 : (j : Int) < pr.length := by omega
              have hwp : IntKind.i64.wrap ((pr.length : Int) - 1) = (pr.length : Int) - 1 := IntWalk.i64_in _ (by omega)
              have HY := Lib.hid hy
              have HJL := Lib.hid hjl
              clear hy hrc hjl
              have hway : ((j : Int) < (pr.length : Int) - 1 ∧ (j : Int) < cuts.length) ∨ ((j : Int) < (pr.length : Int) - 1 ∧ ¬ (j : Int) < cuts.length) ∨ ¬ (j : Int) < (pr.length : Int) - 1 := by omega
              rcases hway with ⟨h1, h2⟩ | ⟨h1, h2⟩ | h1
              · obtain ⟨z, hz⟩ : ∃ z, cuts[j]? = some z := ⟨_, List.getElem?_eq_getElem (by omega)⟩
                obtain ⟨cb, co, rfl, hcb, hcd⟩ := (HCL.out.below (HB3.out.trans (HBY.out.mono HB3.out.size))).get (by unfold nums; intro e; rw [List.map_eq_nil_iff] at e; rw [e] at hz; simp at hz)
                have z0 := hcd j _ (nums_at hz)
                have hwm : IntKind.i64.wrap (IntKind.i64.wrap ((l.length : Int) - (at0 : Int)) + 1) = (l.length : Int) - at0 + 1 := by rw [show IntKind.i64.wrap ((l.length : Int) - (at0 : Int)) = (l.length : Int) - at0 from IntWalk.i64_in _ (by omega)]; exact IntWalk.i64_in _ (by omega)
                have hwm2 : IntKind.i64.wrap ((l.length : Int) - (at0 : Int)) = (l.length : Int) - at0 := IntWalk.i64_in _ (by omega)
                have hwm3 : IntKind.i64.wrap ((l.length : Int) - (at0 : Int) + 1) = (l.length : Int) - at0 + 1 := IntWalk.i64_in _ (by omega)
                obtain ⟨v3, hv, hvl⟩ : ∃ v3 : Nat, z % ((l.length : Int) - at0 + 1) = v3 ∧ (v3 : Int) < (l.length : Int) - at0 + 1 := ⟨(z % ((l.length : Int) - at0 + 1)).toNat, by
                  have := Int.emod_nonneg z (show ((l.length : Int) - at0 + 1) ≠ 0 by omega); omega, by
                  have := Int.emod_nonneg z (show ((l.length : Int) - at0 + 1) ≠ 0 by omega)
                  have := Int.emod_lt_of_pos z (show (0 : Int) < ((l.length : Int) - at0 + 1) by omega); omega⟩
                have HWI := Lib.hid fun W => (within_any z ((l.length : Int) - at0 + 1) (by omega) (by omega) W).mono fun e w' h => (⟨h.1.trans (by rw [hv]), h.2⟩ : e = Ending.returned (.int .i64 v3) ∧ w' = W)
                obtain ⟨tt, htt⟩ : ∃ tt : Nat, at0 + v3 = tt := ⟨_, rfl⟩
                have HTO := Lib.hid (show at0 ≤ tt ∧ tt ≤ l.length by omega)
                have hsum : (at0 : Int) + (v3 : Int) = (tt : Int) := by omega
                have hwsum : IntKind.i64.wrap ((at0 : Int) + (v3 : Int)) = (tt : Int) := by rw [hsum]; exact IntWalk.i64_in _ (by omega)
                clear hz hv hvl hcd htt hwm hsum
                go_upto_region 15 with (go_at_call 11; (with_reducible refine (HWI.out _).mono ?_); rintro e w9 ⟨rfl, hw9⟩; rw [hw9]; clear hw9)
                have htl1 : (at0 : Int) ≤ tt := by have := HTO.out; omega
                have htl2 : (tt : Int) ≤ c := by have := HTO.out; omega
                have HPART := Lib.hid (part_cells (c := c) HCY.out (show at0 ≤ tt ∧ tt ≤ l.length from HTO.out) hlc)
                have HUS := Lib.hid (show ∀ z ∈ (l.drop at0).take (tt - at0), symB g z = true from fun z hz => HSY.out z (List.mem_of_mem_drop (List.mem_of_mem_take hz)))
                have hul : ((l.drop at0).take (tt - at0)).length = tt - at0 := by have := HTO.out; rw [List.length_take, List.length_drop]; omega
                have HUL := Lib.hid hul
                clear hul
                cases b
                · go_quiet (fail)
                  go_wp2
                  exact ⟨⟨tt, j + 1, false, rfl, rfl, by go_num, by have := HJL.out; omega, HTO.out.2, Lib.hid (fun h => by cases h), Lib.hid (below_drews2 HBY.out _)⟩, by have := HJL.out; simp [intOf]; omega⟩
                · have HCN : Hid (∀ W, Below wr.heap.size wr W → Calls Try.prog 13 #[.agg #[.slice at_ g.terms.length ct, .slice an g.nons.length cn, .slice (some ⟨b3, o3, none⟩) ls.length cp], .int .i64 y, .slice (if c = at0 then a else Option.map (fun x => x.add at0) a) (tt - at0) (c - at0)] W fun e w' => e = .returned (.bool (canB g y ((l.drop at0).take (tt - at0)))) ∧ Below W.heap.size W w') := Lib.hid fun W hW => by
                    have := can_ok HCK.out (c := c - at0) (HGY.out.below hW) (symB_pr HCK.out HPM.out HY.out) (HPART.out.below hW) HUS.out (by rw [HUL.out]; have := HTO.out; omega)
                    rwa [HUL.out] at this
                  have HDN := Lib.hid (fun (h : canB g y ((l.drop at0).take (tt - at0)) = true) => part_der HY.out HTO.out (HDE.out rfl) (canB_iff.1 h).2)
                  go_still_tail 8, (by kernel_rfl)
                  change wpList _ _ _ _ _ wr.drew
                  have hbd : Below wr.heap.size wr wr.drew := (Below.refl _ _).drew
                  generalize wr.drew = WD at *
                  go_wp2_with (go_at_call 13; (with_reducible refine (HCN.out _ hbd).mono ?_); rintro e w8 ⟨rfl, hb8⟩)
                  exact ⟨⟨tt, j + 1, _, rfl, rfl, by go_num, by have := HJL.out; omega, HTO.out.2, HDN, Lib.hid (HBY.out.trans ((hbd.trans (hb8.mono hbd.size)).mono HBY.out.size))⟩, by have := HJL.out; simp [intOf]; omega⟩
              · have HTO := Lib.hid (show at0 ≤ l.length ∧ l.length ≤ l.length by omega)
                go_upto_region 15 with fail
                have HPART := Lib.hid (part_cells (c := c) HCY.out (show at0 ≤ l.length ∧ l.length ≤ l.length from HTO.out) hlc)
                have HUS := Lib.hid (show ∀ z ∈ (l.drop at0).take (l.length - at0), symB g z = true from fun z hz => HSY.out z (List.mem_of_mem_drop (List.mem_of_mem_take hz)))
                have hul : ((l.drop at0).take (l.length - at0)).length = l.length - at0 := by have := HTO.out; rw [List.length_take, List.length_drop]; omega
                have HUL := Lib.hid hul
                clear hul
                cases b
                · go_quiet (fail)
                  go_wp2
                  exact ⟨⟨l.length, j + 1, false, rfl, rfl, by go_num, by have := HJL.out; omega, HTO.out.2, Lib.hid (fun h => by cases h), Lib.hid (below_drews2 HBY.out _)⟩, by have := HJL.out; simp [intOf]; omega⟩
                · have HCN : Hid (∀ W, Below wr.heap.size wr W → Calls Try.prog 13 #[.agg #[.slice at_ g.terms.length ct, .slice an g.nons.length cn, .slice (some ⟨b3, o3, none⟩) ls.length cp], .int .i64 y, .slice (if c = at0 then a else Option.map (fun x => x.add at0) a) (l.length - at0) (c - at0)] W fun e w' => e = .returned (.bool (canB g y ((l.drop at0).take (l.length - at0)))) ∧ Below W.heap.size W w') := Lib.hid fun W hW => by
                    have := can_ok HCK.out (c := c - at0) (HGY.out.below hW) (symB_pr HCK.out HPM.out HY.out) (HPART.out.below hW) HUS.out (by rw [HUL.out]; have := HTO.out; omega)
                    rwa [HUL.out] at this
                  have HDN := Lib.hid (fun (h : canB g y ((l.drop at0).take (l.length - at0)) = true) => part_der HY.out HTO.out (HDE.out rfl) (canB_iff.1 h).2)
                  go_still_tail 8, (by kernel_rfl)
                  change wpList _ _ _ _ _ wr.drew
                  have hbd : Below wr.heap.size wr wr.drew := (Below.refl _ _).drew
                  generalize wr.drew = WD at *
                  go_wp2_with (go_at_call 13; (with_reducible refine (HCN.out _ hbd).mono ?_); rintro e w8 ⟨rfl, hb8⟩)
                  exact ⟨⟨l.length, j + 1, _, rfl, rfl, by go_num, by have := HJL.out; omega, HTO.out.2, HDN, Lib.hid (HBY.out.trans ((hbd.trans (hb8.mono hbd.size)).mono HBY.out.size))⟩, by have := HJL.out; simp [intOf]; omega⟩
              · have HTO := Lib.hid (show at0 ≤ l.length ∧ l.length ≤ l.length by omega)
                go_upto_region 15 with fail
                have HPART := Lib.hid (part_cells (c := c) HCY.out (show at0 ≤ l.length ∧ l.length ≤ l.length from HTO.out) hlc)
                have HUS := Lib.hid (show ∀ z ∈ (l.drop at0).take (l.length - at0), symB g z = true from fun z hz => HSY.out z (List.mem_of_mem_drop (List.mem_of_mem_take hz)))
                have hul : ((l.drop at0).take (l.length - at0)).length = l.length - at0 := by have := HTO.out; rw [List.length_take, List.length_drop]; omega
                have HUL := Lib.hid hul
                clear hul
                cases b
                · go_quiet (fail)
                  go_wp2
                  exact ⟨⟨l.length, j + 1, false, rfl, rfl, by go_num, by have := HJL.out; omega, HTO.out.2, Lib.hid (fun h => by cases h), Lib.hid (below_drews2 HBY.out _)⟩, by have := HJL.out; simp [intOf]; omega⟩
                · have HCN : Hid (∀ W, Below wr.heap.size wr W → Calls Try.prog 13 #[.agg #[.slice at_ g.terms.length ct, .slice an g.nons.length cn, .slice (some ⟨b3, o3, none⟩) ls.length cp], .int .i64 y, .slice (if c = at0 then a else Option.map (fun x => x.add at0) a) (l.length - at0) (c - at0)] W fun e w' => e = .returned (.bool (canB g y ((l.drop at0).take (l.length - at0)))) ∧ Below W.heap.size W w') := Lib.hid fun W hW => by
                    have := can_ok HCK.out (c := c - at0) (HGY.out.below hW) (symB_pr HCK.out HPM.out HY.out) (HPART.out.below hW) HUS.out (by rw [HUL.out]; have := HTO.out; omega)
                    rwa [HUL.out] at this
                  have HDN := Lib.hid (fun (h : canB g y ((l.drop at0).take (l.length - at0)) = true) => part_der HY.out HTO.out (HDE.out rfl) (canB_iff.1 h).2)
                  go_still_tail 8, (by kernel_rfl)
                  change wpList _ _ _ _ _ wr.drew
                  have hbd : Below wr.heap.size wr wr.drew := (Below.refl _ _).drew
                  generalize wr.drew = WD at *
                  go_wp2_with (go_at_call 13; (with_reducible refine (HCN.out _ hbd).mono ?_); rintro e w8 ⟨rfl, hb8⟩)
                  exact ⟨⟨l.length, j + 1, _, rfl, rfl, by go_num, by have := HJL.out; omega, HTO.out.2, HDN, Lib.hid (HBY.out.trans ((hbd.trans (hb8.mono hbd.size)).mono HBY.out.size))⟩, by have := HJL.out; simp [intOf]; omega⟩
            · have HJE := Lib.hid (show j = pr.length by omega)
              have e3 : ¬ (j : Int) < pr.length := by omega
              clear hjl
              have HF := Lib.hid fun W' (h : Below W3.heap.size W3 W') => (⟨(blk_cell (i := 0) ((h.block B1 (heap_lt HQ3.out)).trans HQ3.out) rfl).1, (blk_cell (i := 1) ((h.block B1 (heap_lt HQ3.out)).trans HQ3.out) rfl).1, (blk_cell (i := 2) ((h.block B1 (heap_lt HQ3.out)).trans HQ3.out) rfl).1, heap_lt ((h.block B1 (heap_lt HQ3.out)).trans HQ3.out), (blk_cell (i := 0) ((h.block PB (heap_lt HQP3.out)).trans HQP3.out) rfl).1, (blk_cell (i := 1) ((h.block PB (heap_lt HQP3.out)).trans HQP3.out) rfl).1, heap_lt ((h.block PB (heap_lt HQP3.out)).trans HQP3.out)⟩ : W'.cell? ⟨B1, 0, none⟩ = some (.slice at_ g.terms.length ct) ∧ W'.cell? ⟨B1, 1, none⟩ = some (.slice an g.nons.length cn) ∧ W'.cell? ⟨B1, 2, none⟩ = some (.slice (some ⟨b3, o3, none⟩) ls.length cp) ∧ B1 < W'.heap.size ∧ W'.cell? ⟨PB, 0, none⟩ = some (.int .i64 pl) ∧ W'.cell? ⟨PB, 1, none⟩ = some (.slice pra pr.length prc) ∧ PB < W'.heap.size)
              have hpl : symB g pl = true := (symB_iff g pl).2 (.inr (HCK.out.pv _ HPM.out).1)
              have HPL := Lib.hid hpl
              have HCP : Hid (∀ W, Below W3.heap.size W3 W → Calls Try.prog 13 #[.agg #[.slice at_ g.terms.length ct, .slice an g.nons.length cn, .slice (some ⟨b3, o3, none⟩) ls.length cp], .int .i64 pl, .slice pra pr.length prc] W fun e w' => e = .returned (.bool true) ∧ Below W.heap.size W w') := Lib.hid fun W hW => by
                have h := can_ok HCK.out (c := prc) (HG3.out.below hW) HPL.out (HPR3.out.below hW) (fun s hs => by obtain ⟨i, hi⟩ := List.getElem?_of_mem hs; exact symB_pr HCK.out HPM.out hi) (by omega)
                rwa [can_true (u := pr) HCK.out HPL.out (fun s hs => by obtain ⟨i, hi⟩ := List.getElem?_of_mem hs; exact symB_pr HCK.out HPM.out hi) (by omega) (Sp.DerF.one.2 (.inr ⟨_, HPM.out, rfl, Sp.DerF.refl _⟩))] at h
              have HWK := Lib.hid wakes9_any
              clear hpl d0 d1 d2 p0 p1 lg lp0
              obtain ⟨d0, d1, d2, lg, p0, p1, lp0⟩ := HF.out wr HBY.out
              by_cases hfull : b = true ∧ at0 = l.length
              · obtain ⟨rfl, hae⟩ := hfull
                have e4 : ((at0 : Int) == (l.length : Int)) = true := beq_iff_eq.2 (by omega)
                have e5 : ((at0 : Int) != (l.length : Int)) = false := by rw [bne, e4]; rfl
                have HCW : Hid (∀ W, Below W3.heap.size W3 W → Calls Try.prog 13 #[.agg #[.slice at_ g.terms.length ct, .slice an g.nons.length cn, .slice (some ⟨b3, o3, none⟩) ls.length cp], .int .i64 pl, .slice a l.length c] W fun e w' => e = .returned (.bool true) ∧ Below W.heap.size W w') := Lib.hid fun W hW => by
                  have h := can_ok HCK.out (c := c) (HG3.out.below hW) HPL.out (HCO.out.below hW) HSY.out (by omega)
                  have hd := HDE.out rfl
                  rw [hae, List.take_length, HJE.out, List.take_length] at hd
                  rwa [can_true (u := l) HCK.out HPL.out HSY.out (by omega) (Sp.DerF.one.2 (.inr ⟨_, HPM.out, rfl, hd⟩))] at h
                clear hae
                go_wp2_with (first
                  | (go_at_call 13; (with_reducible refine (HCW.out _ HBY.out).mono ?_); rintro e w8 ⟨rfl, hb8⟩; have HB8 := Lib.hid (HBY.out.trans (hb8.mono HBY.out.size)); obtain ⟨d0, d1, d2, lg, p0, p1, lp0⟩ := HF.out w8 HB8.out)
                  | (go_at_call 13; (with_reducible refine (HCP.out _ HB8.out).mono ?_); rintro e w7 ⟨rfl, hb7⟩; have HB7 := Lib.hid (HB8.out.trans (hb7.mono HB8.out.size)))
                  | (go_at_call 16; (with_reducible refine (HWK.out _).mono ?_); rintro e w6 ⟨rfl, hb6⟩; have HB6 := Lib.hid (HB7.out.trans (hb6.mono HB7.out.size))))
                go_ret
                exact ⟨rfl, HB3.out.trans (HB6.out.mono HB3.out.size)⟩
              · have hcs : b = false ∨ (b = true ∧ at0 ≠ l.length) := by
                  cases b
                  · exact .inl rfl
                  · exact .inr ⟨rfl, fun h => hfull ⟨rfl, h⟩⟩
                clear hfull
                rcases hcs with rfl | ⟨rfl, hae⟩
                · go_wp2_with (first
                    | (go_at_call 13; (with_reducible refine (HCP.out _ HBY.out).mono ?_); rintro e w7 ⟨rfl, hb7⟩; have HB7 := Lib.hid (HBY.out.trans (hb7.mono HBY.out.size)))
                    | (go_at_call 16; (with_reducible refine (HWK.out _).mono ?_); rintro e w6 ⟨rfl, hb6⟩; have HB6 := Lib.hid (HB7.out.trans (hb6.mono HB7.out.size))))
                  go_ret
                  exact ⟨rfl, HB3.out.trans (HB6.out.mono HB3.out.size)⟩
                · have e4 : ((at0 : Int) == (l.length : Int)) = false := beq_eq_false_iff_ne.2 (by omega)
                  have e5 : ((at0 : Int) != (l.length : Int)) = true := by rw [bne, e4]; rfl
                  clear hae
                  go_wp2_with (first
                    | (go_at_call 13; (with_reducible refine (HCP.out _ HBY.out).mono ?_); rintro e w7 ⟨rfl, hb7⟩; have HB7 := Lib.hid (HBY.out.trans (hb7.mono HBY.out.size)))
                    | (go_at_call 16; (with_reducible refine (HWK.out _).mono ?_); rintro e w6 ⟨rfl, hb6⟩; have HB6 := Lib.hid (HB7.out.trans (hb6.mono HB7.out.size))))
                  go_ret
                  exact ⟨rfl, HB3.out.trans (HB6.out.mono HB3.out.size)⟩
end Go.Proofs.Ytgfkkbpnphbdgaa
