/- DeriveTrees: walked. DeriveTrees, of a slice that came in. -/
import Derived.Test.YtgfkkbpnphbdgaaDerP
import Derived.Test.YtgfkkbpnphbdgaaRaw
import Derived.Test.YtgfkkbpnphbdgaaSyms6
import Derived.Test.YtgfkkbpnphbdgaaTreeC
import Derived.Test.YtgfkkbpnphbdgaaTreeD
import Derived.Test.YtgfkkbpnphbdgaaTreeE
import Derived.Test.YtgfkkbpnphbdgaaAppAll
import Derived.Deep.RegionHeld3
import Derived.Test.YtgfkkbpnphbdgaaRowC
set_option linter.unusedVariables false
set_option linter.unusedSimpArgs false
namespace Go.Proofs.Ytgfkkbpnphbdgaa
open Go.RowKit
open Doc Dr

theorem check_fits9 {g : Gr} (h : CheckG g) : Fits g := ⟨by have := h.t8; omega, by have := h.n8; omega, by have := h.p24; omega, fun p hp => by have := (h.pv p hp).2.1; omega⟩
theorem name_empty {g : Gr} {s : Int} (h : nameG g s = []) : ((⟨(nameG g s).toArray⟩ : ByteArray) == ⟨#[]⟩) = true := by rw [h]; rfl
set_option maxRecDepth 100000 in
set_option maxHeartbeats 16000000 in
theorem deriveTrees_walk (x : RawX) (la : Option Addr) (lc : Nat) (row : List Int) (most : Int) (w : World) (hx : RawAt w x) (hl : Cells w la (nums row)) (hrl : row.length ≤ 17592186043904) (hrw : ∀ y ∈ row, -9223372036854775808 ≤ y ∧ y ≤ 9223372036854775807) :
    Calls Try.prog 6 #[x.v, .slice la row.length lc, .int .i64 most] w fun e w' => e = .returned (.bool true) ∧ Below w.heap.size w w' := by
  have hck : CheckG x.any := anyF_check x.terms x.nons x.plain
  have hAN := Lib.hid (fun W h => any_gram x W h)
  have HCK := Lib.hid hck
  have ht8 := hck.t8
  have hn8 := hck.n8
  generalize hgg : x.any = g at *
  have HX := Lib.hid hx
  clear hx hck hgg
  obtain ⟨xp, xt, xn, xh, rows, xa, xc, word⟩ := x
  unfold RawX.v at *
  simp only at *
  have hb0 : Below w.heap.size w (w.alloc (.cells #[.int .i64 xp, .int .i64 xt, .int .i64 xn, .int .i64 xh, .slice xa rows.length xc, .string word] 46)) := (Below.refl _ _).alloc (Nat.le_refl _) _
  have HA1 := Lib.hid (hAN.out _ (HX.out.below hb0))
  have HB0 := Lib.hid hb0
  have HL := Lib.hid hl
  have HWK := Lib.hid fun W => wakes9_any W
  clear hAN hb0 hl
  go_enter Try.func6, Try.ntmps6
  go_upto_region 2 with (go_at_call 22; refine HA1.out.mono ?_; rintro e w1 ⟨hb1, at_, an, ap, ct, cn, cp, ls, rfl, hg1, hls, hc1, hr1⟩)
  have hbS := box_belowT w1 (.cells #[.slice at_ g.terms.length ct, .slice an g.nons.length cn, .slice ap ls.length cp] 25)
  have HQ := Lib.hid (heap_alloc_new w1 (.cells #[.slice at_ g.terms.length ct, .slice an g.nons.length cn, .slice ap ls.length cp] 25))
  have HG := Lib.hid (hg1.below hbS)
  have HB := Lib.hid ((HB0.out.trans (hb1.mono HB0.out.size)).trans (hbS.mono (Nat.le_trans HB0.out.size hb1.size)))
  have HSY := Lib.hid (syms6_any _ g la lc row 4 (w1.alloc (.cells #[.slice at_ g.terms.length ct, .slice an g.nons.length cn, .slice ap ls.length cp] 25)) HG.out HCK.out (HL.out.below HB.out) hrl hrw (by omega))
  clear hb1 hg1 hls hc1 hr1 hbS HA1 HX HB0 hrw
  generalize w1.alloc (.cells #[.slice at_ g.terms.length ct, .slice an g.nons.length cn, .slice ap ls.length cp] 25) = S at *
  generalize w1.heap.size = B1 at *
  have c0 := (blk_cell (i := 0) HQ.out rfl).1
  have c1 := (blk_cell (i := 1) HQ.out rfl).1
  have c2 := (blk_cell (i := 2) HQ.out rfl).1
  have l1 := heap_lt HQ.out
  unfold SymsEnd at HSY
  push_cast at HSY
  go_upto_region 4 with (go_at_call 19; (with_reducible refine HSY.out.mono ?_); rintro e w2 ⟨hb2, sa, sc, s, rfl, hs4, hsw, hso⟩)
  have HS := Lib.hid (own_cells hso).1
  have HSW := Lib.hid hsw
  have HG2 := Lib.hid (HG.out.below hb2)
  have HQ2 := Lib.hid ((hb2.block _ l1).trans HQ.out)
  have HB2 := Lib.hid (HB.out.trans (hb2.mono HB.out.size))
  clear c0 c1 c2 l1 hb2 hso hsw HSY HG HQ HB
  rename World => S2
  have HCL : Hid (∀ W, Below S2.heap.size S2 W → W.cell? ⟨B1, 0, none⟩ = some (.slice at_ g.terms.length ct) ∧ W.cell? ⟨B1, 1, none⟩ = some (.slice an g.nons.length cn) ∧ W.cell? ⟨B1, 2, none⟩ = some (.slice ap ls.length cp) ∧ B1 < W.heap.size) := Lib.hid fun W hW => by
    have z0 := (hW.block _ (heap_lt HQ2.out)).trans HQ2.out
    exact ⟨(blk_cell z0 rfl).1, (blk_cell z0 rfl).1, (blk_cell z0 rfl).1, heap_lt z0⟩
  go_loopw [27] (fun iv wr => ∃ k : Nat, iv = .int .i64 k ∧ k ≤ s.length ∧ Hid (∀ y ∈ s.take k, symB g y = true) ∧ Hid (Below S2.heap.size S2 wr)) (fun iv _ => s.length - (intOf iv).toNat)
  case atStart => exact ⟨0, rfl, by omega, Lib.hid (by simp), Lib.hid (Below.refl _ _)⟩
  case round =>
    obtain ⟨k, rfl, hk, HSB, HBR⟩ := hrel
    obtain ⟨c0, c1, c2, l1⟩ := HCL.out _ HBR.out
    by_cases hks : k < s.length
    · obtain ⟨y, hy⟩ : ∃ y, s[k]? = some y := ⟨_, List.getElem?_eq_getElem hks⟩
      have e1 : (k : Int) < s.length := by omega
      obtain ⟨rb, ro, rfl, hrb, hrc⟩ := (HS.out.below HBR.out).get (by unfold nums; intro e; rw [List.map_eq_nil_iff] at e; rw [e] at hks; simp at hks)
      have x0 := hrc k _ (nums_at hy)
      have HNM := Lib.hid fun W (hW : GramAt W (.agg #[.slice at_ g.terms.length ct, .slice an g.nons.length cn, .slice ap ls.length cp]) g) => symName_any _ g y W hW (by omega) (by omega)
      have HGR := Lib.hid (HG2.out.below HBR.out)
      have HY := Lib.hid hy
      have HKS := Lib.hid hks
      clear hrc hy hks
      have HNX : Hid (∀ W, Below S2.heap.size S2 W → W.cell? ⟨B1, 0, none⟩ = some (.slice at_ g.terms.length ct) ∧ W.cell? ⟨B1, 1, none⟩ = some (.slice an g.nons.length cn) ∧ W.cell? ⟨B1, 2, none⟩ = some (.slice ap ls.length cp) ∧ B1 < W.heap.size) := HCL
      go_upto_region 6 with fail
      by_cases hn0 : nameG g y = [] ∨ y = 0
      · have HW : Hid (∀ W, Below S2.heap.size S2 W → Calls Try.prog 16 #[] W fun e w' => e = .returned (.bool true) ∧ Below W.heap.size W w') := Lib.hid fun W _ => HWK.out W
        by_cases hn1 : nameG g y = []
        · have HN2 := Lib.hid fun W hW => (HNM.out W hW).mono fun e w' h => (⟨by rw [h.1, hn1], h.2⟩ : e = Ending.returned (.string ⟨#[]⟩) ∧ Below W.heap.size W w')
          clear hn0 hn1 HNM
          go_wp2_with (first
            | (go_at_call 23; (with_reducible refine (HN2.out _ HGR.out).mono ?_); rintro e w3 ⟨rfl, hb3⟩)
            | (go_at_call 16; (with_reducible refine (HWK.out _).mono ?_); rintro e w4 ⟨rfl, hb4⟩))
          go_ret
          exact ⟨rfl, HB2.out.trans ((HBR.out.trans ((hb3.trans (hb4.mono hb3.size)).mono HBR.out.size)).mono HB2.out.size)⟩
        · have hy0 : y = 0 := by rcases hn0 with h | h; exact absurd h hn1; exact h
          subst hy0
          have HN2 := Lib.hid fun W hW => (HNM.out W hW).mono fun e w' h => (⟨by rw [h.1]; rfl, h.2⟩ : e = Ending.returned (.string ⟨#[36]⟩) ∧ Below W.heap.size W w')
          clear hn0 hn1 HNM
          go_wp2_with (first
            | (go_at_call 23; (with_reducible refine (HN2.out _ HGR.out).mono ?_); rintro e w3 ⟨rfl, hb3⟩)
            | (go_at_call 16; (with_reducible refine (HWK.out _).mono ?_); rintro e w4 ⟨rfl, hb4⟩))
          go_ret
          exact ⟨rfl, HB2.out.trans ((HBR.out.trans ((hb3.trans (hb4.mono hb3.size)).mono HBR.out.size)).mono HB2.out.size)⟩
      · have hn1 : nameG g y ≠ [] := fun h => hn0 (.inl h)
        have hy0 : y ≠ 0 := fun h => hn0 (.inr h)
        have HSYM := Lib.hid (name_sym hy0 hn1)
        obtain ⟨ch, ct', hch⟩ : ∃ ch ct', nameG g y = ch :: ct' := by
          cases hc : nameG g y with
          | nil => exact absurd hc hn1
          | cons a b => exact ⟨a, b, rfl⟩
        have e2 : (y == 0) = false := beq_eq_false_iff_ne.2 hy0
        have HN2 := Lib.hid fun W hW => (HNM.out W hW).mono fun e w' h => (⟨by rw [h.1, hch], h.2⟩ : e = Ending.returned (.string ⟨(ch :: ct').toArray⟩) ∧ Below W.heap.size W w')
        clear hn0 hn1 HNM hch hy0
        go_wp2_with (go_at_call 23; (with_reducible refine (HN2.out _ HGR.out).mono ?_); rintro e w3 ⟨rfl, hb3⟩)
        refine ⟨⟨k + 1, by go_num, by have := HKS.out; omega, Lib.hid ?_, Lib.hid (HBR.out.trans (hb3.mono HBR.out.size))⟩, by have := HKS.out; simp [intOf]; omega⟩
        intro z hz
        rw [List.take_add_one, HY.out] at hz
        rcases List.mem_append.1 hz with hz | hz
        · exact HSB.out z hz
        · rw [List.mem_singleton.1 hz]; exact HSYM.out
    · have e1 : ¬ (k : Int) < s.length := by omega
      have HSA := Lib.hid (show ∀ y ∈ s, symB g y = true by have := HSB.out; rwa [List.take_of_length_le (by omega)] at this)
      have HB3 := Lib.hid (HB2.out.trans (HBR.out.mono HB2.out.size))
      have HG3 := Lib.hid (HG2.out.below HBR.out)
      have HS3 := Lib.hid (HS.out.below HBR.out)
      have HQ3 := Lib.hid ((HBR.out.block _ (heap_lt HQ2.out)).trans HQ2.out)
      obtain ⟨m, hm, hml⟩ : ∃ m : Nat, most % 8 = m ∧ m < 8 := ⟨(most % 8).toNat, by omega, by omega⟩
      have HWI := Lib.hid fun W => (within_any most 8 (by omega) (by omega) W).mono fun e w' h => (⟨h.1.trans (by rw [hm]), h.2⟩ : e = Ending.returned (.int .i64 m) ∧ w' = W)
      clear hks hk HSB HB2 HG2 HS HQ2 HBR HCL c0 c1 c2 l1 hm HSW
      go_upto_region 9 with fail
      rename World => S3
      have HCL : Hid (∀ W, Below S3.heap.size S3 W → W.cell? ⟨B1, 0, none⟩ = some (.slice at_ g.terms.length ct) ∧ W.cell? ⟨B1, 1, none⟩ = some (.slice an g.nons.length cn) ∧ W.cell? ⟨B1, 2, none⟩ = some (.slice ap ls.length cp) ∧ B1 < W.heap.size) := Lib.hid fun W hW => by
        have z0 := (hW.block _ (heap_lt HQ3.out)).trans HQ3.out
        exact ⟨(blk_cell z0 rfl).1, (blk_cell z0 rfl).1, (blk_cell z0 rfl).1, heap_lt z0⟩
      obtain ⟨c0, c1, c2, l1⟩ := HCL.out _ (Below.refl _ _)
      go_upto_region 10 with (go_at_call 11; (with_reducible refine (HWI.out _).mono ?_); rintro e w9 ⟨rfl, hw9⟩; rw [hw9]; clear hw9)
      clear HWI
      obtain ⟨m5, hm5⟩ : ∃ m5 : Nat, m + 5 = m5 := ⟨_, rfl⟩
      have hw5 : IntKind.i64.wrap ((m : Int) + 5) = (m5 : Int) := by rw [show (m : Int) + 5 = (m5 : Int) by omega]; exact IntWalk.i64_in _ (by omega)
      have HM5 := Lib.hid hm5
      have hm5l : m5 ≤ 12 := by omega
      clear hm5
      go_wp2
      go_loopw [46] (fun iv wr => ∃ i : Nat, iv = .int .i64 i ∧ i ≤ g.nons.length ∧ Hid (Below S3.heap.size S3 wr)) (fun iv _ => g.nons.length - (intOf iv).toNat)
      case atStart => exact ⟨0, rfl, by omega, Lib.hid (Below.refl _ _)⟩
      case round =>
        obtain ⟨i, rfl, hi, HBR⟩ := hrel
        clear c0 c1 c2 l1
        obtain ⟨c0, c1, c2, l1⟩ := HCL.out _ HBR.out
        by_cases hil : i < g.nons.length
        · have e2 : (i : Int) < g.nons.length := by omega
          have hsy : symB g (100 + (i : Int)) = true := (symB_iff g _).2 (.inr ⟨by omega, by omega⟩)
          have hA : AskP g (100 + (i : Int)) s m := ⟨HCK.out, hsy, by omega, by omega, by omega, HSA.out⟩
          have hA5 : AskP g (100 + (i : Int)) s (m5 : Int) := ⟨HCK.out, hsy, by omega, by omega, by omega, HSA.out⟩
          have HT1 := Lib.hid fun W (hW : Below S3.heap.size S3 W) => trees_ask (wc := sc) hA (HG3.out.below hW) (HS3.out.below hW)
          have HT2 := fun W (hW : Below S3.heap.size S3 W) => trees_ask (wc := sc) hA5 (HG3.out.below hW) (HS3.out.below hW)
          replace HT2 := Lib.hid HT2
          have HCN := Lib.hid fun W (hW : Below S3.heap.size S3 W) => can_ask (wc := sc) hA (HG3.out.below hW) (HS3.out.below hW)
          have HA := Lib.hid hA
          have HA5 := Lib.hid hA5
          have HIL := Lib.hid hil
          have hw100 : IntKind.i64.wrap (100 + (i : Int)) = 100 + (i : Int) := IntWalk.i64_in _ (by omega)
          clear hsy hA hA5 hil
          go_upto_region 14 with (go_at_call 14; (with_reducible refine (HT1.out _ HBR.out).mono ?_); rintro e w5 ⟨hb5, ta, tc, ts, rfl, hct, htc, hlt, hpt⟩)
          have HB5 := Lib.hid (HBR.out.trans (hb5.mono HBR.out.size))
          have HCT := Lib.hid hct
          have HLT := Lib.hid hlt
          have HPT := Lib.hid hpt
          have HTL := Lib.hid (trees_len hpt)
          clear c0 c1 c2 l1 hb5 hct hlt hpt HT1
          obtain ⟨c0, c1, c2, l1⟩ := HCL.out _ HB5.out
          go_upto_region 15 with (go_at_call 14; (with_reducible refine (HT2.out _ HB5.out).mono ?_); rintro e w6 ⟨hb6, va, vc, us, rfl, hcu, huc, hlu, hpu⟩)
          have HB6 := Lib.hid (HB5.out.trans (hb6.mono HB5.out.size))
          have HCT6 := Lib.hid (HCT.out.below hb6)
          have HLT6 := Lib.hid fun t ht => (HLT.out t ht).under hb6
          have HCU := Lib.hid hcu
          have HLU := Lib.hid hlu
          have HPU := Lib.hid hpu
          have HUL := Lib.hid (trees_len hpu)
          clear c0 c1 c2 l1 hb6 hcu hlu hpu HT2 HCT HLT HB5
          obtain ⟨c0, c1, c2, l1⟩ := HCL.out _ HB6.out
          have hm5 := HM5.out
          have htl := HTL.out
          have hul := HUL.out
          have e3 : ¬ ((m : Int) < (ts.length : Int)) := by omega
          have e4 : ¬ ((us.length : Int) < (ts.length : Int)) := by omega
          have e5 : ¬ ((ts.length : Int) < if us.length < m then (us.length : Int) else (m : Int)) := by split <;> omega
          have htu : ts.length ≤ us.length := by omega
          have htm : ts.length ≤ 8 := by omega
          have hum : us.length ≤ 13 := by omega
          have HCB := Lib.hid (can_trees HA5.out (by omega) HPU.out)
          clear htl hul hm5
          have HW6 := Lib.hid (rfl : w6 = w6)
          go_cut [95] from 68 to 95 (fun cv wx => cv = .bool false ∧ wx = w6)
          case first =>
            go_wp2
            all_goals
              go_meet
              case rel => exact ⟨rfl, rfl⟩
          case rest =>
          obtain ⟨rfl, hwx⟩ := hcut
          obtain rfl := hwx.symm
          clear e3 e4 e5 HW6
          go_wp2
          go_loopw [98] (fun jv wr2 => ∃ j : Nat, jv = .int .i64 j ∧ j ≤ ts.length ∧ Hid (Below w6.heap.size w6 wr2)) (fun jv _ => ts.length - (intOf jv).toNat)
          case atStart => exact ⟨0, rfl, by omega, Lib.hid (Below.refl _ _)⟩
          case round =>
            obtain ⟨j, rfl, hj, HBJ⟩ := hrel
            have HB7 := Lib.hid (HB6.out.trans (HBJ.out.mono HB6.out.size))
            clear c0 c1 c2 l1
            obtain ⟨c0, c1, c2, l1⟩ := HCL.out _ HB7.out
            by_cases hjl : j < ts.length
            · obtain ⟨t, ht⟩ : ∃ t, ts[j]? = some t := ⟨_, List.getElem?_eq_getElem hjl⟩
              obtain ⟨u, hu⟩ : ∃ u, us[j]? = some u := ⟨_, List.getElem?_eq_getElem (by omega)⟩
              obtain ⟨tb, to_, hta, htb, x0, x1, x2⟩ := tls_get (HCT6.out.below HBJ.out) ht
              obtain ⟨ub, uo, hua, hub, y0, y1, y2⟩ := tls_get (HCU.out.below HBJ.out) hu
              subst hta
              subst hua
              have e3 : (j : Int) < ts.length := by omega
              have e4 : (j : Int) < us.length := by omega
              have hmt := List.mem_of_getElem? ht
              have hmu := List.mem_of_getElem? hu
              obtain ⟨p1, p2, p3, p4⟩ := trees_plain HA.out HPT.out t hmt
              obtain ⟨q1, q2, q3, q4⟩ := trees_plain HA5.out HPU.out u hmu
              have heq := trees_more (by have := HM5.out; omega) HPT.out HPU.out ht hu
              have hbT := box_belowT wr (.cells #[.int .i64 t.sym, .int .i64 t.prod, .slice t.a t.kids.length t.c] 39)
              have HQT := Lib.hid (heap_alloc_new wr (.cells #[.int .i64 t.sym, .int .i64 t.prod, .slice t.a t.kids.length t.c] 39))
              have HBT := Lib.hid hbT
              have HCK4 := Lib.hid fun W (hW : Below wr.heap.size wr W) => (rcheck_any t _ _ g (100 + (i : Int)) W (HG3.out.below (HB7.out.trans (hW.mono HB7.out.size))) (check_fits9 HCK.out) (((HLT6.out t hmt).under HBJ.out).under hW) p4 p3).mono fun e w' h => (⟨h.1.trans (by rw [p1]), h.2⟩ : e = Ending.returned (.bool true) ∧ Below W.heap.size W w')
              have HLV4 := Lib.hid fun W (hW : Below wr.heap.size wr W) => rleaves_any t _ W (((HLT6.out t hmt).under HBJ.out).under hW) p3
              have HSM4 := Lib.hid fun (a7 : Option Addr) (c7 : Nat) W (hW : Below wr.heap.size wr W) (h7 : Cells W a7 (nums s)) => (keepSame2_any a7 sa c7 sc s s W h7 (HS3.out.below (HB7.out.trans (hW.mono HB7.out.size))) (by omega) (by omega)).mono fun e w' ⟨he, n, hw⟩ => (⟨he.trans (by rw [decide_eq_true rfl]), by rw [hw]; exact below_drews (Below.refl _ _) _⟩ : e = Ending.returned (.bool true) ∧ Below W.heap.size W w')
              have HST4 := Lib.hid fun W (hW : Below wr.heap.size wr W) => (rsame_any t u _ _ W (((HLT6.out t hmt).under HBJ.out).under hW) (((HLU.out u hmu).under HBJ.out).under hW) p3 q3).mono fun e w' h => (⟨h.1.trans (by rw [(same_iff _ _).2 heq]), h.2⟩ : e = Ending.returned (.bool true) ∧ Below W.heap.size W w')
              rw [p2] at HLV4
              unfold Tl.v at HCK4 HLV4 HST4
              have HT := Lib.hid ht
              have HJL := Lib.hid hjl
              have HP3 := Lib.hid p3
              clear hu hmu p1 p2 p4 q1 q2 q4 heq hbT q3 hjl ht hmt p3
              go_upto_region 20 with fail
              generalize hS4 : wr.alloc (.cells #[.int .i64 t.sym, .int .i64 t.prod, .slice t.a t.kids.length t.c] 39) = S4 at *
              have HTX := Lib.hid (show ∀ (y0 : ub < wr.heap.size), True from fun _ => trivial)
              have HU0 := Lib.hid hub
              have HY0 := Lib.hid y0
              have HY1 := Lib.hid y1
              have HY2 := Lib.hid y2
              have HWS := Lib.hid HBT.out.size
              have HRS := Lib.hid HB7.out.size
              have HJS := Lib.hid HBJ.out.size
              generalize hTB : wr.heap.size = T at *
              have HTE := Lib.hid hTB
              have HWR := Lib.hid (Below.refl wr.heap.size wr)
              clear hTB hS4 HTX
              have HCL4 : Hid (∀ W, Below S4.heap.size S4 W → (W.cell? ⟨B1, 0, none⟩ = some (.slice at_ g.terms.length ct) ∧ W.cell? ⟨B1, 1, none⟩ = some (.slice an g.nons.length cn) ∧ W.cell? ⟨B1, 2, none⟩ = some (.slice ap ls.length cp) ∧ W.cell? ⟨T, 0, none⟩ = some (.int .i64 t.sym) ∧ W.cell? ⟨T, 1, none⟩ = some (.int .i64 t.prod) ∧ W.cell? ⟨T, 2, none⟩ = some (.slice t.a t.kids.length t.c) ∧ W.cell? ⟨ub, uo + j * 3, none⟩ = some (.int .i64 u.sym) ∧ W.cell? ⟨ub, uo + j * 3 + 1, none⟩ = some (.int .i64 u.prod) ∧ W.cell? ⟨ub, uo + j * 3 + 2, none⟩ = some (.slice u.a u.kids.length u.c)) ∧ B1 < W.heap.size ∧ T < W.heap.size ∧ ub < W.heap.size) := Lib.hid fun W hW => by
                have z1 := (hW.block _ (heap_lt HQT.out)).trans HQT.out
                have hb := HBT.out.trans (hW.mono HWS.out)
                obtain ⟨a0, a1, a2, a3⟩ := HCL.out _ (HB7.out.trans (hb.mono HRS.out))
                refine ⟨⟨a0, a1, a2, (blk_cell z1 rfl).1, (blk_cell z1 rfl).1, (blk_cell z1 rfl).1, ?_, ?_, ?_⟩, a3, heap_lt z1, Nat.lt_of_lt_of_le HU0.out (by rw [← HTE.out]; exact hb.size)⟩
                · exact (hb.cell (p := ⟨ub, uo + j * 3, none⟩) HU0.out).trans HY0.out
                · exact (hb.cell (p := ⟨ub, uo + j * 3 + 1, none⟩) HU0.out).trans HY1.out
                · exact (hb.cell (p := ⟨ub, uo + j * 3 + 2, none⟩) HU0.out).trans HY2.out
              clear x0 x1 x2 y0 y1 y2 htb hub c0 c1 c2 l1
              have HB0 := Lib.hid (Below.refl S4.heap.size S4)
              have HKX : Hid (∀ W W', Hid (Below S4.heap.size S4 W) → Below W.heap.size W W' → (W'.cell? ⟨B1, 0, none⟩ = some (.slice at_ g.terms.length ct) ∧ W'.cell? ⟨B1, 1, none⟩ = some (.slice an g.nons.length cn) ∧ W'.cell? ⟨B1, 2, none⟩ = some (.slice ap ls.length cp) ∧ W'.cell? ⟨T, 0, none⟩ = some (.int .i64 t.sym) ∧ W'.cell? ⟨T, 1, none⟩ = some (.int .i64 t.prod) ∧ W'.cell? ⟨T, 2, none⟩ = some (.slice t.a t.kids.length t.c) ∧ W'.cell? ⟨ub, uo + j * 3, none⟩ = some (.int .i64 u.sym) ∧ W'.cell? ⟨ub, uo + j * 3 + 1, none⟩ = some (.int .i64 u.prod) ∧ W'.cell? ⟨ub, uo + j * 3 + 2, none⟩ = some (.slice u.a u.kids.length u.c)) ∧ Hid (Below S4.heap.size S4 W')) := Lib.hid fun W W' h k => by
                have h2 := h.out.trans (k.mono h.out.size)
                exact ⟨(HCL4.out W' h2).1, Lib.hid h2⟩
              have HBX : Hid (∀ (W : World) (o : Obj), Below W.heap.size W (W.alloc o)) := Lib.hid fun W o => box_belowT W o
              have HUP : Hid (∀ W, Hid (Below S4.heap.size S4 W) → Below T wr W) := Lib.hid fun W h => HBT.out.trans (h.out.mono HWS.out)
              obtain ⟨⟨c0, c1, c2, t0, t1, t2, y0, y1, y2⟩, l1, lT, lU⟩ := HCL4.out S4 HB0.out
              go_region_held3 (fun w' => (w'.cell? ⟨B1, 0, none⟩ = some (.slice at_ g.terms.length ct) ∧ w'.cell? ⟨B1, 1, none⟩ = some (.slice an g.nons.length cn) ∧ w'.cell? ⟨B1, 2, none⟩ = some (.slice ap ls.length cp) ∧ w'.cell? ⟨T, 0, none⟩ = some (.int .i64 t.sym) ∧ w'.cell? ⟨T, 1, none⟩ = some (.int .i64 t.prod) ∧ w'.cell? ⟨T, 2, none⟩ = some (.slice t.a t.kids.length t.c) ∧ w'.cell? ⟨ub, uo + j * 3, none⟩ = some (.int .i64 u.sym) ∧ w'.cell? ⟨ub, uo + j * 3 + 1, none⟩ = some (.int .i64 u.prod) ∧ w'.cell? ⟨ub, uo + j * 3 + 2, none⟩ = some (.slice u.a u.kids.length u.c)) ∧ Hid (Below S4.heap.size S4 w'))
                (first | (exact HKX.out _ _ HB0 (Below.refl _ _).drew) | (exact HKX.out _ _ (And.right (show _ ∧ Hid (Below S4.heap.size S4 _) by assumption)) (HBX.out _ _)) | (exact HKX.out _ _ (And.right (show _ ∧ Hid (Below S4.heap.size S4 _) by assumption)) (by assumption)) | go_keep)
                (first
                  | (go_at_call 24; (with_reducible refine (HCK4.out _ (HUP.out _ (And.right (show _ ∧ Hid (Below S4.heap.size S4 _) by assumption)))).mono ?_); rintro e w7 ⟨rfl, hb7⟩)
                  | (go_at_call 26; (with_reducible refine (HLV4.out _ (HUP.out _ (And.right (show _ ∧ Hid (Below S4.heap.size S4 _) by assumption)))).mono ?_); rintro e w8 ⟨hb8, a8, c8, rfl, ho8⟩; have HO8 := Lib.hid (own_cells ho8).1; clear ho8)
                  | (go_at_call 25; (with_reducible refine (HSM4.out _ _ _ (HUP.out _ (And.right (show _ ∧ Hid (Below S4.heap.size S4 _) by assumption))) HO8.out).mono ?_); rintro e w9 ⟨rfl, hb9⟩)
                  | (go_at_call 21; (with_reducible refine (HST4.out _ (HUP.out _ (And.right (show _ ∧ Hid (Below S4.heap.size S4 _) by assumption)))).mono ?_); rintro e w10 ⟨rfl, hb10⟩))
              all_goals
                have HBZ := And.right (show _ ∧ Hid (Below S4.heap.size S4 w10) by assumption)
                have HBZ6 := Lib.hid (HBJ.out.trans ((HBT.out.trans (HBZ.out.mono HWS.out)).mono HJS.out))
                have HZS := Lib.hid (Nat.le_trans HWS.out HBZ.out.size)
                clear c0 c1 c2 t0 t1 t2 y0 y1 y2 l1 lT lU HB0 HKX HUP HCK4 HLV4 HSM4
                go_wp2
                go_loopw [129] (fun qv wq => ∃ q : Nat, qv = .int .i64 q ∧ q ≤ j ∧ Hid (Below w10.heap.size w10 wq)) (fun qv _ => j - (intOf qv).toNat)
                case atStart => exact ⟨0, rfl, by omega, Lib.hid (Below.refl _ _)⟩
                case round =>
                  obtain ⟨q, rfl, hq, HBQ⟩ := hrel
                  have HBQ4 := Lib.hid (HBZ.out.trans (HBQ.out.mono HBZ.out.size))
                  obtain ⟨⟨-, -, -, t0, t1, t2, -, -, -⟩, -, lT, -⟩ := HCL4.out _ HBQ4.out
                  by_cases hqj : q < j
                  · obtain ⟨t', ht'⟩ : ∃ t', ts[q]? = some t' := ⟨_, List.getElem?_eq_getElem (by omega)⟩
                    have HBQ6 := Lib.hid (HBZ6.out.trans (HBQ.out.mono HBZ6.out.size))
                    obtain ⟨tb', to', he, htb, x0, x1, x2⟩ := tls_get (HCT6.out.below HBQ6.out) ht'
                    cases he
                    have hne := trees_two HA.out HPT.out hqj ht' HT.out
                    have hmt' := List.mem_of_getElem? ht'
                    have e5 : (q : Int) < j := by omega
                    have hbN := box_belowT wr (.cells #[.int .i64 t'.sym, .int .i64 t'.prod, .slice t'.a t'.kids.length t'.c] 39)
                    have HSF := Lib.hid ((rsame_any t t' _ _ (wr.alloc (.cells #[.int .i64 t'.sym, .int .i64 t'.prod, .slice t'.a t'.kids.length t'.c] 39)) ((HLT6.out t (List.mem_of_getElem? HT.out)).under (HBQ6.out.trans (hbN.mono HBQ6.out.size))) ((HLT6.out t' hmt').under (HBQ6.out.trans (hbN.mono HBQ6.out.size))) HP3.out (trees_plain HA.out HPT.out t' hmt').2.2.1).mono fun e w' h => (⟨h.1.trans (by
                      have : sameT t.plain t'.plain = false := by
                        cases hs : sameT t.plain t'.plain with
                        | false => rfl
                        | true => exact absurd ((same_iff _ _).1 hs) hne
                      rw [this]), h.2⟩ : e = Ending.returned (.bool false) ∧ Below (wr.alloc (.cells #[.int .i64 t'.sym, .int .i64 t'.prod, .slice t'.a t'.kids.length t'.c] 39)).heap.size (wr.alloc (.cells #[.int .i64 t'.sym, .int .i64 t'.prod, .slice t'.a t'.kids.length t'.c] 39)) w'))
                    unfold Tl.v at HSF
                    have HBN := Lib.hid (HBQ.out.trans (hbN.mono HBQ.out.size))
                    have HQJ := Lib.hid hqj
                    clear ht' hne hmt' hbN hqj
                    go_wp2_with (go_at_call 21; (with_reducible refine HSF.out.mono ?_); rintro e w11 ⟨rfl, hb11⟩)
                    exact ⟨⟨q + 1, by go_num, by have := HQJ.out; omega, Lib.hid (HBN.out.trans (hb11.mono HBN.out.size))⟩, by have := HQJ.out; simp [intOf]; omega⟩
                  · have e5 : ¬ (q : Int) < j := by omega
                    clear hqj
                    go_wp2
                    exact ⟨⟨j + 1, by go_num, by have := HJL.out; omega, Lib.hid (HBZ6.out.trans (HBQ.out.mono HBZ6.out.size))⟩, by have := HJL.out; simp [intOf]; omega⟩
            · have e3 : ¬ (j : Int) < ts.length := by omega
              have HCN7 := Lib.hid ((HCN.out _ HB7.out).mono fun e w' h => (⟨h.1.trans (by rw [HCB.out]), h.2⟩ : e = Ending.returned (.bool (decide (0 < us.length))) ∧ Below wr.heap.size wr w'))
              have HIL2 := HIL.out
              by_cases hu0 : 0 < us.length
              · have e4 : (0 : Int) < us.length := by omega
                rw [decide_eq_true hu0] at HCN7
                clear hjl HIL2
                go_wp2_with (go_at_call 13; (with_reducible refine HCN7.out.mono ?_); rintro e w11 ⟨rfl, hb11⟩)
                exact ⟨⟨i + 1, by go_num, by have := HIL.out; omega, Lib.hid (HB7.out.trans (hb11.mono HB7.out.size))⟩, by have := HIL.out; simp [intOf]; omega⟩
              · have e4 : ¬ (0 : Int) < us.length := by omega
                rw [decide_eq_false hu0] at HCN7
                clear hjl hu0 HIL2
                go_wp2_with (go_at_call 13; (with_reducible refine HCN7.out.mono ?_); rintro e w11 ⟨rfl, hb11⟩)
                exact ⟨⟨i + 1, by go_num, by have := HIL.out; omega, Lib.hid (HB7.out.trans (hb11.mono HB7.out.size))⟩, by have := HIL.out; simp [intOf]; omega⟩
        · have e2 : ¬ (i : Int) < g.nons.length := by omega
          clear hil
          go_wp2_with (go_at_call 16; (with_reducible refine (HWK.out _).mono ?_); rintro e w4 ⟨rfl, hb4⟩)
          go_ret
          exact ⟨rfl, HB3.out.trans ((HBR.out.trans (hb4.mono HBR.out.size)).mono HB3.out.size)⟩
end Go.Proofs.Ytgfkkbpnphbdgaa

set_option linter.unusedVariables false
namespace Go.Proofs.Ytgfkkbpnphbdgaa
open Go.RowKit

theorem deriveTrees_row (x : RawX) (la : Option Addr) (len lc : Nat) (zs : List Int) (most : Int) (w : World) (hx : RawAt w x) (hr : IsRow .i64 w la len lc zs) (hs : lc * 8 ≤ 140737488351232) :
    Calls Try.prog 6 #[x.v, .slice la len lc, .int .i64 most] w fun e w' => e = .returned (.bool true) ∧ Below w.heap.size w w' := by
  obtain ⟨h1, h2⟩ := row_len hr
  have h := deriveTrees_walk x la lc (zs.take len) most w hx (row_cells hr) (by omega) (row_wide hr)
  rwa [h1] at h
end Go.Proofs.Ytgfkkbpnphbdgaa
