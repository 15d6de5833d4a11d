/- exegeteplay.Grammar: walked, cases 0 to 31. exegeteplay.Grammar: walked, cases 32 to 33. exegeteplay.Grammar: walked, cases 34 to 36. exegeteplay.Grammar: walked, cases 37 to 39. exegeteplay.Grammar: walked. -/
import Derived.Test.YtgfkkbpnphbdgaaPlayH
import Derived.Deep.RegionHeld3
import Derived.Deep.Cut
import Derived.Deep.CutBlock
set_option linter.unusedVariables false
namespace Go.Proofs.Ytgfkkbpnphbdgaa
open Go.RowKit
open Doc

set_option maxRecDepth 100000 in
set_option maxHeartbeats 8000000 in
theorem grammar_1 (x : RawX) (w : World) (hx : RawAt w x) (hw : RawWide x) (hsel : 0 ≤ x.how % 40 ∧ x.how % 40 < 32) :
    Calls Try.prog 18 #[x.v] w fun e w' => Below w.heap.size w w' ∧ ∃ (at_ an ap : Option Addr) (n1 n2 n3 ct cn cp : Nat) (g : Gr), e = .returned (.agg #[.slice at_ n1 ct, .slice an n2 cn, .slice ap n3 cp]) ∧ GramAtC w' (.agg #[.slice at_ n1 ct, .slice an n2 cn, .slice ap n3 cp]) g ∧ MidG g := by
  have HCK : Hid (CheckG x.any) := Lib.hid (anyF_check x.terms x.nons x.plain)
  have HANY := Lib.hid fun W (hW : Below w.heap.size w W) => any_any x W (hx.below hW)
  obtain ⟨xp, xt, xn, xh, rows, xa, xc, word⟩ := x
  unfold RawX.v at HANY ⊢
  simp only at HANY ⊢
  obtain ⟨_, hw1, hw2, _, hw3⟩ := hw
  simp only at hw1 hw2 hw3
  obtain ⟨d, hd, hdl⟩ : ∃ d : Nat, xp % 5 = d ∧ d < 5 := ⟨(xp % 5).toNat, by omega, by omega⟩
  obtain ⟨hh, hhd, hhl⟩ : ∃ d : Nat, xh % 40 = d ∧ d < 40 := ⟨(xh % 40).toNat, by omega, by omega⟩
  have HWP := Lib.hid fun W => (within_any xp 5 (by omega) (by omega) W).mono fun e w' ⟨he, hw⟩ => (⟨he.trans (by rw [hd]), hw⟩ : e = Ending.returned (.int .i64 d) ∧ w' = W)
  have HWH := Lib.hid fun W => (within_any xh 40 (by omega) (by omega) W).mono fun e w' ⟨he, hw⟩ => (⟨he.trans (by rw [hhd]), hw⟩ : e = Ending.returned (.int .i64 hh) ∧ w' = W)
  have HGOOD := Lib.hid fun W => good_any xt W
  have HBAD := Lib.hid fun W => bad_any xt W
  have H3 := Lib.hid (three w (.cells #[.int .i64 xp, .int .i64 xt, .int .i64 xn, .int .i64 xh, .slice xa rows.length xc, .string word] 46) (.cells #[.slice none 0 0, .slice none 0 0, .slice none 0 0] 25) (.cells #[.slice none 0 0, .slice none 0 0, .slice none 0 0] 25))
  simp only at hsel
  have hsl : 0 ≤ hh ∧ hh < 32 := by omega
  clear hd hhd hx hsel
  obtain ⟨i0, hi0, hz0, hz1, hz2⟩ := info_of infoS
  obtain ⟨i1, hi1, hy0, hy1, hy2⟩ := info_of infoP
  obtain ⟨i2, hi2, ht0, ht1, ht2⟩ := info_of infoI
  have hmax : maxI = 9223372036854775807 := rfl
  go_enter Try.func18, Try.ntmps18
  go_upto_region 3 with fail
  obtain ⟨hb0, hsz, qX, qR, qB⟩ := H3.out
  clear H3
  generalize ((w.alloc (.cells #[.int .i64 xp, .int .i64 xt, .int .i64 xn, .int .i64 xh, .slice xa rows.length xc, .string word] 46)).alloc (.cells #[.slice none 0 0, .slice none 0 0, .slice none 0 0] 25)).alloc (.cells #[.slice none 0 0, .slice none 0 0, .slice none 0 0] 25) = S at *
  have lX := heap_lt qX
  have lR := heap_lt qR
  have lB := heap_lt qB
  have HX : Hid (∀ W, Below S.heap.size S W → (W.cell? ⟨w.heap.size, 0, none⟩ = some (.int .i64 xp) ∧ W.cell? ⟨w.heap.size, 1, none⟩ = some (.int .i64 xt) ∧ W.cell? ⟨w.heap.size, 2, none⟩ = some (.int .i64 xn) ∧ W.cell? ⟨w.heap.size, 3, none⟩ = some (.int .i64 xh) ∧ W.cell? ⟨w.heap.size, 4, none⟩ = some (.slice xa rows.length xc) ∧ W.cell? ⟨w.heap.size, 5, none⟩ = some (.string word)) ∧ w.heap.size < W.heap.size) := Lib.hid fun W hW =>
    have h := (hW.block w.heap.size lX).trans qX
    ⟨⟨(blk_cell (i := 0) (u := .int .i64 xp) h rfl).1, (blk_cell (i := 1) (u := .int .i64 xt) h rfl).1, (blk_cell (i := 2) (u := .int .i64 xn) h rfl).1, (blk_cell (i := 3) (u := .int .i64 xh) h rfl).1, (blk_cell (i := 4) (u := .slice xa rows.length xc) h rfl).1, (blk_cell (i := 5) (u := .string word) h rfl).1⟩, heap_lt h⟩
  obtain ⟨⟨c0, c1, c2, c3, c4, c5⟩, c6⟩ := HX.out S (Below.refl _ _)
  have HQR := Lib.hid qR
  have HQB := Lib.hid qB
  have HB0 := Lib.hid hb0
  have HSZ := Lib.hid hsz
  have HQX := Lib.hid qX
  clear qX qR qB hb0
  have HLB := Lib.hid lB
  go_upto_block 0 with (go_at_call 11; refine (HWP.out _).mono ?_; rintro e w1 ⟨rfl, hw1⟩; rw [hw1]; clear hw1)
  clear HWP
  go_cut [4] from 11 to 23 (fun p wx => p = .pointer (some ⟨w.heap.size + 1 + 1, 0, none⟩) ∧ ∃ (bt bn bp ct cn cp : Nat) (ts ns : List (List UInt8)) (ls : List Lay), Hid (OwnG S.heap.size (w.heap.size + 1 + 1) wx bt bn bp ct cn cp ts ns ls) ∧ Hid (Below w.heap.size w wx) ∧ Hid (∀ k, k < S.heap.size → k ≠ w.heap.size + 1 + 1 → wx.heap[k]? = S.heap[k]?))
  case first =>
    rcases (show d = 0 ∨ d = 1 ∨ d = 2 ∨ d = 3 ∨ d = 4 by omega) with rfl | rfl | rfl | rfl | rfl
    · go_wp2_with (go_at_call 17; refine (HGOOD.out S).mono ?_; rintro e w2 ⟨hb2, ts, ns, ls, at_, an, ap, ct, cn, cp, rfl, hr, hp⟩; obtain ⟨bt, bn, bp, rfl, rfl, rfl, ho⟩ := own_of hr (parse_check hp) ((hb2.block _ HLB.out).trans HQB.out) HLB.out; have q0 := (hb2.block _ HLB.out).trans HQB.out; obtain ⟨v0, z0⟩ := blk_cell (i := 0) (u := .slice none 0 0) q0 rfl; obtain ⟨v1, z1⟩ := blk_cell (i := 1) (u := .slice none 0 0) q0 rfl; obtain ⟨v2, z2⟩ := blk_cell (i := 2) (u := .slice none 0 0) q0 rfl; have l2 := heap_lt q0; have HO := Lib.hid ho; have HB2 := Lib.hid hb2; clear ho hr hp q0 hb2)
      go_meet
      case rel => exact ⟨rfl, bt, bn, bp, ct, cn, cp, ts, ns, ls, HO, Lib.hid (store3_below (HB0.out.trans (HB2.out.mono HB0.out.size)) (by omega) _ _ _), Lib.hid fun k h1 h2 => (store3_far _ _ _ k h2).trans (HB2.out.block k h1)⟩
    · go_wp2_with (go_at_call 17; refine (HGOOD.out S).mono ?_; rintro e w2 ⟨hb2, ts, ns, ls, at_, an, ap, ct, cn, cp, rfl, hr, hp⟩; obtain ⟨bt, bn, bp, rfl, rfl, rfl, ho⟩ := own_of hr (parse_check hp) ((hb2.block _ HLB.out).trans HQB.out) HLB.out; have q0 := (hb2.block _ HLB.out).trans HQB.out; obtain ⟨v0, z0⟩ := blk_cell (i := 0) (u := .slice none 0 0) q0 rfl; obtain ⟨v1, z1⟩ := blk_cell (i := 1) (u := .slice none 0 0) q0 rfl; obtain ⟨v2, z2⟩ := blk_cell (i := 2) (u := .slice none 0 0) q0 rfl; have l2 := heap_lt q0; have HO := Lib.hid ho; have HB2 := Lib.hid hb2; clear ho hr hp q0 hb2)
      go_meet
      case rel => exact ⟨rfl, bt, bn, bp, ct, cn, cp, ts, ns, ls, HO, Lib.hid (store3_below (HB0.out.trans (HB2.out.mono HB0.out.size)) (by omega) _ _ _), Lib.hid fun k h1 h2 => (store3_far _ _ _ k h2).trans (HB2.out.block k h1)⟩
    · go_wp2_with (go_at_call 10; refine (HBAD.out S).mono ?_; rintro e w2 ⟨hb2, ts, ns, ls, at_, an, ap, ct, cn, cp, rfl, hr, hp⟩; obtain ⟨bt, bn, bp, rfl, rfl, rfl, ho⟩ := own_of hr (parse_check hp) ((hb2.block _ HLB.out).trans HQB.out) HLB.out; have q0 := (hb2.block _ HLB.out).trans HQB.out; obtain ⟨v0, z0⟩ := blk_cell (i := 0) (u := .slice none 0 0) q0 rfl; obtain ⟨v1, z1⟩ := blk_cell (i := 1) (u := .slice none 0 0) q0 rfl; obtain ⟨v2, z2⟩ := blk_cell (i := 2) (u := .slice none 0 0) q0 rfl; have l2 := heap_lt q0; have HO := Lib.hid ho; have HB2 := Lib.hid hb2; clear ho hr hp q0 hb2)
      go_meet
      case rel => exact ⟨rfl, bt, bn, bp, ct, cn, cp, ts, ns, ls, HO, Lib.hid (store3_below (HB0.out.trans (HB2.out.mono HB0.out.size)) (by omega) _ _ _), Lib.hid fun k h1 h2 => (store3_far _ _ _ k h2).trans (HB2.out.block k h1)⟩
    · go_wp2_with (go_at_call 22; refine (HANY.out _ HB0.out).mono ?_; rintro e w2 ⟨hb2, F, ts, ns, ls, at_, an, ap, ct, cn, cp, rfl, hF, hr, hg, _⟩; obtain ⟨bt, bn, bp, rfl, rfl, rfl, ho⟩ := own_of (hr.base hF) (by rw [hg]; exact HCK.out) ((hb2.block _ HLB.out).trans HQB.out) HLB.out; have q0 := (hb2.block _ HLB.out).trans HQB.out; obtain ⟨v0, z0⟩ := blk_cell (i := 0) (u := .slice none 0 0) q0 rfl; obtain ⟨v1, z1⟩ := blk_cell (i := 1) (u := .slice none 0 0) q0 rfl; obtain ⟨v2, z2⟩ := blk_cell (i := 2) (u := .slice none 0 0) q0 rfl; have l2 := heap_lt q0; have HO := Lib.hid ho; have HB2 := Lib.hid hb2; clear ho hr hg q0 hb2 hF)
      go_meet
      case rel => exact ⟨rfl, bt, bn, bp, ct, cn, cp, ts, ns, ls, HO, Lib.hid (store3_below (HB0.out.trans (HB2.out.mono HB0.out.size)) (by omega) _ _ _), Lib.hid fun k h1 h2 => (store3_far _ _ _ k h2).trans (HB2.out.block k h1)⟩
    · go_wp2_with (go_at_call 22; refine (HANY.out _ HB0.out).mono ?_; rintro e w2 ⟨hb2, F, ts, ns, ls, at_, an, ap, ct, cn, cp, rfl, hF, hr, hg, _⟩; obtain ⟨bt, bn, bp, rfl, rfl, rfl, ho⟩ := own_of (hr.base hF) (by rw [hg]; exact HCK.out) ((hb2.block _ HLB.out).trans HQB.out) HLB.out; have q0 := (hb2.block _ HLB.out).trans HQB.out; obtain ⟨v0, z0⟩ := blk_cell (i := 0) (u := .slice none 0 0) q0 rfl; obtain ⟨v1, z1⟩ := blk_cell (i := 1) (u := .slice none 0 0) q0 rfl; obtain ⟨v2, z2⟩ := blk_cell (i := 2) (u := .slice none 0 0) q0 rfl; have l2 := heap_lt q0; have HO := Lib.hid ho; have HB2 := Lib.hid hb2; clear ho hr hg q0 hb2 hF)
      go_meet
      case rel => exact ⟨rfl, bt, bn, bp, ct, cn, cp, ts, ns, ls, HO, Lib.hid (store3_below (HB0.out.trans (HB2.out.mono HB0.out.size)) (by omega) _ _ _), Lib.hid fun k h1 h2 => (store3_far _ _ _ k h2).trans (HB2.out.block k h1)⟩
  case rest =>
    obtain ⟨rfl, bt, bn, bp, ct, cn, cp, ts, ns, ls, HO, HB2, HK2⟩ := hcut
    rename World => wx
    clear HGOOD HBAD HANY HCK HX c0 c1 c2 c3 c4 c5 c6
    have hsz2 := HSZ.out
    have low := HO.out.low
    have l1 := HO.out.l1
    obtain ⟨k, hk, hkl⟩ : ∃ k : Nat, xn % (ls.length : Int) = k ∧ k < ls.length := ⟨(xn % (ls.length : Int)).toNat, by have := Int.emod_nonneg xn (show (ls.length : Int) ≠ 0 by omega); omega, by have := Int.emod_nonneg xn (show (ls.length : Int) ≠ 0 by omega); have := Int.emod_lt_of_pos xn (show (0 : Int) < ls.length by omega); omega⟩
    have HWK := Lib.hid fun W => (within_any xn ls.length (by omega) (by omega) W).mono fun e w' ⟨he, hw⟩ => (⟨he.trans (by rw [hk]), hw⟩ : e = Ending.returned (.int .i64 k) ∧ w' = W)
    clear hk
    have f0 := (blk_cell (i := 0) (u := .slice (some ⟨bt, 0, none⟩) ts.length ct) HO.out.q rfl)
    have f1 := (blk_cell (i := 1) (u := .slice (some ⟨bn, 0, none⟩) ns.length cn) HO.out.q rfl)
    have f2 := (blk_cell (i := 2) (u := .slice (some ⟨bp, 0, none⟩) ls.length cp) HO.out.q rfl)
    have lB2 := heap_lt HO.out.q
    have qX2 := (HK2.out w.heap.size lX (by omega)).trans HQX.out
    have HR2 := Lib.hid ((HK2.out (w.heap.size + 1) lR (by omega)).trans HQR.out)
    have x1 := (blk_cell (i := 1) (u := .int .i64 xt) qX2 rfl).1
    have x2 := (blk_cell (i := 2) (u := .int .i64 xn) qX2 rfl).1
    have x3 := (blk_cell (i := 3) (u := .int .i64 xh) qX2 rfl).1
    have x5 := (blk_cell (i := 5) (u := .string word) qX2 rfl).1
    have lX2 := heap_lt qX2
    have qX2 := Lib.hid qX2
    have hpos : ((ls.length : Int) == 0) = false := by rw [beq_eq_false_iff_ne]; omega
    have hpos2 : (0 : Int) < ls.length := by omega
    go_upto_block 1 with (go_at_call 11; first
      | (with_reducible refine (HWK.out _).mono ?_; rintro e w1 ⟨rfl, hw1⟩; rw [hw1]; clear hw1)
      | (with_reducible refine (HWH.out _).mono ?_; rintro e w1 ⟨rfl, hw1⟩; rw [hw1]; clear hw1))
    clear HWK HWH
    go_cut [4] from 39 to 185 (fun p wy => p = .pointer (some ⟨w.heap.size + 1 + 1, 0, none⟩) ∧ Hid (HasM S.heap.size (w.heap.size + 1 + 1) wy) ∧ Hid (Below w.heap.size w wy) ∧ Hid (wy.heap[w.heap.size + 1]? = some (.cells #[.slice none 0 0, .slice none 0 0, .slice none 0 0] 25)))
    case first =>
      by_cases h28 : hh < 28
      · have hb28 : (hh : Int) < 28 := by omega
        go_wp2_with fail
        go_meet
        case rel => exact ⟨rfl, Lib.hid HO.out.same, HB2, HR2⟩
      · have hb28 : ¬ (hh : Int) < 28 := by omega
        rcases (show hh = 28 ∨ hh = 29 ∨ hh = 30 ∨ hh = 31 by omega) with rfl | rfl | rfl | rfl
        · have hneB := HO.out.neB
          have hkc := (own_cells HO.out.t).2
          have HTX := Lib.hid fun W => (cut9_any word 10 W hw3 (by decide))
          have htx : (word.extract 0 (min word.size 10)).data.toList.length ≤ 10 := by
            have : (word.extract 0 (min word.size 10)).size ≤ 10 := by rw [ByteArray.size_extract]; omega
            simpa using this
          obtain ⟨tx, htxe⟩ : ∃ tx : List UInt8, word.extract 0 (min word.size 10) = ⟨tx.toArray⟩ := ⟨(word.extract 0 (min word.size 10)).data.toList, by rw [Array.toArray_toList]⟩
          rw [htxe] at htx HTX
          have HTL : Hid (tx.length ≤ 10) := Lib.hid (by simpa using htx)
          clear htx htxe
          have HOD := Lib.hid (HO.out.keep (w' := wx.drew.alloc (.cells #[.string ⟨tx.toArray⟩] 9)) fun g hl => Below.heap_alloc wx.drew _ g hl)
          go_upto_region 16 with fail
          go_region_law (first
            | (refine step_append_lies _ (by rfl) _ _ _ (by rfl) S.heap.size 9 i0 _ 1 16 Try.underlying22 hi0 hz0 hz1 hz2 rfl (by omega) _ ts.length (strs ts) (by rfl) HOD.out.t ⟨wx.heap.size, 0, none⟩ 1 1 [.string ⟨tx.toArray⟩] (by rfl) (by rfl) (World.news_of_block (cs := #[.string ⟨tx.toArray⟩]) (t := 9) (fr := (0, 0)) (heap_alloc_new wx.drew _)) (by simp [Value.oneCell']) (by omega) (by unfold maxLen; omega) (by omega) (by simp; omega) (wx.heap.size + 1) (by simp) ?_
               intro gg c4 w4 hown4 hgrow4' hat4 hlt4
               have hgrow4 : (wx.drew.alloc (.cells #[.string ⟨tx.toArray⟩] 9)).grownBy w4 (some bt) := hgrow4'
               clear hgrow4'
               obtain ⟨r1, r2⟩ := blk_cell (w := w4) (i := 0) (u := .slice (some ⟨bt, 0, none⟩) ts.length ct) ((hgrow4.block _ (heap_lt HOD.out.q) (fun e => hneB.1 (by cases e; rfl))).trans HOD.out.q) (by rfl)
               have lw4 := hgrow4.size)
            | (rw [if_pos (by simp [Region.wanted])]; go_wp2_with (go_at_call 40; refine (HTX.out _).mono ?_; rintro e w9 ⟨rfl, hw9⟩; rw [hw9]; clear hw9)))
          all_goals
            go_wp2_with fail
            go_meet
            case rel => exact ⟨rfl, Lib.hid (HOD.out.newT (ts' := ts ++ [tx]) (by simp) (by rw [show strs (ts ++ [tx]) = strs ts ++ [.string ⟨tx.toArray⟩] by simp [strs]]; exact hown4) hgrow4 ⟨by simp; omega, fun x hx => by
              have := HTL.out
              rcases List.mem_append.1 hx with hx | hx
              · exact HO.out.m.t.2 x hx
              · rw [List.mem_singleton.1 hx]; omega⟩), Lib.hid (((HB2.out.drew.alloc HB2.out.size (.cells #[.string ⟨tx.toArray⟩] 9)).grown hgrow4 (by have := HB2.out.size; simp; omega) (fun x hx => by have : bt = x := Option.some.inj hx; omega)).setCell (p := ⟨w.heap.size + 1 + 1, 0, none⟩) (by show w.heap.size ≤ w.heap.size + 1 + 1; omega) _), Lib.hid ((Below.heap_setCell _ _ _ _ (show w.heap.size + 1 ≠ w.heap.size + 1 + 1 by omega)).trans ((hgrow4.block _ (by have := heap_lt HR2.out; simp; omega) (fun e => by have : w.heap.size + 1 = bt := Option.some.inj e; omega)).trans ((Below.heap_alloc wx.drew _ _ (heap_lt HR2.out)).trans HR2.out)))⟩
        · have hneB := HO.out.neB
          have hkc := (own_cells HO.out.n).2
          have HTX := Lib.hid fun W => (cut9_any word 10 W hw3 (by decide))
          have htx : (word.extract 0 (min word.size 10)).data.toList.length ≤ 10 := by
            have : (word.extract 0 (min word.size 10)).size ≤ 10 := by rw [ByteArray.size_extract]; omega
            simpa using this
          obtain ⟨tx, htxe⟩ : ∃ tx : List UInt8, word.extract 0 (min word.size 10) = ⟨tx.toArray⟩ := ⟨(word.extract 0 (min word.size 10)).data.toList, by rw [Array.toArray_toList]⟩
          rw [htxe] at htx HTX
          have HTL : Hid (tx.length ≤ 10) := Lib.hid (by simpa using htx)
          clear htx htxe
          have HOD := Lib.hid (HO.out.keep (w' := wx.drew.alloc (.cells #[.string ⟨tx.toArray⟩] 9)) fun g hl => Below.heap_alloc wx.drew _ g hl)
          go_upto_region 18 with fail
          go_region_law (first
            | (refine step_append_lies _ (by rfl) _ _ _ (by rfl) S.heap.size 9 i0 _ 1 16 Try.underlying22 hi0 hz0 hz1 hz2 rfl (by omega) _ ns.length (strs ns) (by rfl) HOD.out.n ⟨wx.heap.size, 0, none⟩ 1 1 [.string ⟨tx.toArray⟩] (by rfl) (by rfl) (World.news_of_block (cs := #[.string ⟨tx.toArray⟩]) (t := 9) (fr := (0, 0)) (heap_alloc_new wx.drew _)) (by simp [Value.oneCell']) (by omega) (by unfold maxLen; omega) (by omega) (by simp; omega) (wx.heap.size + 1) (by simp) ?_
               intro gg c4 w4 hown4 hgrow4' hat4 hlt4
               have hgrow4 : (wx.drew.alloc (.cells #[.string ⟨tx.toArray⟩] 9)).grownBy w4 (some bn) := hgrow4'
               clear hgrow4'
               obtain ⟨r1, r2⟩ := blk_cell (w := w4) (i := 1) (u := .slice (some ⟨bn, 0, none⟩) ns.length cn) ((hgrow4.block _ (heap_lt HOD.out.q) (fun e => hneB.2.1 (by cases e; rfl))).trans HOD.out.q) (by rfl)
               have lw4 := hgrow4.size)
            | (rw [if_pos (by simp [Region.wanted])]; go_wp2_with (go_at_call 40; refine (HTX.out _).mono ?_; rintro e w9 ⟨rfl, hw9⟩; rw [hw9]; clear hw9)))
          all_goals
            go_wp2_with fail
            go_meet
            case rel => exact ⟨rfl, Lib.hid (HOD.out.newN (ns' := ns ++ [tx]) (by simp) (by rw [show strs (ns ++ [tx]) = strs ns ++ [.string ⟨tx.toArray⟩] by simp [strs]]; exact hown4) hgrow4 ⟨by simp; omega, fun x hx => by
              have := HTL.out
              rcases List.mem_append.1 hx with hx | hx
              · exact HO.out.m.n.2 x hx
              · rw [List.mem_singleton.1 hx]; omega⟩), Lib.hid (((HB2.out.drew.alloc HB2.out.size (.cells #[.string ⟨tx.toArray⟩] 9)).grown hgrow4 (by have := HB2.out.size; simp; omega) (fun x hx => by have : bn = x := Option.some.inj hx; omega)).setCell (p := ⟨w.heap.size + 1 + 1, 1, none⟩) (by show w.heap.size ≤ w.heap.size + 1 + 1; omega) _), Lib.hid ((Below.heap_setCell _ _ _ _ (show w.heap.size + 1 ≠ w.heap.size + 1 + 1 by omega)).trans ((hgrow4.block _ (by have := heap_lt HR2.out; simp; omega) (fun e => by have : w.heap.size + 1 = bn := Option.some.inj e; omega)).trans ((Below.heap_alloc wx.drew _ _ (heap_lt HR2.out)).trans HR2.out)))⟩
        · obtain ⟨q, hq, hu, hv⟩ := HO.out.cellL k hkl
          have hneB := HO.out.neB
          have hkl2 : (k : Int) < ls.length := by omega
          have HQ := Lib.hid hq
          clear hq
          have HOD := Lib.hid (HO.out.keep (w' := wx.drew.alloc (.cells #[.int .i64 q.left, .slice q.addr q.right.length q.cap] 63)) fun g hl => Below.heap_alloc wx.drew _ g hl)
          go_upto_region 20 with fail
          go_region_law (first
            | (refine step_append_lies _ (by rfl) _ _ _ (by rfl) S.heap.size 63 i1 _ 2 32 Try.underlying23 hi1 hy0 hy1 hy2 rfl (by omega) _ ls.length (lays ls) (by rfl) HOD.out.p ⟨wx.heap.size, 0, none⟩ 1 1 [.int .i64 q.left, .slice q.addr q.right.length q.cap] (by rfl) (by rfl) (World.news_of_block (cs := #[.int .i64 q.left, .slice q.addr q.right.length q.cap]) (t := 63) (fr := (0, 0)) (heap_alloc_new wx.drew _)) (by simp [Value.oneCell']) (by omega) (by unfold maxLen; omega) (by omega) (by simp; omega) (wx.heap.size + 1) (by simp) ?_
               intro gg c4 w4 hown4 hgrow4' hat4 hlt4
               have hgrow4 : (wx.drew.alloc (.cells #[.int .i64 q.left, .slice q.addr q.right.length q.cap] 63)).grownBy w4 (some bp) := hgrow4'
               clear hgrow4'
               obtain ⟨r1, r2⟩ := blk_cell (w := w4) (i := 2) (u := .slice (some ⟨bp, 0, none⟩) ls.length cp) ((hgrow4.block _ (heap_lt HOD.out.q) (fun e => hneB.2.2 (by cases e; rfl))).trans HOD.out.q) (by rfl)
               have lw4 := hgrow4.size))
          all_goals
            go_wp2_with fail
            go_meet
            case rel => exact ⟨rfl, Lib.hid (HOD.out.newP (ls' := ls ++ [q]) (by simp) (by rw [show lays (ls ++ [q]) = lays ls ++ [.int .i64 q.left, .slice q.addr q.right.length q.cap] by simp [lays]]; exact hown4) hgrow4 (fun z hz => by
              rcases List.mem_append.1 hz with hz | hz
              · exact hz
              · rw [List.mem_singleton.1 hz]; exact List.mem_of_getElem? HQ.out) (by simp; omega)), Lib.hid (((HB2.out.drew.alloc HB2.out.size (.cells #[.int .i64 q.left, .slice q.addr q.right.length q.cap] 63)).grown hgrow4 (by have := HB2.out.size; simp; omega) (fun x hx => by have : bp = x := Option.some.inj hx; omega)).setCell (p := ⟨w.heap.size + 1 + 1, 2, none⟩) (by show w.heap.size ≤ w.heap.size + 1 + 1; omega) _), Lib.hid ((Below.heap_setCell _ _ _ _ (show w.heap.size + 1 ≠ w.heap.size + 1 + 1 by omega)).trans ((hgrow4.block _ (by have := heap_lt HR2.out; simp; omega) (fun e => by have : w.heap.size + 1 = bp := Option.some.inj e; omega)).trans ((Below.heap_alloc wx.drew _ _ (heap_lt HR2.out)).trans HR2.out)))⟩
        · obtain ⟨q, hq, hu, _⟩ := HO.out.cellL k hkl
          have hz := World.ownsRow.frozenAt HO.out.p (k * 2)
          have hkl2 : (k : Int) < ls.length := by omega
          go_wp2_with fail
          go_meet
          case rel => exact ⟨rfl, Lib.hid (HO.out.left hq xn (by omega)), Lib.hid (HB2.out.setCell (p := ⟨bp, k * 2, none⟩) (by show w.heap.size ≤ bp; omega) _), Lib.hid ((Below.heap_setCell _ _ _ _ (show w.heap.size + 1 ≠ bp by omega)).trans HR2.out)⟩
    case rest =>
      obtain ⟨rfl, HM, HBY, HRY⟩ := hcut
      rename World => wy
      clear HO HB2 HR2 HK2 f0 f1 f2 lB2 x1 x2 x3 x5 lX2 low
      obtain ⟨at_, an, ap, n1, n2, n3, ct4, cn4, cp4, g, hq, hg, hm⟩ := HM.out
      have v0 := (blk_cell (i := 0) (u := .slice at_ n1 ct4) hq rfl).1
      have v1 := (blk_cell (i := 1) (u := .slice an n2 cn4) hq rfl).1
      have v2 := (blk_cell (i := 2) (u := .slice ap n3 cp4) hq rfl).1
      have lq := heap_lt hq
      obtain ⟨r0, z0⟩ := blk_cell (i := 0) (u := .slice none 0 0) HRY.out rfl
      obtain ⟨r1, z1⟩ := blk_cell (i := 1) (u := .slice none 0 0) HRY.out rfl
      obtain ⟨r2, z2⟩ := blk_cell (i := 2) (u := .slice none 0 0) HRY.out rfl
      have lr := heap_lt HRY.out
      have HG := Lib.hid hg
      have HMM := Lib.hid hm
      clear hq hg hm HM
      go_wp2
      (try simp only [Exit.inBlock, Exit.then])
      refine bodyPost_ret (v := .agg #[.slice at_ n1 ct4, .slice an n2 cn4, .slice ap n3 cp4]) ?_ rfl ⟨?_, at_, an, ap, n1, n2, n3, ct4, cn4, cp4, g, rfl, ?_, HMM.out⟩
      · rw [results_cell1 (p := 2) (ty := 25) rfl]
        show ((asAddr (.pointer (some ⟨w.heap.size + 1, 0, none⟩))).run _ _).andThen _ = _
        show (loadVar 25 ⟨w.heap.size + 1, 0, none⟩).run _ _ = _
        exact run_loadVar_row _ (w.heap.size + 1) 25 25 _ (0, 0) _ (store3 HRY.out _ _ _) Try.underlying25 rfl (by kernel_rfl)
      · exact store3_below HBY.out (by omega) _ _ _
      · exact HG.out _ fun k h1 h2 => store3_far _ _ _ k (by omega)

end Go.Proofs.Ytgfkkbpnphbdgaa

set_option linter.unusedVariables false
namespace Go.Proofs.Ytgfkkbpnphbdgaa
open Go.RowKit
open Doc

set_option maxRecDepth 100000 in
set_option maxHeartbeats 8000000 in
theorem grammar_2 (x : RawX) (w : World) (hx : RawAt w x) (hw : RawWide x) (hsel : 32 ≤ x.how % 40 ∧ x.how % 40 < 34) :
    Calls Try.prog 18 #[x.v] w fun e w' => Below w.heap.size w w' ∧ ∃ (at_ an ap : Option Addr) (n1 n2 n3 ct cn cp : Nat) (g : Gr), e = .returned (.agg #[.slice at_ n1 ct, .slice an n2 cn, .slice ap n3 cp]) ∧ GramAtC w' (.agg #[.slice at_ n1 ct, .slice an n2 cn, .slice ap n3 cp]) g ∧ MidG g := by
  have HCK : Hid (CheckG x.any) := Lib.hid (anyF_check x.terms x.nons x.plain)
  have HANY := Lib.hid fun W (hW : Below w.heap.size w W) => any_any x W (hx.below hW)
  obtain ⟨xp, xt, xn, xh, rows, xa, xc, word⟩ := x
  unfold RawX.v at HANY ⊢
  simp only at HANY ⊢
  obtain ⟨_, hw1, hw2, _, hw3⟩ := hw
  simp only at hw1 hw2 hw3
  obtain ⟨d, hd, hdl⟩ : ∃ d : Nat, xp % 5 = d ∧ d < 5 := ⟨(xp % 5).toNat, by omega, by omega⟩
  obtain ⟨hh, hhd, hhl⟩ : ∃ d : Nat, xh % 40 = d ∧ d < 40 := ⟨(xh % 40).toNat, by omega, by omega⟩
  have HWP := Lib.hid fun W => (within_any xp 5 (by omega) (by omega) W).mono fun e w' ⟨he, hw⟩ => (⟨he.trans (by rw [hd]), hw⟩ : e = Ending.returned (.int .i64 d) ∧ w' = W)
  have HWH := Lib.hid fun W => (within_any xh 40 (by omega) (by omega) W).mono fun e w' ⟨he, hw⟩ => (⟨he.trans (by rw [hhd]), hw⟩ : e = Ending.returned (.int .i64 hh) ∧ w' = W)
  have HGOOD := Lib.hid fun W => good_any xt W
  have HBAD := Lib.hid fun W => bad_any xt W
  have H3 := Lib.hid (three w (.cells #[.int .i64 xp, .int .i64 xt, .int .i64 xn, .int .i64 xh, .slice xa rows.length xc, .string word] 46) (.cells #[.slice none 0 0, .slice none 0 0, .slice none 0 0] 25) (.cells #[.slice none 0 0, .slice none 0 0, .slice none 0 0] 25))
  simp only at hsel
  have hsl : 32 ≤ hh ∧ hh < 34 := by omega
  clear hd hhd hx hsel
  obtain ⟨i0, hi0, hz0, hz1, hz2⟩ := info_of infoS
  obtain ⟨i1, hi1, hy0, hy1, hy2⟩ := info_of infoP
  obtain ⟨i2, hi2, ht0, ht1, ht2⟩ := info_of infoI
  have hmax : maxI = 9223372036854775807 := rfl
  go_enter Try.func18, Try.ntmps18
  go_upto_region 3 with fail
  obtain ⟨hb0, hsz, qX, qR, qB⟩ := H3.out
  clear H3
  generalize ((w.alloc (.cells #[.int .i64 xp, .int .i64 xt, .int .i64 xn, .int .i64 xh, .slice xa rows.length xc, .string word] 46)).alloc (.cells #[.slice none 0 0, .slice none 0 0, .slice none 0 0] 25)).alloc (.cells #[.slice none 0 0, .slice none 0 0, .slice none 0 0] 25) = S at *
  have lX := heap_lt qX
  have lR := heap_lt qR
  have lB := heap_lt qB
  have HX : Hid (∀ W, Below S.heap.size S W → (W.cell? ⟨w.heap.size, 0, none⟩ = some (.int .i64 xp) ∧ W.cell? ⟨w.heap.size, 1, none⟩ = some (.int .i64 xt) ∧ W.cell? ⟨w.heap.size, 2, none⟩ = some (.int .i64 xn) ∧ W.cell? ⟨w.heap.size, 3, none⟩ = some (.int .i64 xh) ∧ W.cell? ⟨w.heap.size, 4, none⟩ = some (.slice xa rows.length xc) ∧ W.cell? ⟨w.heap.size, 5, none⟩ = some (.string word)) ∧ w.heap.size < W.heap.size) := Lib.hid fun W hW =>
    have h := (hW.block w.heap.size lX).trans qX
    ⟨⟨(blk_cell (i := 0) (u := .int .i64 xp) h rfl).1, (blk_cell (i := 1) (u := .int .i64 xt) h rfl).1, (blk_cell (i := 2) (u := .int .i64 xn) h rfl).1, (blk_cell (i := 3) (u := .int .i64 xh) h rfl).1, (blk_cell (i := 4) (u := .slice xa rows.length xc) h rfl).1, (blk_cell (i := 5) (u := .string word) h rfl).1⟩, heap_lt h⟩
  obtain ⟨⟨c0, c1, c2, c3, c4, c5⟩, c6⟩ := HX.out S (Below.refl _ _)
  have HQR := Lib.hid qR
  have HQB := Lib.hid qB
  have HB0 := Lib.hid hb0
  have HSZ := Lib.hid hsz
  have HQX := Lib.hid qX
  clear qX qR qB hb0
  have HLB := Lib.hid lB
  go_upto_block 0 with (go_at_call 11; refine (HWP.out _).mono ?_; rintro e w1 ⟨rfl, hw1⟩; rw [hw1]; clear hw1)
  clear HWP
  go_cut [4] from 11 to 23 (fun p wx => p = .pointer (some ⟨w.heap.size + 1 + 1, 0, none⟩) ∧ ∃ (bt bn bp ct cn cp : Nat) (ts ns : List (List UInt8)) (ls : List Lay), Hid (OwnG S.heap.size (w.heap.size + 1 + 1) wx bt bn bp ct cn cp ts ns ls) ∧ Hid (Below w.heap.size w wx) ∧ Hid (∀ k, k < S.heap.size → k ≠ w.heap.size + 1 + 1 → wx.heap[k]? = S.heap[k]?))
  case first =>
    rcases (show d = 0 ∨ d = 1 ∨ d = 2 ∨ d = 3 ∨ d = 4 by omega) with rfl | rfl | rfl | rfl | rfl
    · go_wp2_with (go_at_call 17; refine (HGOOD.out S).mono ?_; rintro e w2 ⟨hb2, ts, ns, ls, at_, an, ap, ct, cn, cp, rfl, hr, hp⟩; obtain ⟨bt, bn, bp, rfl, rfl, rfl, ho⟩ := own_of hr (parse_check hp) ((hb2.block _ HLB.out).trans HQB.out) HLB.out; have q0 := (hb2.block _ HLB.out).trans HQB.out; obtain ⟨v0, z0⟩ := blk_cell (i := 0) (u := .slice none 0 0) q0 rfl; obtain ⟨v1, z1⟩ := blk_cell (i := 1) (u := .slice none 0 0) q0 rfl; obtain ⟨v2, z2⟩ := blk_cell (i := 2) (u := .slice none 0 0) q0 rfl; have l2 := heap_lt q0; have HO := Lib.hid ho; have HB2 := Lib.hid hb2; clear ho hr hp q0 hb2)
      go_meet
      case rel => exact ⟨rfl, bt, bn, bp, ct, cn, cp, ts, ns, ls, HO, Lib.hid (store3_below (HB0.out.trans (HB2.out.mono HB0.out.size)) (by omega) _ _ _), Lib.hid fun k h1 h2 => (store3_far _ _ _ k h2).trans (HB2.out.block k h1)⟩
    · go_wp2_with (go_at_call 17; refine (HGOOD.out S).mono ?_; rintro e w2 ⟨hb2, ts, ns, ls, at_, an, ap, ct, cn, cp, rfl, hr, hp⟩; obtain ⟨bt, bn, bp, rfl, rfl, rfl, ho⟩ := own_of hr (parse_check hp) ((hb2.block _ HLB.out).trans HQB.out) HLB.out; have q0 := (hb2.block _ HLB.out).trans HQB.out; obtain ⟨v0, z0⟩ := blk_cell (i := 0) (u := .slice none 0 0) q0 rfl; obtain ⟨v1, z1⟩ := blk_cell (i := 1) (u := .slice none 0 0) q0 rfl; obtain ⟨v2, z2⟩ := blk_cell (i := 2) (u := .slice none 0 0) q0 rfl; have l2 := heap_lt q0; have HO := Lib.hid ho; have HB2 := Lib.hid hb2; clear ho hr hp q0 hb2)
      go_meet
      case rel => exact ⟨rfl, bt, bn, bp, ct, cn, cp, ts, ns, ls, HO, Lib.hid (store3_below (HB0.out.trans (HB2.out.mono HB0.out.size)) (by omega) _ _ _), Lib.hid fun k h1 h2 => (store3_far _ _ _ k h2).trans (HB2.out.block k h1)⟩
    · go_wp2_with (go_at_call 10; refine (HBAD.out S).mono ?_; rintro e w2 ⟨hb2, ts, ns, ls, at_, an, ap, ct, cn, cp, rfl, hr, hp⟩; obtain ⟨bt, bn, bp, rfl, rfl, rfl, ho⟩ := own_of hr (parse_check hp) ((hb2.block _ HLB.out).trans HQB.out) HLB.out; have q0 := (hb2.block _ HLB.out).trans HQB.out; obtain ⟨v0, z0⟩ := blk_cell (i := 0) (u := .slice none 0 0) q0 rfl; obtain ⟨v1, z1⟩ := blk_cell (i := 1) (u := .slice none 0 0) q0 rfl; obtain ⟨v2, z2⟩ := blk_cell (i := 2) (u := .slice none 0 0) q0 rfl; have l2 := heap_lt q0; have HO := Lib.hid ho; have HB2 := Lib.hid hb2; clear ho hr hp q0 hb2)
      go_meet
      case rel => exact ⟨rfl, bt, bn, bp, ct, cn, cp, ts, ns, ls, HO, Lib.hid (store3_below (HB0.out.trans (HB2.out.mono HB0.out.size)) (by omega) _ _ _), Lib.hid fun k h1 h2 => (store3_far _ _ _ k h2).trans (HB2.out.block k h1)⟩
    · go_wp2_with (go_at_call 22; refine (HANY.out _ HB0.out).mono ?_; rintro e w2 ⟨hb2, F, ts, ns, ls, at_, an, ap, ct, cn, cp, rfl, hF, hr, hg, _⟩; obtain ⟨bt, bn, bp, rfl, rfl, rfl, ho⟩ := own_of (hr.base hF) (by rw [hg]; exact HCK.out) ((hb2.block _ HLB.out).trans HQB.out) HLB.out; have q0 := (hb2.block _ HLB.out).trans HQB.out; obtain ⟨v0, z0⟩ := blk_cell (i := 0) (u := .slice none 0 0) q0 rfl; obtain ⟨v1, z1⟩ := blk_cell (i := 1) (u := .slice none 0 0) q0 rfl; obtain ⟨v2, z2⟩ := blk_cell (i := 2) (u := .slice none 0 0) q0 rfl; have l2 := heap_lt q0; have HO := Lib.hid ho; have HB2 := Lib.hid hb2; clear ho hr hg q0 hb2 hF)
      go_meet
      case rel => exact ⟨rfl, bt, bn, bp, ct, cn, cp, ts, ns, ls, HO, Lib.hid (store3_below (HB0.out.trans (HB2.out.mono HB0.out.size)) (by omega) _ _ _), Lib.hid fun k h1 h2 => (store3_far _ _ _ k h2).trans (HB2.out.block k h1)⟩
    · go_wp2_with (go_at_call 22; refine (HANY.out _ HB0.out).mono ?_; rintro e w2 ⟨hb2, F, ts, ns, ls, at_, an, ap, ct, cn, cp, rfl, hF, hr, hg, _⟩; obtain ⟨bt, bn, bp, rfl, rfl, rfl, ho⟩ := own_of (hr.base hF) (by rw [hg]; exact HCK.out) ((hb2.block _ HLB.out).trans HQB.out) HLB.out; have q0 := (hb2.block _ HLB.out).trans HQB.out; obtain ⟨v0, z0⟩ := blk_cell (i := 0) (u := .slice none 0 0) q0 rfl; obtain ⟨v1, z1⟩ := blk_cell (i := 1) (u := .slice none 0 0) q0 rfl; obtain ⟨v2, z2⟩ := blk_cell (i := 2) (u := .slice none 0 0) q0 rfl; have l2 := heap_lt q0; have HO := Lib.hid ho; have HB2 := Lib.hid hb2; clear ho hr hg q0 hb2 hF)
      go_meet
      case rel => exact ⟨rfl, bt, bn, bp, ct, cn, cp, ts, ns, ls, HO, Lib.hid (store3_below (HB0.out.trans (HB2.out.mono HB0.out.size)) (by omega) _ _ _), Lib.hid fun k h1 h2 => (store3_far _ _ _ k h2).trans (HB2.out.block k h1)⟩
  case rest =>
    obtain ⟨rfl, bt, bn, bp, ct, cn, cp, ts, ns, ls, HO, HB2, HK2⟩ := hcut
    rename World => wx
    clear HGOOD HBAD HANY HCK HX c0 c1 c2 c3 c4 c5 c6
    have hsz2 := HSZ.out
    have low := HO.out.low
    have l1 := HO.out.l1
    obtain ⟨k, hk, hkl⟩ : ∃ k : Nat, xn % (ls.length : Int) = k ∧ k < ls.length := ⟨(xn % (ls.length : Int)).toNat, by have := Int.emod_nonneg xn (show (ls.length : Int) ≠ 0 by omega); omega, by have := Int.emod_nonneg xn (show (ls.length : Int) ≠ 0 by omega); have := Int.emod_lt_of_pos xn (show (0 : Int) < ls.length by omega); omega⟩
    have HWK := Lib.hid fun W => (within_any xn ls.length (by omega) (by omega) W).mono fun e w' ⟨he, hw⟩ => (⟨he.trans (by rw [hk]), hw⟩ : e = Ending.returned (.int .i64 k) ∧ w' = W)
    clear hk
    have f0 := (blk_cell (i := 0) (u := .slice (some ⟨bt, 0, none⟩) ts.length ct) HO.out.q rfl)
    have f1 := (blk_cell (i := 1) (u := .slice (some ⟨bn, 0, none⟩) ns.length cn) HO.out.q rfl)
    have f2 := (blk_cell (i := 2) (u := .slice (some ⟨bp, 0, none⟩) ls.length cp) HO.out.q rfl)
    have lB2 := heap_lt HO.out.q
    have qX2 := (HK2.out w.heap.size lX (by omega)).trans HQX.out
    have HR2 := Lib.hid ((HK2.out (w.heap.size + 1) lR (by omega)).trans HQR.out)
    have x1 := (blk_cell (i := 1) (u := .int .i64 xt) qX2 rfl).1
    have x2 := (blk_cell (i := 2) (u := .int .i64 xn) qX2 rfl).1
    have x3 := (blk_cell (i := 3) (u := .int .i64 xh) qX2 rfl).1
    have x5 := (blk_cell (i := 5) (u := .string word) qX2 rfl).1
    have lX2 := heap_lt qX2
    have qX2 := Lib.hid qX2
    have hpos : ((ls.length : Int) == 0) = false := by rw [beq_eq_false_iff_ne]; omega
    have hpos2 : (0 : Int) < ls.length := by omega
    go_upto_block 1 with (go_at_call 11; first
      | (with_reducible refine (HWK.out _).mono ?_; rintro e w1 ⟨rfl, hw1⟩; rw [hw1]; clear hw1)
      | (with_reducible refine (HWH.out _).mono ?_; rintro e w1 ⟨rfl, hw1⟩; rw [hw1]; clear hw1))
    clear HWK HWH
    go_cut [4] from 39 to 185 (fun p wy => p = .pointer (some ⟨w.heap.size + 1 + 1, 0, none⟩) ∧ Hid (HasM S.heap.size (w.heap.size + 1 + 1) wy) ∧ Hid (Below w.heap.size w wy) ∧ Hid (wy.heap[w.heap.size + 1]? = some (.cells #[.slice none 0 0, .slice none 0 0, .slice none 0 0] 25)))
    case first =>
      by_cases h28 : hh < 28
      · omega
      · have hb28 : ¬ (hh : Int) < 28 := by omega
        rcases (show hh = 32 ∨ hh = 33 by omega) with rfl | rfl
        · obtain ⟨q, hq, hu, hv⟩ := HO.out.cellL k hkl
          have hkl2 : (k : Int) < ls.length := by omega
          have hqm := List.mem_of_getElem? hq
          have hqr : q.right.length ≤ 6 := (HO.out.m.p.2 _ (List.mem_map.2 ⟨q, hqm, rfl⟩)).2.1
          have HQS := Lib.hid (HO.out.m.p.2 _ (List.mem_map.2 ⟨q, hqm, rfl⟩)).2.2
          have hqo := HO.out.r q hqm
          have HQ := Lib.hid hq
          have hz := World.ownsRow.frozenAt HO.out.p (k * 2 + 1)
          have HF : Hid (∀ W : World, (∀ g, g < wx.heap.size → W.heap[g]? = wx.heap[g]?) → wx.heap.size ≤ W.heap.size → (W.cell? ⟨w.heap.size + 1 + 1, 2, none⟩ = some (.slice (some ⟨bp, 0, none⟩) ls.length cp) ∧ W.cell? ⟨w.heap.size, 1, none⟩ = some (.int .i64 xt) ∧ W.cell? ⟨bp, k * 2 + 1, none⟩ = some (.slice q.addr q.right.length q.cap) ∧ W.frozen? ⟨bp, k * 2 + 1, none⟩ = false) ∧ (w.heap.size + 1 + 1 < W.heap.size ∧ bp < W.heap.size)) := Lib.hid fun W hW hs =>
            have ho := HO.out.keep hW
            ⟨⟨(blk_cell (i := 2) (u := .slice (some ⟨bp, 0, none⟩) ls.length cp) ho.q rfl).1, (blk_cell (i := 1) (u := .int .i64 xt) ((hW _ lX2).trans qX2.out) rfl).1, by
              obtain ⟨q', hq', _, hv'⟩ := ho.cellL k hkl
              rw [hq] at hq'; cases hq'; exact hv', World.ownsRow.frozenAt ho.p (k * 2 + 1)⟩, by omega, by omega⟩
          obtain ⟨ql, qr, qa, qc⟩ := q
          simp only at hu hv hqr HQS hqo HF HQ
          clear hq hqm
          have hS : S.heap.size ≤ wx.heap.size := by omega
          have HQC := Lib.hid fun (W : World) (hW : ∀ g, g < wx.heap.size → W.heap[g]? = wx.heap[g]?) => (own_cells (own_same hqo fun g _ hl => hW g hl)).1
          clear hqo
          have hnB : bp ≠ w.heap.size + 1 + 1 := by omega
          have hnX : bp ≠ w.heap.size := by omega
          have HS0 : Hid ((wx.drew.cell? ⟨w.heap.size + 1 + 1, 2, none⟩ = some (.slice (some ⟨bp, 0, none⟩) ls.length cp) ∧ wx.drew.cell? ⟨w.heap.size, 1, none⟩ = some (.int .i64 xt)) ∧ (w.heap.size + 1 + 1 < wx.drew.heap.size ∧ w.heap.size < wx.drew.heap.size) ∧ Hid (wx.heap.size ≤ wx.drew.heap.size)) := Lib.hid ⟨⟨f2.1, x1⟩, ⟨lB2, lX2⟩, Lib.hid (Nat.le_refl _)⟩
          have HSB : Hid (∀ W W' : World, ((W.cell? ⟨w.heap.size + 1 + 1, 2, none⟩ = some (.slice (some ⟨bp, 0, none⟩) ls.length cp) ∧ W.cell? ⟨w.heap.size, 1, none⟩ = some (.int .i64 xt)) ∧ (w.heap.size + 1 + 1 < W.heap.size ∧ w.heap.size < W.heap.size) ∧ Hid (wx.heap.size ≤ W.heap.size)) → Hid (Below wx.heap.size W W') → ((W'.cell? ⟨w.heap.size + 1 + 1, 2, none⟩ = some (.slice (some ⟨bp, 0, none⟩) ls.length cp) ∧ W'.cell? ⟨w.heap.size, 1, none⟩ = some (.int .i64 xt)) ∧ (w.heap.size + 1 + 1 < W'.heap.size ∧ w.heap.size < W'.heap.size) ∧ Hid (wx.heap.size ≤ W'.heap.size))) := Lib.hid fun W W' h hb => by
            obtain ⟨⟨h1, h2⟩, ⟨h3, h4⟩, h5⟩ := h
            exact ⟨⟨(hb.out.cell (p := ⟨w.heap.size + 1 + 1, 2, none⟩) lB2).trans h1, (hb.out.cell (p := ⟨w.heap.size, 1, none⟩) lX2).trans h2⟩, ⟨Nat.lt_of_lt_of_le h3 hb.out.size, Nat.lt_of_lt_of_le h4 hb.out.size⟩, Lib.hid (Nat.le_trans h5.out hb.out.size)⟩
          have HSA : Hid (∀ (W : World) (o : Obj), ((W.cell? ⟨w.heap.size + 1 + 1, 2, none⟩ = some (.slice (some ⟨bp, 0, none⟩) ls.length cp) ∧ W.cell? ⟨w.heap.size, 1, none⟩ = some (.int .i64 xt)) ∧ (w.heap.size + 1 + 1 < W.heap.size ∧ w.heap.size < W.heap.size) ∧ Hid (wx.heap.size ≤ W.heap.size)) → (((W.alloc o).cell? ⟨w.heap.size + 1 + 1, 2, none⟩ = some (.slice (some ⟨bp, 0, none⟩) ls.length cp) ∧ (W.alloc o).cell? ⟨w.heap.size, 1, none⟩ = some (.int .i64 xt)) ∧ (w.heap.size + 1 + 1 < (W.alloc o).heap.size ∧ w.heap.size < (W.alloc o).heap.size) ∧ Hid (wx.heap.size ≤ (W.alloc o).heap.size))) := Lib.hid fun W o h => HSB.out W (W.alloc o) h (Lib.hid ((Below.refl _ _).alloc h.2.2.out o))
          have HSS : Hid (∀ (W : World) (u : Value), ((W.cell? ⟨w.heap.size + 1 + 1, 2, none⟩ = some (.slice (some ⟨bp, 0, none⟩) ls.length cp) ∧ W.cell? ⟨w.heap.size, 1, none⟩ = some (.int .i64 xt)) ∧ (w.heap.size + 1 + 1 < W.heap.size ∧ w.heap.size < W.heap.size) ∧ Hid (wx.heap.size ≤ W.heap.size)) → (((W.setCell ⟨bp, k * 2 + 1, none⟩ u).cell? ⟨w.heap.size + 1 + 1, 2, none⟩ = some (.slice (some ⟨bp, 0, none⟩) ls.length cp) ∧ (W.setCell ⟨bp, k * 2 + 1, none⟩ u).cell? ⟨w.heap.size, 1, none⟩ = some (.int .i64 xt)) ∧ (w.heap.size + 1 + 1 < (W.setCell ⟨bp, k * 2 + 1, none⟩ u).heap.size ∧ w.heap.size < (W.setCell ⟨bp, k * 2 + 1, none⟩ u).heap.size) ∧ Hid (wx.heap.size ≤ (W.setCell ⟨bp, k * 2 + 1, none⟩ u).heap.size))) := Lib.hid fun W u h => by
            obtain ⟨⟨h1, h2⟩, ⟨h3, h4⟩, h5⟩ := h
            refine ⟨⟨?_, ?_⟩, ⟨by simpa using h3, by simpa using h4⟩, Lib.hid (by simpa using h5.out)⟩
            · exact (World.cell?_of_block (w := W) (Below.heap_setCell _ _ _ _ (Ne.symm hnB))).trans h1
            · exact (World.cell?_of_block (w := W) (Below.heap_setCell _ _ _ _ (Ne.symm hnX))).trans h2
          go_upto_region 24 with fail
          refine wp_region_noPanic ?_
          refine wp_region_held_drew (S := (fun W => (W.cell? ⟨w.heap.size + 1 + 1, 2, none⟩ = some (.slice (some ⟨bp, 0, none⟩) ls.length cp) ∧ W.cell? ⟨w.heap.size, 1, none⟩ = some (.int .i64 xt)) ∧ (w.heap.size + 1 + 1 < W.heap.size ∧ w.heap.size < W.heap.size) ∧ Hid (wx.heap.size ≤ W.heap.size))) (by kernel_rfl) ?_ (fun hHeld => ?_)
          · (first | exact HS0.out | exact HSB.out _ _ (by assumption) (by assumption) | exact HSA.out _ _ (by assumption) | exact HSS.out _ _ (by assumption) | go_keep)
          refine wpAnyH_take (i := 0) (v := ?_) (by simp only [List.getElem?_toArray, List.getElem?_cons_zero]; rfl) (by kernel_rfl) (by kernel_rfl) (by kernel_rfl) (fun _ _ _ h => h) (Or.inl ⟨by rfl, ?_⟩) (by assumption) ?_
          rotate_left
          · (intro w hSw; (try dsimp only at hSw); go_simp; (try with_reducible rfl))
          (try simp only [Act.put, List.setIfInBounds_toArray, List.set_cons_zero, List.set_cons_succ])
          refine wpAnyH_take (i := 1) (v := ?_) (by simp only [List.getElem?_toArray, List.getElem?_cons_succ, List.getElem?_cons_zero]; rfl) (by kernel_rfl) (by kernel_rfl) (by kernel_rfl) (fun _ _ _ h => h) (Or.inl ⟨by rfl, ?_⟩) (by assumption) ?_
          rotate_left
          · (intro w hSw; (try dsimp only at hSw); go_simp; (try with_reducible rfl))
          (try simp only [Act.put, List.setIfInBounds_toArray, List.set_cons_zero, List.set_cons_succ])
          refine wpAnyH_take (i := 2) (v := ?_) (by simp only [List.getElem?_toArray, List.getElem?_cons_succ, List.getElem?_cons_zero]; rfl) (by kernel_rfl) (by kernel_rfl) (by kernel_rfl) (fun _ _ _ h => h) (Or.inl ⟨by rfl, ?_⟩) (by assumption) ?_
          rotate_left
          · (intro w hSw; (try dsimp only at hSw); go_simp; (try with_reducible rfl))
          (try simp only [Act.put, List.setIfInBounds_toArray, List.set_cons_zero, List.set_cons_succ])
          refine wpAnyH_take (i := 3) (v := ?_) (by simp only [List.getElem?_toArray, List.getElem?_cons_succ, List.getElem?_cons_zero]; rfl) (by kernel_rfl) (by kernel_rfl) (by kernel_rfl) (fun _ _ _ h => h) (Or.inl ⟨by rfl, ?_⟩) (by assumption) ?_
          rotate_left
          · (intro w hSw; (try dsimp only at hSw); go_simp; (try with_reducible rfl))
          (try simp only [Act.put, List.setIfInBounds_toArray, List.set_cons_zero, List.set_cons_succ])
          refine wpAnyH_take (i := 4) (v := ?_) (by simp only [List.getElem?_toArray, List.getElem?_cons_succ, List.getElem?_cons_zero]; rfl) (by kernel_rfl) (by kernel_rfl) (by kernel_rfl) (fun _ _ _ h => h) (Or.inl ⟨by rfl, ?_⟩) (by assumption) ?_
          rotate_left
          · (intro w hSw; (try dsimp only at hSw); go_simp; (try with_reducible rfl))
          (try simp only [Act.put, List.setIfInBounds_toArray, List.set_cons_zero, List.set_cons_succ])
          refine wpAnyH_take (i := 5) (v := ?_) (by simp only [List.getElem?_toArray, List.getElem?_cons_succ, List.getElem?_cons_zero]; rfl) (by kernel_rfl) (by kernel_rfl) (by kernel_rfl) (fun _ _ _ h => h) (Or.inl ⟨by rfl, ?_⟩) (by assumption) ?_
          rotate_left
          · (intro w hSw; (try dsimp only at hSw); go_simp; (try with_reducible rfl))
          (try simp only [Act.put, List.setIfInBounds_toArray, List.set_cons_zero, List.set_cons_succ])
          refine wpAnyH_take (i := 6) (v := ?_) (by simp only [List.getElem?_toArray, List.getElem?_cons_succ, List.getElem?_cons_zero]; rfl) (by kernel_rfl) (by kernel_rfl) (by kernel_rfl) (fun _ _ _ h => h) (Or.inl ⟨by rfl, ?_⟩) (by assumption) ?_
          rotate_left
          · (intro w hSw; (try dsimp only at hSw); go_simp; (try with_reducible rfl))
          (try simp only [Act.put, List.setIfInBounds_toArray, List.set_cons_zero, List.set_cons_succ])
          refine wpAnyH_take (i := 7) (v := ?_) (by simp only [List.getElem?_toArray, List.getElem?_cons_succ, List.getElem?_cons_zero]; rfl) (by kernel_rfl) (by kernel_rfl) (by kernel_rfl) (fun _ _ _ h => h) (Or.inl ⟨by rfl, ?_⟩) (by assumption) ?_
          rotate_left
          · (intro w hSw; (try dsimp only at hSw); go_simp; (try with_reducible rfl))
          (try simp only [Act.put, List.setIfInBounds_toArray, List.set_cons_zero, List.set_cons_succ])
          refine wpAnyH_take (i := 10) (v := ?_) (by simp only [List.getElem?_toArray, List.getElem?_cons_succ, List.getElem?_cons_zero]; rfl) (by kernel_rfl) (by kernel_rfl) (by kernel_rfl) (fun _ _ _ h => h) (Or.inl ⟨by rfl, ?_⟩) (by assumption) ?_
          rotate_left
          · (intro w hSw; (try dsimp only at hSw); go_simp; (try with_reducible rfl))
          (try simp only [Act.put, List.setIfInBounds_toArray, List.set_cons_zero, List.set_cons_succ])
          refine wpAnyH_take (i := 11) (v := ?_) (by simp only [List.getElem?_toArray, List.getElem?_cons_succ, List.getElem?_cons_zero]; rfl) (by kernel_rfl) (by kernel_rfl) (by kernel_rfl) (fun _ _ _ h => h) (Or.inl ⟨by rfl, ?_⟩) (by assumption) ?_
          rotate_left
          · (intro w hSw; (try dsimp only at hSw); go_simp; (try with_reducible rfl))
          (try simp only [Act.put, List.setIfInBounds_toArray, List.set_cons_zero, List.set_cons_succ])
          refine wpAnyH_ready (rs := [8, 12]) (by kernel_rfl) (by simp) ?_
          refine AllReadyH.cons (by simp only [List.getElem?_toArray, List.getElem?_cons_succ, List.getElem?_cons_zero]; rfl) (fun K hK => ?_) ?_
          · go_simp
            refine hK.out _ _ ?_ (fun hHeld => ?_)
            · (first | exact HS0.out | exact HSB.out _ _ (by assumption) (by assumption) | exact HSA.out _ _ (by assumption) | exact HSS.out _ _ (by assumption) | go_keep)
            clear hK K
            (try simp only [Act.put, List.setIfInBounds_toArray, List.set_cons_zero, List.set_cons_succ])
            refine wpAnyH_ready (rs := [9, 12]) (by kernel_rfl) (by simp) ?_
            refine AllReadyH.cons (by simp only [List.getElem?_toArray, List.getElem?_cons_succ, List.getElem?_cons_zero]; rfl) (fun K hK => ?_) ?_
            · refine step_app (by rfl) _ _ (by rfl) _ none 0 0 [] (by rfl) (World.ownsRow_nil _ _ _ _) (Nat.le_refl _) qa qr qc (by rfl) (HQC.out _ (by first | exact fun _ _ => rfl | exact fun g hg => Below.heap_alloc wx.drew _ g hg)) (by omega) ?_
              simp only [Nat.zero_add, List.nil_append]
              intro va3 vc3 w3 ho3 hb3
              have HBL : Hid (Below wx.heap.size _ w3) := Lib.hid (hb3.mono (by first | exact Nat.le_refl _ | simp))
              have HBX : Hid (Below wx.heap.size wx w3) := Lib.hid (by first | exact (Below.refl _ _).drew.trans hb3 | exact ((Below.refl _ _).drew.alloc (Nat.le_refl _) _).trans (hb3.mono (by simp)))
              have HB3 := Lib.hid hb3
              have HOX : Hid (w3.ownsRow wx.heap.size 3 1 (.slice va3 qr.length vc3) qr.length (nums qr)) := Lib.hid (own_baseW ho3 (by first | exact Nat.le_refl _ | simp))
              obtain ⟨⟨g0, g1, g2, g3⟩, g4, g5⟩ := HF.out w3 HBX.out.block HBX.out.size
              clear ho3 hb3
              refine hK.out _ _ ?_ (fun hHeld => ?_)
              · (first | exact HS0.out | exact HSB.out _ _ (by assumption) (by assumption) | exact HSA.out _ _ (by assumption) | exact HSS.out _ _ (by assumption) | go_keep)
              clear hK K
              (try simp only [Act.put, List.setIfInBounds_toArray, List.set_cons_zero, List.set_cons_succ])
              refine wpAnyH_ready (rs := [12]) (by kernel_rfl) (by simp) ?_
              refine AllReadyH.cons (by simp only [List.getElem?_toArray, List.getElem?_cons_succ, List.getElem?_cons_zero]; rfl) (fun K hK => ?_) ?_
              · go_simp
                refine hK.out _ _ ?_ (fun hHeld => ?_)
                · (first | exact HS0.out | exact HSB.out _ _ (by assumption) (by assumption) | exact HSA.out _ _ (by assumption) | exact HSS.out _ _ (by assumption) | go_keep)
                clear hK K
                (try simp only [Act.put, List.setIfInBounds_toArray, List.set_cons_zero, List.set_cons_succ])
                refine wpAnyH_ready (rs := [13]) (by kernel_rfl) (by simp) ?_
                refine AllReadyH.cons (by simp only [List.getElem?_toArray, List.getElem?_cons_succ, List.getElem?_cons_zero]; rfl) (fun K hK => ?_) ?_
                · refine step_app (by rfl) _ _ (by rfl) wx.heap.size va3 qr.length vc3 qr (by first | rfl | simp) (by first | exact HOX.out | exact HOX.out.alloc _) (by have := HBX.out.size; first | omega | (simp; omega)) _ [xt] 1 (by rfl) (by first | exact cells_new _ _ _ | exact (cells_new wx.drew (#[.int .i64 xt] : Array Value) 3).below HB3.out) (by simp; omega) ?_
                  intro va4 vc4 w4 ho4 hb4
                  have HBL2 : Hid (Below wx.heap.size _ w4) := Lib.hid hb4
                  have HBY : Hid (Below wx.heap.size wx w4) := Lib.hid (by first | exact HBX.out.trans hb4 | exact (HBX.out.alloc HBX.out.size _).trans hb4)
                  have HOY := Lib.hid ho4
                  obtain ⟨⟨m0, m1, m2, m3⟩, m4, m5⟩ := HF.out w4 HBY.out.block HBY.out.size
                  clear ho4 hb4
                  refine hK.out _ _ ?_ (fun hHeld => ?_)
                  · (first | exact HS0.out | exact HSB.out _ _ (by assumption) (by assumption) | exact HSA.out _ _ (by assumption) | exact HSS.out _ _ (by assumption) | go_keep)
                  clear hK K
                  (try simp only [Act.put, List.setIfInBounds_toArray, List.set_cons_zero, List.set_cons_succ])
                  refine wpAnyH_take (i := 14) (v := ?_) (by simp only [List.getElem?_toArray, List.getElem?_cons_succ, List.getElem?_cons_zero]; rfl) (by kernel_rfl) (by kernel_rfl) (by kernel_rfl) (fun _ _ _ h => h) (Or.inl ⟨by rfl, ?_⟩) (by assumption) ?_
                  rotate_left
                  · (intro w hSw; (try dsimp only at hSw); go_simp; (try with_reducible rfl))
                  (try simp only [Act.put, List.setIfInBounds_toArray, List.set_cons_zero, List.set_cons_succ])
                  refine wpAnyH_take (i := 15) (v := ?_) (by simp only [List.getElem?_toArray, List.getElem?_cons_succ, List.getElem?_cons_zero]; rfl) (by kernel_rfl) (by kernel_rfl) (by kernel_rfl) (fun _ _ _ h => h) (Or.inl ⟨by rfl, ?_⟩) (by assumption) ?_
                  rotate_left
                  · (intro w hSw; (try dsimp only at hSw); go_simp; (try with_reducible rfl))
                  (try simp only [Act.put, List.setIfInBounds_toArray, List.set_cons_zero, List.set_cons_succ])
                  refine wpAnyH_ready (rs := [16]) (by kernel_rfl) (by simp) ?_
                  refine AllReadyH.cons (by simp only [List.getElem?_toArray, List.getElem?_cons_succ, List.getElem?_cons_zero]; rfl) (fun K hK => ?_) ?_
                  · go_simp
                    refine hK.out _ _ ?_ (fun hHeld => ?_)
                    · (first | exact HS0.out | exact HSB.out _ _ (by assumption) (by assumption) | exact HSA.out _ _ (by assumption) | exact HSS.out _ _ (by assumption) | go_keep)
                    clear hK K
                    (try simp only [Act.put, List.setIfInBounds_toArray, List.set_cons_zero, List.set_cons_succ])
                    refine wpAnyH_done (by kernel_rfl) ?_ _
                    refine NoPanic.normal ?_
                    go_wp2_with fail
                    go_meet
                    case rel => exact ⟨rfl, Lib.hid ((HO.out.keep HBY.out.block).right' HQ.out (r := qr ++ [xt]) (by simp) (own_baseW (by simpa using HOY.out) hS) (by simp; omega) (fun z hz => by
                      rcases List.mem_append.1 hz with hz | hz
                      · exact HQS.out z hz
                      · rw [List.mem_singleton.1 hz]; omega)), Lib.hid ((HB2.out.trans (HBY.out.mono HB2.out.size)).setCell (p := ⟨bp, k * 2 + 1, none⟩) (by show w.heap.size ≤ bp; omega) _), Lib.hid ((Below.heap_setCell _ _ _ _ (show w.heap.size + 1 ≠ bp by omega)).trans ((HBY.out.block _ (heap_lt HR2.out)).trans HR2.out))⟩
                  exact AllReadyH.nil
                exact AllReadyH.nil
              exact AllReadyH.nil
            refine AllReadyH.cons (by simp only [List.getElem?_toArray, List.getElem?_cons_succ, List.getElem?_cons_zero]; rfl) (fun K hK => ?_) ?_
            · go_simp
              refine hK.out _ _ ?_ (fun hHeld => ?_)
              · (first | exact HS0.out | exact HSB.out _ _ (by assumption) (by assumption) | exact HSA.out _ _ (by assumption) | exact HSS.out _ _ (by assumption) | go_keep)
              clear hK K
              (try simp only [Act.put, List.setIfInBounds_toArray, List.set_cons_zero, List.set_cons_succ])
              refine wpAnyH_ready (rs := [9]) (by kernel_rfl) (by simp) ?_
              refine AllReadyH.cons (by simp only [List.getElem?_toArray, List.getElem?_cons_succ, List.getElem?_cons_zero]; rfl) (fun K hK => ?_) ?_
              · refine step_app (by rfl) _ _ (by rfl) _ none 0 0 [] (by rfl) (World.ownsRow_nil _ _ _ _) (Nat.le_refl _) qa qr qc (by rfl) (HQC.out _ (by first | exact fun _ _ => rfl | exact fun g hg => Below.heap_alloc wx.drew _ g hg)) (by omega) ?_
                simp only [Nat.zero_add, List.nil_append]
                intro va3 vc3 w3 ho3 hb3
                have HBL : Hid (Below wx.heap.size _ w3) := Lib.hid (hb3.mono (by first | exact Nat.le_refl _ | simp))
                have HBX : Hid (Below wx.heap.size wx w3) := Lib.hid (by first | exact (Below.refl _ _).drew.trans hb3 | exact ((Below.refl _ _).drew.alloc (Nat.le_refl _) _).trans (hb3.mono (by simp)))
                have HB3 := Lib.hid hb3
                have HOX : Hid (w3.ownsRow wx.heap.size 3 1 (.slice va3 qr.length vc3) qr.length (nums qr)) := Lib.hid (own_baseW ho3 (by first | exact Nat.le_refl _ | simp))
                obtain ⟨⟨g0, g1, g2, g3⟩, g4, g5⟩ := HF.out w3 HBX.out.block HBX.out.size
                clear ho3 hb3
                refine hK.out _ _ ?_ (fun hHeld => ?_)
                · (first | exact HS0.out | exact HSB.out _ _ (by assumption) (by assumption) | exact HSA.out _ _ (by assumption) | exact HSS.out _ _ (by assumption) | go_keep)
                clear hK K
                (try simp only [Act.put, List.setIfInBounds_toArray, List.set_cons_zero, List.set_cons_succ])
                refine wpAnyH_ready (rs := [13]) (by kernel_rfl) (by simp) ?_
                refine AllReadyH.cons (by simp only [List.getElem?_toArray, List.getElem?_cons_succ, List.getElem?_cons_zero]; rfl) (fun K hK => ?_) ?_
                · refine step_app (by rfl) _ _ (by rfl) wx.heap.size va3 qr.length vc3 qr (by first | rfl | simp) (by first | exact HOX.out | exact HOX.out.alloc _) (by have := HBX.out.size; first | omega | (simp; omega)) _ [xt] 1 (by rfl) (by first | exact cells_new _ _ _ | exact (cells_new wx.drew (#[.int .i64 xt] : Array Value) 3).below HB3.out) (by simp; omega) ?_
                  intro va4 vc4 w4 ho4 hb4
                  have HBL2 : Hid (Below wx.heap.size _ w4) := Lib.hid hb4
                  have HBY : Hid (Below wx.heap.size wx w4) := Lib.hid (by first | exact HBX.out.trans hb4 | exact (HBX.out.alloc HBX.out.size _).trans hb4)
                  have HOY := Lib.hid ho4
                  obtain ⟨⟨m0, m1, m2, m3⟩, m4, m5⟩ := HF.out w4 HBY.out.block HBY.out.size
                  clear ho4 hb4
                  refine hK.out _ _ ?_ (fun hHeld => ?_)
                  · (first | exact HS0.out | exact HSB.out _ _ (by assumption) (by assumption) | exact HSA.out _ _ (by assumption) | exact HSS.out _ _ (by assumption) | go_keep)
                  clear hK K
                  (try simp only [Act.put, List.setIfInBounds_toArray, List.set_cons_zero, List.set_cons_succ])
                  refine wpAnyH_take (i := 14) (v := ?_) (by simp only [List.getElem?_toArray, List.getElem?_cons_succ, List.getElem?_cons_zero]; rfl) (by kernel_rfl) (by kernel_rfl) (by kernel_rfl) (fun _ _ _ h => h) (Or.inl ⟨by rfl, ?_⟩) (by assumption) ?_
                  rotate_left
                  · (intro w hSw; (try dsimp only at hSw); go_simp; (try with_reducible rfl))
                  (try simp only [Act.put, List.setIfInBounds_toArray, List.set_cons_zero, List.set_cons_succ])
                  refine wpAnyH_take (i := 15) (v := ?_) (by simp only [List.getElem?_toArray, List.getElem?_cons_succ, List.getElem?_cons_zero]; rfl) (by kernel_rfl) (by kernel_rfl) (by kernel_rfl) (fun _ _ _ h => h) (Or.inl ⟨by rfl, ?_⟩) (by assumption) ?_
                  rotate_left
                  · (intro w hSw; (try dsimp only at hSw); go_simp; (try with_reducible rfl))
                  (try simp only [Act.put, List.setIfInBounds_toArray, List.set_cons_zero, List.set_cons_succ])
                  refine wpAnyH_ready (rs := [16]) (by kernel_rfl) (by simp) ?_
                  refine AllReadyH.cons (by simp only [List.getElem?_toArray, List.getElem?_cons_succ, List.getElem?_cons_zero]; rfl) (fun K hK => ?_) ?_
                  · go_simp
                    refine hK.out _ _ ?_ (fun hHeld => ?_)
                    · (first | exact HS0.out | exact HSB.out _ _ (by assumption) (by assumption) | exact HSA.out _ _ (by assumption) | exact HSS.out _ _ (by assumption) | go_keep)
                    clear hK K
                    (try simp only [Act.put, List.setIfInBounds_toArray, List.set_cons_zero, List.set_cons_succ])
                    refine wpAnyH_done (by kernel_rfl) ?_ _
                    refine NoPanic.normal ?_
                    go_wp2_with fail
                    go_meet
                    case rel => exact ⟨rfl, Lib.hid ((HO.out.keep HBY.out.block).right' HQ.out (r := qr ++ [xt]) (by simp) (own_baseW (by simpa using HOY.out) hS) (by simp; omega) (fun z hz => by
                      rcases List.mem_append.1 hz with hz | hz
                      · exact HQS.out z hz
                      · rw [List.mem_singleton.1 hz]; omega)), Lib.hid ((HB2.out.trans (HBY.out.mono HB2.out.size)).setCell (p := ⟨bp, k * 2 + 1, none⟩) (by show w.heap.size ≤ bp; omega) _), Lib.hid ((Below.heap_setCell _ _ _ _ (show w.heap.size + 1 ≠ bp by omega)).trans ((HBY.out.block _ (heap_lt HR2.out)).trans HR2.out))⟩
                  exact AllReadyH.nil
                exact AllReadyH.nil
              exact AllReadyH.nil
            exact AllReadyH.nil
          refine AllReadyH.cons (by simp only [List.getElem?_toArray, List.getElem?_cons_succ, List.getElem?_cons_zero]; rfl) (fun K hK => ?_) ?_
          · go_simp
            refine hK.out _ _ ?_ (fun hHeld => ?_)
            · (first | exact HS0.out | exact HSB.out _ _ (by assumption) (by assumption) | exact HSA.out _ _ (by assumption) | exact HSS.out _ _ (by assumption) | go_keep)
            clear hK K
            (try simp only [Act.put, List.setIfInBounds_toArray, List.set_cons_zero, List.set_cons_succ])
            refine wpAnyH_ready (rs := [8]) (by kernel_rfl) (by simp) ?_
            refine AllReadyH.cons (by simp only [List.getElem?_toArray, List.getElem?_cons_succ, List.getElem?_cons_zero]; rfl) (fun K hK => ?_) ?_
            · go_simp
              refine hK.out _ _ ?_ (fun hHeld => ?_)
              · (first | exact HS0.out | exact HSB.out _ _ (by assumption) (by assumption) | exact HSA.out _ _ (by assumption) | exact HSS.out _ _ (by assumption) | go_keep)
              clear hK K
              (try simp only [Act.put, List.setIfInBounds_toArray, List.set_cons_zero, List.set_cons_succ])
              refine wpAnyH_ready (rs := [9]) (by kernel_rfl) (by simp) ?_
              refine AllReadyH.cons (by simp only [List.getElem?_toArray, List.getElem?_cons_succ, List.getElem?_cons_zero]; rfl) (fun K hK => ?_) ?_
              · refine step_app (by rfl) _ _ (by rfl) _ none 0 0 [] (by rfl) (World.ownsRow_nil _ _ _ _) (Nat.le_refl _) qa qr qc (by rfl) (HQC.out _ (by first | exact fun _ _ => rfl | exact fun g hg => Below.heap_alloc wx.drew _ g hg)) (by omega) ?_
                simp only [Nat.zero_add, List.nil_append]
                intro va3 vc3 w3 ho3 hb3
                have HBL : Hid (Below wx.heap.size _ w3) := Lib.hid (hb3.mono (by first | exact Nat.le_refl _ | simp))
                have HBX : Hid (Below wx.heap.size wx w3) := Lib.hid (by first | exact (Below.refl _ _).drew.trans hb3 | exact ((Below.refl _ _).drew.alloc (Nat.le_refl _) _).trans (hb3.mono (by simp)))
                have HB3 := Lib.hid hb3
                have HOX : Hid (w3.ownsRow wx.heap.size 3 1 (.slice va3 qr.length vc3) qr.length (nums qr)) := Lib.hid (own_baseW ho3 (by first | exact Nat.le_refl _ | simp))
                obtain ⟨⟨g0, g1, g2, g3⟩, g4, g5⟩ := HF.out w3 HBX.out.block HBX.out.size
                clear ho3 hb3
                refine hK.out _ _ ?_ (fun hHeld => ?_)
                · (first | exact HS0.out | exact HSB.out _ _ (by assumption) (by assumption) | exact HSA.out _ _ (by assumption) | exact HSS.out _ _ (by assumption) | go_keep)
                clear hK K
                (try simp only [Act.put, List.setIfInBounds_toArray, List.set_cons_zero, List.set_cons_succ])
                refine wpAnyH_ready (rs := [13]) (by kernel_rfl) (by simp) ?_
                refine AllReadyH.cons (by simp only [List.getElem?_toArray, List.getElem?_cons_succ, List.getElem?_cons_zero]; rfl) (fun K hK => ?_) ?_
                · refine step_app (by rfl) _ _ (by rfl) wx.heap.size va3 qr.length vc3 qr (by first | rfl | simp) (by first | exact HOX.out | exact HOX.out.alloc _) (by have := HBX.out.size; first | omega | (simp; omega)) _ [xt] 1 (by rfl) (by first | exact cells_new _ _ _ | exact (cells_new wx.drew (#[.int .i64 xt] : Array Value) 3).below HB3.out) (by simp; omega) ?_
                  intro va4 vc4 w4 ho4 hb4
                  have HBL2 : Hid (Below wx.heap.size _ w4) := Lib.hid hb4
                  have HBY : Hid (Below wx.heap.size wx w4) := Lib.hid (by first | exact HBX.out.trans hb4 | exact (HBX.out.alloc HBX.out.size _).trans hb4)
                  have HOY := Lib.hid ho4
                  obtain ⟨⟨m0, m1, m2, m3⟩, m4, m5⟩ := HF.out w4 HBY.out.block HBY.out.size
                  clear ho4 hb4
                  refine hK.out _ _ ?_ (fun hHeld => ?_)
                  · (first | exact HS0.out | exact HSB.out _ _ (by assumption) (by assumption) | exact HSA.out _ _ (by assumption) | exact HSS.out _ _ (by assumption) | go_keep)
                  clear hK K
                  (try simp only [Act.put, List.setIfInBounds_toArray, List.set_cons_zero, List.set_cons_succ])
                  refine wpAnyH_take (i := 14) (v := ?_) (by simp only [List.getElem?_toArray, List.getElem?_cons_succ, List.getElem?_cons_zero]; rfl) (by kernel_rfl) (by kernel_rfl) (by kernel_rfl) (fun _ _ _ h => h) (Or.inl ⟨by rfl, ?_⟩) (by assumption) ?_
                  rotate_left
                  · (intro w hSw; (try dsimp only at hSw); go_simp; (try with_reducible rfl))
                  (try simp only [Act.put, List.setIfInBounds_toArray, List.set_cons_zero, List.set_cons_succ])
                  refine wpAnyH_take (i := 15) (v := ?_) (by simp only [List.getElem?_toArray, List.getElem?_cons_succ, List.getElem?_cons_zero]; rfl) (by kernel_rfl) (by kernel_rfl) (by kernel_rfl) (fun _ _ _ h => h) (Or.inl ⟨by rfl, ?_⟩) (by assumption) ?_
                  rotate_left
                  · (intro w hSw; (try dsimp only at hSw); go_simp; (try with_reducible rfl))
                  (try simp only [Act.put, List.setIfInBounds_toArray, List.set_cons_zero, List.set_cons_succ])
                  refine wpAnyH_ready (rs := [16]) (by kernel_rfl) (by simp) ?_
                  refine AllReadyH.cons (by simp only [List.getElem?_toArray, List.getElem?_cons_succ, List.getElem?_cons_zero]; rfl) (fun K hK => ?_) ?_
                  · go_simp
                    refine hK.out _ _ ?_ (fun hHeld => ?_)
                    · (first | exact HS0.out | exact HSB.out _ _ (by assumption) (by assumption) | exact HSA.out _ _ (by assumption) | exact HSS.out _ _ (by assumption) | go_keep)
                    clear hK K
                    (try simp only [Act.put, List.setIfInBounds_toArray, List.set_cons_zero, List.set_cons_succ])
                    refine wpAnyH_done (by kernel_rfl) ?_ _
                    refine NoPanic.normal ?_
                    go_wp2_with fail
                    go_meet
                    case rel => exact ⟨rfl, Lib.hid ((HO.out.keep HBY.out.block).right' HQ.out (r := qr ++ [xt]) (by simp) (own_baseW (by simpa using HOY.out) hS) (by simp; omega) (fun z hz => by
                      rcases List.mem_append.1 hz with hz | hz
                      · exact HQS.out z hz
                      · rw [List.mem_singleton.1 hz]; omega)), Lib.hid ((HB2.out.trans (HBY.out.mono HB2.out.size)).setCell (p := ⟨bp, k * 2 + 1, none⟩) (by show w.heap.size ≤ bp; omega) _), Lib.hid ((Below.heap_setCell _ _ _ _ (show w.heap.size + 1 ≠ bp by omega)).trans ((HBY.out.block _ (heap_lt HR2.out)).trans HR2.out))⟩
                  exact AllReadyH.nil
                exact AllReadyH.nil
              exact AllReadyH.nil
            exact AllReadyH.nil
          exact AllReadyH.nil
        · have hcpl := (own_cells HO.out.p).2
          have hS : S.heap.size ≤ wx.heap.size := by omega
          have hkI : ((k : Int) + 1) ≤ ls.length := by omega
          have hwr : IntKind.i64.wrap ((k : Int) + 1) = (k : Int) + 1 := wrap_small _ (by omega) (by omega)
          have htn : ((k : Int) + 1).toNat = k + 1 := by omega
          have hk0 : (0 : Int) ≤ (k : Int) + 1 := by omega
          have hkL : (k : Int) ≤ cp := by omega
          have hkL1 : ((k : Int) + 1) ≤ cp := by omega
          have hll24 : ls.length ≤ 24 := low.2.2.2.2.2.2.2.2
          have fD0 : wx.drew.cell? ⟨w.heap.size + 1 + 1, 2, none⟩ = some (.slice (some ⟨bp, 0, none⟩) ls.length cp) := f2.1
          by_cases hlast : k + 1 = ls.length
          · have hm0 : ls.length - (k + 1) = 0 := by omega
            by_cases hcp : cp = ls.length
            · subst hcp
              have HTK := Lib.hid (HO.out.takeP k (by omega))
              go_upto_region 26 with fail
              go_region_law (refine step_noP (by rfl) _ _ (by rfl) (some ⟨bp, 0, none⟩) k k (by rfl) (Nat.le_refl _) _ _ (by rfl) ?_)
              all_goals
                go_wp2_with fail
                go_meet
                case rel => exact ⟨rfl, HTK, Lib.hid (HB2.out.drew.setCell (p := ⟨w.heap.size + 1 + 1, 2, none⟩) (by show w.heap.size ≤ w.heap.size + 1 + 1; omega) _), Lib.hid ((Below.heap_setCell _ _ _ _ (show w.heap.size + 1 ≠ w.heap.size + 1 + 1 by omega)).trans HR2.out)⟩
            · have hne : ¬ cp = k + 1 := by omega
              have HTK := Lib.hid (HO.out.takeP k (by omega))
              go_upto_region 26 with fail
              go_region_law (refine step_noP (by rfl) _ _ (by rfl) (some ⟨bp, 0, none⟩) k k (by rfl) (Nat.le_refl _) _ _ (by rfl) ?_)
              all_goals
                go_wp2_with fail
                go_meet
                case rel => exact ⟨rfl, HTK, Lib.hid (HB2.out.drew.setCell (p := ⟨w.heap.size + 1 + 1, 2, none⟩) (by show w.heap.size ≤ w.heap.size + 1 + 1; omega) _), Lib.hid ((Below.heap_setCell _ _ _ _ (show w.heap.size + 1 ≠ w.heap.size + 1 + 1 by omega)).trans HR2.out)⟩
          · have hne : ¬ cp = k + 1 := by omega
            have hm1 : 0 < ls.length - (k + 1) := by omega
            have hpa := Lib.hid (own_news2 HO.out.p)
            have HL1 : Hid (∀ j u, (lays (ls.take k))[j]? = some u → wx.drew.cell? ((⟨bp, 0, none⟩ : Addr).add j) = some u) := Lib.hid fun j u hj => hpa.out j u (lays_pre ls k j u hj)
            have HL2 : Hid (∀ j u, (lays (ls.drop (k + 1)))[j]? = some u → wx.drew.cell? ((⟨bp, (k + 1) * 2, none⟩ : Addr).add j) = some u) := Lib.hid fun j u hj => by
              have h := hpa.out _ u (lays_post ls (k + 1) j u (by omega) hj)
              rw [addr_add] at h
              rw [addr_add']; exact h
            go_upto_region 26 with fail
            go_region_law (first
              | (refine step_growP (by rfl) _ _ (by rfl) ⟨bp, 0, none⟩ k (ls.take k) (by rfl) (by rw [List.length_take]; omega) HL1.out ⟨bp, (k + 1) * 2, none⟩ (ls.length - (k + 1)) (cp - (k + 1)) (ls.drop (k + 1)) (by first | rfl | simp [hne]) (by rw [List.length_drop]) HL2.out hm1 (by omega) ?_
                 intro gg c4 w4 ho4 hg4
                 have hq4 := (hg4.block _ lB2 (by simp)).trans HO.out.q
                 obtain ⟨r1, r2⟩ := blk_cell (w := w4) (i := 2) (u := .slice (some ⟨bp, 0, none⟩) ls.length cp) hq4 (by rfl)
                 have r3 := heap_lt hq4
                 have hsum : k + (ls.length - (k + 1)) = ls.length - 1 := by omega
                 rw [hsum] at ho4
                 have HO4 := Lib.hid (own_baseW ho4 (by show S.heap.size ≤ wx.heap.size; omega))
                 have HG4 : Hid (Below wx.heap.size wx w4) := Lib.hid ((Below.refl wx.heap.size wx).drew.grown hg4 (Nat.le_refl _) (fun x hx => by cases hx))
                 clear ho4 hg4 hq4))
            all_goals
              go_wp2_with fail
              go_meet
              case rel => exact ⟨rfl, Lib.hid (HO.out.newP (ls' := ls.take k ++ ls.drop (k + 1)) (by simp; omega) HO4.out ⟨HG4.out.os, HG4.out.tape, HG4.out.output, HG4.out.size, fun g hg _ => HG4.out.block g hg⟩ (fun z hz => by
                rcases List.mem_append.1 hz with hz | hz
                · exact List.mem_of_mem_take hz
                · exact List.mem_of_mem_drop hz) (by simp; omega)), Lib.hid ((HB2.out.trans (HG4.out.mono HB2.out.size)).setCell (p := ⟨w.heap.size + 1 + 1, 2, none⟩) (by show w.heap.size ≤ w.heap.size + 1 + 1; omega) _), Lib.hid ((Below.heap_setCell _ _ _ _ (show w.heap.size + 1 ≠ w.heap.size + 1 + 1 by omega)).trans ((HG4.out.block _ (heap_lt HR2.out)).trans HR2.out))⟩
    case rest =>
      obtain ⟨rfl, HM, HBY, HRY⟩ := hcut
      rename World => wy
      clear HO HB2 HR2 HK2 f0 f1 f2 lB2 x1 x2 x3 x5 lX2 low
      obtain ⟨at_, an, ap, n1, n2, n3, ct4, cn4, cp4, g, hq, hg, hm⟩ := HM.out
      have v0 := (blk_cell (i := 0) (u := .slice at_ n1 ct4) hq rfl).1
      have v1 := (blk_cell (i := 1) (u := .slice an n2 cn4) hq rfl).1
      have v2 := (blk_cell (i := 2) (u := .slice ap n3 cp4) hq rfl).1
      have lq := heap_lt hq
      obtain ⟨r0, z0⟩ := blk_cell (i := 0) (u := .slice none 0 0) HRY.out rfl
      obtain ⟨r1, z1⟩ := blk_cell (i := 1) (u := .slice none 0 0) HRY.out rfl
      obtain ⟨r2, z2⟩ := blk_cell (i := 2) (u := .slice none 0 0) HRY.out rfl
      have lr := heap_lt HRY.out
      have HG := Lib.hid hg
      have HMM := Lib.hid hm
      clear hq hg hm HM
      go_wp2
      (try simp only [Exit.inBlock, Exit.then])
      refine bodyPost_ret (v := .agg #[.slice at_ n1 ct4, .slice an n2 cn4, .slice ap n3 cp4]) ?_ rfl ⟨?_, at_, an, ap, n1, n2, n3, ct4, cn4, cp4, g, rfl, ?_, HMM.out⟩
      · rw [results_cell1 (p := 2) (ty := 25) rfl]
        show ((asAddr (.pointer (some ⟨w.heap.size + 1, 0, none⟩))).run _ _).andThen _ = _
        show (loadVar 25 ⟨w.heap.size + 1, 0, none⟩).run _ _ = _
        exact run_loadVar_row _ (w.heap.size + 1) 25 25 _ (0, 0) _ (store3 HRY.out _ _ _) Try.underlying25 rfl (by kernel_rfl)
      · exact store3_below HBY.out (by omega) _ _ _
      · exact HG.out _ fun k h1 h2 => store3_far _ _ _ k (by omega)

end Go.Proofs.Ytgfkkbpnphbdgaa

set_option linter.unusedVariables false
namespace Go.Proofs.Ytgfkkbpnphbdgaa
open Go.RowKit
open Doc

set_option maxRecDepth 100000 in
set_option maxHeartbeats 8000000 in
theorem grammar_3 (x : RawX) (w : World) (hx : RawAt w x) (hw : RawWide x) (hsel : 34 ≤ x.how % 40 ∧ x.how % 40 < 37) :
    Calls Try.prog 18 #[x.v] w fun e w' => Below w.heap.size w w' ∧ ∃ (at_ an ap : Option Addr) (n1 n2 n3 ct cn cp : Nat) (g : Gr), e = .returned (.agg #[.slice at_ n1 ct, .slice an n2 cn, .slice ap n3 cp]) ∧ GramAtC w' (.agg #[.slice at_ n1 ct, .slice an n2 cn, .slice ap n3 cp]) g ∧ MidG g := by
  have HCK : Hid (CheckG x.any) := Lib.hid (anyF_check x.terms x.nons x.plain)
  have HANY := Lib.hid fun W (hW : Below w.heap.size w W) => any_any x W (hx.below hW)
  obtain ⟨xp, xt, xn, xh, rows, xa, xc, word⟩ := x
  unfold RawX.v at HANY ⊢
  simp only at HANY ⊢
  obtain ⟨_, hw1, hw2, _, hw3⟩ := hw
  simp only at hw1 hw2 hw3
  obtain ⟨d, hd, hdl⟩ : ∃ d : Nat, xp % 5 = d ∧ d < 5 := ⟨(xp % 5).toNat, by omega, by omega⟩
  obtain ⟨hh, hhd, hhl⟩ : ∃ d : Nat, xh % 40 = d ∧ d < 40 := ⟨(xh % 40).toNat, by omega, by omega⟩
  have HWP := Lib.hid fun W => (within_any xp 5 (by omega) (by omega) W).mono fun e w' ⟨he, hw⟩ => (⟨he.trans (by rw [hd]), hw⟩ : e = Ending.returned (.int .i64 d) ∧ w' = W)
  have HWH := Lib.hid fun W => (within_any xh 40 (by omega) (by omega) W).mono fun e w' ⟨he, hw⟩ => (⟨he.trans (by rw [hhd]), hw⟩ : e = Ending.returned (.int .i64 hh) ∧ w' = W)
  have HGOOD := Lib.hid fun W => good_any xt W
  have HBAD := Lib.hid fun W => bad_any xt W
  have H3 := Lib.hid (three w (.cells #[.int .i64 xp, .int .i64 xt, .int .i64 xn, .int .i64 xh, .slice xa rows.length xc, .string word] 46) (.cells #[.slice none 0 0, .slice none 0 0, .slice none 0 0] 25) (.cells #[.slice none 0 0, .slice none 0 0, .slice none 0 0] 25))
  simp only at hsel
  have hsl : 34 ≤ hh ∧ hh < 37 := by omega
  clear hd hhd hx hsel
  obtain ⟨i0, hi0, hz0, hz1, hz2⟩ := info_of infoS
  obtain ⟨i1, hi1, hy0, hy1, hy2⟩ := info_of infoP
  obtain ⟨i2, hi2, ht0, ht1, ht2⟩ := info_of infoI
  have hmax : maxI = 9223372036854775807 := rfl
  go_enter Try.func18, Try.ntmps18
  go_upto_region 3 with fail
  obtain ⟨hb0, hsz, qX, qR, qB⟩ := H3.out
  clear H3
  generalize ((w.alloc (.cells #[.int .i64 xp, .int .i64 xt, .int .i64 xn, .int .i64 xh, .slice xa rows.length xc, .string word] 46)).alloc (.cells #[.slice none 0 0, .slice none 0 0, .slice none 0 0] 25)).alloc (.cells #[.slice none 0 0, .slice none 0 0, .slice none 0 0] 25) = S at *
  have lX := heap_lt qX
  have lR := heap_lt qR
  have lB := heap_lt qB
  have HX : Hid (∀ W, Below S.heap.size S W → (W.cell? ⟨w.heap.size, 0, none⟩ = some (.int .i64 xp) ∧ W.cell? ⟨w.heap.size, 1, none⟩ = some (.int .i64 xt) ∧ W.cell? ⟨w.heap.size, 2, none⟩ = some (.int .i64 xn) ∧ W.cell? ⟨w.heap.size, 3, none⟩ = some (.int .i64 xh) ∧ W.cell? ⟨w.heap.size, 4, none⟩ = some (.slice xa rows.length xc) ∧ W.cell? ⟨w.heap.size, 5, none⟩ = some (.string word)) ∧ w.heap.size < W.heap.size) := Lib.hid fun W hW =>
    have h := (hW.block w.heap.size lX).trans qX
    ⟨⟨(blk_cell (i := 0) (u := .int .i64 xp) h rfl).1, (blk_cell (i := 1) (u := .int .i64 xt) h rfl).1, (blk_cell (i := 2) (u := .int .i64 xn) h rfl).1, (blk_cell (i := 3) (u := .int .i64 xh) h rfl).1, (blk_cell (i := 4) (u := .slice xa rows.length xc) h rfl).1, (blk_cell (i := 5) (u := .string word) h rfl).1⟩, heap_lt h⟩
  obtain ⟨⟨c0, c1, c2, c3, c4, c5⟩, c6⟩ := HX.out S (Below.refl _ _)
  have HQR := Lib.hid qR
  have HQB := Lib.hid qB
  have HB0 := Lib.hid hb0
  have HSZ := Lib.hid hsz
  have HQX := Lib.hid qX
  clear qX qR qB hb0
  have HLB := Lib.hid lB
  go_upto_block 0 with (go_at_call 11; refine (HWP.out _).mono ?_; rintro e w1 ⟨rfl, hw1⟩; rw [hw1]; clear hw1)
  clear HWP
  go_cut [4] from 11 to 23 (fun p wx => p = .pointer (some ⟨w.heap.size + 1 + 1, 0, none⟩) ∧ ∃ (bt bn bp ct cn cp : Nat) (ts ns : List (List UInt8)) (ls : List Lay), Hid (OwnG S.heap.size (w.heap.size + 1 + 1) wx bt bn bp ct cn cp ts ns ls) ∧ Hid (Below w.heap.size w wx) ∧ Hid (∀ k, k < S.heap.size → k ≠ w.heap.size + 1 + 1 → wx.heap[k]? = S.heap[k]?))
  case first =>
    rcases (show d = 0 ∨ d = 1 ∨ d = 2 ∨ d = 3 ∨ d = 4 by omega) with rfl | rfl | rfl | rfl | rfl
    · go_wp2_with (go_at_call 17; refine (HGOOD.out S).mono ?_; rintro e w2 ⟨hb2, ts, ns, ls, at_, an, ap, ct, cn, cp, rfl, hr, hp⟩; obtain ⟨bt, bn, bp, rfl, rfl, rfl, ho⟩ := own_of hr (parse_check hp) ((hb2.block _ HLB.out).trans HQB.out) HLB.out; have q0 := (hb2.block _ HLB.out).trans HQB.out; obtain ⟨v0, z0⟩ := blk_cell (i := 0) (u := .slice none 0 0) q0 rfl; obtain ⟨v1, z1⟩ := blk_cell (i := 1) (u := .slice none 0 0) q0 rfl; obtain ⟨v2, z2⟩ := blk_cell (i := 2) (u := .slice none 0 0) q0 rfl; have l2 := heap_lt q0; have HO := Lib.hid ho; have HB2 := Lib.hid hb2; clear ho hr hp q0 hb2)
      go_meet
      case rel => exact ⟨rfl, bt, bn, bp, ct, cn, cp, ts, ns, ls, HO, Lib.hid (store3_below (HB0.out.trans (HB2.out.mono HB0.out.size)) (by omega) _ _ _), Lib.hid fun k h1 h2 => (store3_far _ _ _ k h2).trans (HB2.out.block k h1)⟩
    · go_wp2_with (go_at_call 17; refine (HGOOD.out S).mono ?_; rintro e w2 ⟨hb2, ts, ns, ls, at_, an, ap, ct, cn, cp, rfl, hr, hp⟩; obtain ⟨bt, bn, bp, rfl, rfl, rfl, ho⟩ := own_of hr (parse_check hp) ((hb2.block _ HLB.out).trans HQB.out) HLB.out; have q0 := (hb2.block _ HLB.out).trans HQB.out; obtain ⟨v0, z0⟩ := blk_cell (i := 0) (u := .slice none 0 0) q0 rfl; obtain ⟨v1, z1⟩ := blk_cell (i := 1) (u := .slice none 0 0) q0 rfl; obtain ⟨v2, z2⟩ := blk_cell (i := 2) (u := .slice none 0 0) q0 rfl; have l2 := heap_lt q0; have HO := Lib.hid ho; have HB2 := Lib.hid hb2; clear ho hr hp q0 hb2)
      go_meet
      case rel => exact ⟨rfl, bt, bn, bp, ct, cn, cp, ts, ns, ls, HO, Lib.hid (store3_below (HB0.out.trans (HB2.out.mono HB0.out.size)) (by omega) _ _ _), Lib.hid fun k h1 h2 => (store3_far _ _ _ k h2).trans (HB2.out.block k h1)⟩
    · go_wp2_with (go_at_call 10; refine (HBAD.out S).mono ?_; rintro e w2 ⟨hb2, ts, ns, ls, at_, an, ap, ct, cn, cp, rfl, hr, hp⟩; obtain ⟨bt, bn, bp, rfl, rfl, rfl, ho⟩ := own_of hr (parse_check hp) ((hb2.block _ HLB.out).trans HQB.out) HLB.out; have q0 := (hb2.block _ HLB.out).trans HQB.out; obtain ⟨v0, z0⟩ := blk_cell (i := 0) (u := .slice none 0 0) q0 rfl; obtain ⟨v1, z1⟩ := blk_cell (i := 1) (u := .slice none 0 0) q0 rfl; obtain ⟨v2, z2⟩ := blk_cell (i := 2) (u := .slice none 0 0) q0 rfl; have l2 := heap_lt q0; have HO := Lib.hid ho; have HB2 := Lib.hid hb2; clear ho hr hp q0 hb2)
      go_meet
      case rel => exact ⟨rfl, bt, bn, bp, ct, cn, cp, ts, ns, ls, HO, Lib.hid (store3_below (HB0.out.trans (HB2.out.mono HB0.out.size)) (by omega) _ _ _), Lib.hid fun k h1 h2 => (store3_far _ _ _ k h2).trans (HB2.out.block k h1)⟩
    · go_wp2_with (go_at_call 22; refine (HANY.out _ HB0.out).mono ?_; rintro e w2 ⟨hb2, F, ts, ns, ls, at_, an, ap, ct, cn, cp, rfl, hF, hr, hg, _⟩; obtain ⟨bt, bn, bp, rfl, rfl, rfl, ho⟩ := own_of (hr.base hF) (by rw [hg]; exact HCK.out) ((hb2.block _ HLB.out).trans HQB.out) HLB.out; have q0 := (hb2.block _ HLB.out).trans HQB.out; obtain ⟨v0, z0⟩ := blk_cell (i := 0) (u := .slice none 0 0) q0 rfl; obtain ⟨v1, z1⟩ := blk_cell (i := 1) (u := .slice none 0 0) q0 rfl; obtain ⟨v2, z2⟩ := blk_cell (i := 2) (u := .slice none 0 0) q0 rfl; have l2 := heap_lt q0; have HO := Lib.hid ho; have HB2 := Lib.hid hb2; clear ho hr hg q0 hb2 hF)
      go_meet
      case rel => exact ⟨rfl, bt, bn, bp, ct, cn, cp, ts, ns, ls, HO, Lib.hid (store3_below (HB0.out.trans (HB2.out.mono HB0.out.size)) (by omega) _ _ _), Lib.hid fun k h1 h2 => (store3_far _ _ _ k h2).trans (HB2.out.block k h1)⟩
    · go_wp2_with (go_at_call 22; refine (HANY.out _ HB0.out).mono ?_; rintro e w2 ⟨hb2, F, ts, ns, ls, at_, an, ap, ct, cn, cp, rfl, hF, hr, hg, _⟩; obtain ⟨bt, bn, bp, rfl, rfl, rfl, ho⟩ := own_of (hr.base hF) (by rw [hg]; exact HCK.out) ((hb2.block _ HLB.out).trans HQB.out) HLB.out; have q0 := (hb2.block _ HLB.out).trans HQB.out; obtain ⟨v0, z0⟩ := blk_cell (i := 0) (u := .slice none 0 0) q0 rfl; obtain ⟨v1, z1⟩ := blk_cell (i := 1) (u := .slice none 0 0) q0 rfl; obtain ⟨v2, z2⟩ := blk_cell (i := 2) (u := .slice none 0 0) q0 rfl; have l2 := heap_lt q0; have HO := Lib.hid ho; have HB2 := Lib.hid hb2; clear ho hr hg q0 hb2 hF)
      go_meet
      case rel => exact ⟨rfl, bt, bn, bp, ct, cn, cp, ts, ns, ls, HO, Lib.hid (store3_below (HB0.out.trans (HB2.out.mono HB0.out.size)) (by omega) _ _ _), Lib.hid fun k h1 h2 => (store3_far _ _ _ k h2).trans (HB2.out.block k h1)⟩
  case rest =>
    obtain ⟨rfl, bt, bn, bp, ct, cn, cp, ts, ns, ls, HO, HB2, HK2⟩ := hcut
    rename World => wx
    clear HGOOD HBAD HANY HCK HX c0 c1 c2 c3 c4 c5 c6
    have hsz2 := HSZ.out
    have low := HO.out.low
    have l1 := HO.out.l1
    obtain ⟨k, hk, hkl⟩ : ∃ k : Nat, xn % (ls.length : Int) = k ∧ k < ls.length := ⟨(xn % (ls.length : Int)).toNat, by have := Int.emod_nonneg xn (show (ls.length : Int) ≠ 0 by omega); omega, by have := Int.emod_nonneg xn (show (ls.length : Int) ≠ 0 by omega); have := Int.emod_lt_of_pos xn (show (0 : Int) < ls.length by omega); omega⟩
    have HWK := Lib.hid fun W => (within_any xn ls.length (by omega) (by omega) W).mono fun e w' ⟨he, hw⟩ => (⟨he.trans (by rw [hk]), hw⟩ : e = Ending.returned (.int .i64 k) ∧ w' = W)
    clear hk
    have f0 := (blk_cell (i := 0) (u := .slice (some ⟨bt, 0, none⟩) ts.length ct) HO.out.q rfl)
    have f1 := (blk_cell (i := 1) (u := .slice (some ⟨bn, 0, none⟩) ns.length cn) HO.out.q rfl)
    have f2 := (blk_cell (i := 2) (u := .slice (some ⟨bp, 0, none⟩) ls.length cp) HO.out.q rfl)
    have lB2 := heap_lt HO.out.q
    have qX2 := (HK2.out w.heap.size lX (by omega)).trans HQX.out
    have HR2 := Lib.hid ((HK2.out (w.heap.size + 1) lR (by omega)).trans HQR.out)
    have x1 := (blk_cell (i := 1) (u := .int .i64 xt) qX2 rfl).1
    have x2 := (blk_cell (i := 2) (u := .int .i64 xn) qX2 rfl).1
    have x3 := (blk_cell (i := 3) (u := .int .i64 xh) qX2 rfl).1
    have x5 := (blk_cell (i := 5) (u := .string word) qX2 rfl).1
    have lX2 := heap_lt qX2
    have qX2 := Lib.hid qX2
    have hpos : ((ls.length : Int) == 0) = false := by rw [beq_eq_false_iff_ne]; omega
    have hpos2 : (0 : Int) < ls.length := by omega
    go_upto_block 1 with (go_at_call 11; first
      | (with_reducible refine (HWK.out _).mono ?_; rintro e w1 ⟨rfl, hw1⟩; rw [hw1]; clear hw1)
      | (with_reducible refine (HWH.out _).mono ?_; rintro e w1 ⟨rfl, hw1⟩; rw [hw1]; clear hw1))
    clear HWK HWH
    go_cut [4] from 39 to 185 (fun p wy => p = .pointer (some ⟨w.heap.size + 1 + 1, 0, none⟩) ∧ Hid (HasM S.heap.size (w.heap.size + 1 + 1) wy) ∧ Hid (Below w.heap.size w wy) ∧ Hid (wy.heap[w.heap.size + 1]? = some (.cells #[.slice none 0 0, .slice none 0 0, .slice none 0 0] 25)))
    case first =>
      by_cases h28 : hh < 28
      · omega
      · have hb28 : ¬ (hh : Int) < 28 := by omega
        rcases (show hh = 34 ∨ hh = 35 ∨ hh = 36 by omega) with rfl | rfl | rfl
        · go_wp2_with fail
          go_meet
          case rel => exact ⟨rfl, Lib.hid HO.out.noTerms, Lib.hid (HB2.out.setCell (p := ⟨w.heap.size + 1 + 1, 0, none⟩) (by show w.heap.size ≤ w.heap.size + 1 + 1; omega) _), Lib.hid ((Below.heap_setCell _ _ _ _ (show w.heap.size + 1 ≠ w.heap.size + 1 + 1 by omega)).trans HR2.out)⟩
        · have hk1 := (own_cells HO.out.n).2
          have hneB := HO.out.neB
          have HOA := Lib.hid (HO.out.below ((Below.refl _ _).alloc (Nat.le_refl _) (.cells #[.string ⟨#[90]⟩] 9)))
          have HBA := Lib.hid (HB2.out.alloc HB2.out.size (.cells #[.string ⟨#[90]⟩] 9))
          have HRA := Lib.hid ((Below.heap_alloc wx (.cells #[.string ⟨#[90]⟩] 9) _ (heap_lt HR2.out)).trans HR2.out)
          go_wp2_with (at_builtin; refine wpList_append_lies _ rfl (.tmp 135) (.tmp 136) 22 rfl S.heap.size 9 i0 (.string ⟨#[]⟩) 1 16 Try.underlying22 hi0 hz0 hz1 hz2 rfl (by decide) _ ns.length (strs ns) rfl HOA.out.n ⟨wx.heap.size, 0, none⟩ 1 1 [.string ⟨#[90]⟩] rfl rfl (World.news_of_block (cs := #[.string ⟨#[90]⟩]) (t := 9) (fr := (0, 0)) (heap_alloc_new wx _)) (by simp [Value.oneCell']) (by decide) (by unfold maxLen; omega) (by omega) (by simp; omega) wx.heap.size.succ (by simp) ?_; intro gg cap4 w4 hown4 hgrow4' hat4 hlt4; have hgrow4 : (wx.alloc (.cells #[.string ⟨#[90]⟩] 9)).grownBy w4 (some bn) := hgrow4'; clear hgrow4'; obtain ⟨r1, r2⟩ := blk_cell (w := w4) (i := 1) (u := .slice (some ⟨bn, 0, none⟩) ns.length cn) ((hgrow4.block _ (heap_lt HOA.out.q) (fun e => hneB.2.1 (by cases e; rfl))).trans HOA.out.q) (by rfl); have lw4 := hgrow4.size)
          go_meet
          case rel => exact ⟨rfl, Lib.hid (HOA.out.newN (ns' := ns ++ [[90]]) (by simp) (by rw [show strs (ns ++ [[90]]) = strs ns ++ [.string ⟨#[90]⟩] by simp [strs]]; exact hown4) hgrow4 ⟨by simp; omega, fun x hx => by
            rcases List.mem_append.1 hx with hx | hx
            · exact HO.out.m.n.2 x hx
            · rw [List.mem_singleton.1 hx]; decide⟩), Lib.hid ((HBA.out.grown hgrow4 HBA.out.size (fun x hx => by have : bn = x := Option.some.inj hx; omega)).setCell (p := ⟨w.heap.size + 1 + 1, 1, none⟩) (by show w.heap.size ≤ w.heap.size + 1 + 1; omega) _), Lib.hid ((Below.heap_setCell _ _ _ _ (show w.heap.size + 1 ≠ w.heap.size + 1 + 1 by omega)).trans ((hgrow4.block _ (heap_lt HRA.out) (fun e => by have : w.heap.size + 1 = bn := Option.some.inj e; omega)).trans HRA.out))⟩
        · obtain ⟨q, hq, hu, hv⟩ := HO.out.cellL k hkl
          have hkl2 : (k : Int) < ls.length := by omega
          have hqm := List.mem_of_getElem? hq
          have hqr : q.right.length ≤ 6 := (HO.out.m.p.2 _ (List.mem_map.2 ⟨q, hqm, rfl⟩)).2.1
          have HQS := Lib.hid (HO.out.m.p.2 _ (List.mem_map.2 ⟨q, hqm, rfl⟩)).2.2
          have hqo := HO.out.r q hqm
          have HQ := Lib.hid hq
          have hz := World.ownsRow.frozenAt HO.out.p (k * 2 + 1)
          have HF : Hid (∀ W : World, (∀ g, g < wx.heap.size → W.heap[g]? = wx.heap[g]?) → wx.heap.size ≤ W.heap.size → (W.cell? ⟨w.heap.size + 1 + 1, 2, none⟩ = some (.slice (some ⟨bp, 0, none⟩) ls.length cp) ∧ W.cell? ⟨w.heap.size, 1, none⟩ = some (.int .i64 xt) ∧ W.cell? ⟨bp, k * 2 + 1, none⟩ = some (.slice q.addr q.right.length q.cap) ∧ W.frozen? ⟨bp, k * 2 + 1, none⟩ = false) ∧ (w.heap.size + 1 + 1 < W.heap.size ∧ bp < W.heap.size)) := Lib.hid fun W hW hs =>
            have ho := HO.out.keep hW
            ⟨⟨(blk_cell (i := 2) (u := .slice (some ⟨bp, 0, none⟩) ls.length cp) ho.q rfl).1, (blk_cell (i := 1) (u := .int .i64 xt) ((hW _ lX2).trans qX2.out) rfl).1, by
              obtain ⟨q', hq', _, hv'⟩ := ho.cellL k hkl
              rw [hq] at hq'; cases hq'; exact hv', World.ownsRow.frozenAt ho.p (k * 2 + 1)⟩, by omega, by omega⟩
          obtain ⟨ql, qr, qa, qc⟩ := q
          simp only at hu hv hqr HQS hqo HF HQ
          clear hq hqm
          have hS : S.heap.size ≤ wx.heap.size := by omega
          have HQC := Lib.hid fun (W : World) (hW : ∀ g, g < wx.heap.size → W.heap[g]? = wx.heap[g]?) => (own_cells (own_same hqo fun g _ hl => hW g hl)).1
          clear hqo
          have hnB : bp ≠ w.heap.size + 1 + 1 := by omega
          have hnX : bp ≠ w.heap.size := by omega
          have HS0 : Hid ((wx.drew.cell? ⟨w.heap.size + 1 + 1, 2, none⟩ = some (.slice (some ⟨bp, 0, none⟩) ls.length cp) ∧ wx.drew.cell? ⟨w.heap.size, 1, none⟩ = some (.int .i64 xt)) ∧ (w.heap.size + 1 + 1 < wx.drew.heap.size ∧ w.heap.size < wx.drew.heap.size) ∧ Hid (wx.heap.size ≤ wx.drew.heap.size)) := Lib.hid ⟨⟨f2.1, x1⟩, ⟨lB2, lX2⟩, Lib.hid (Nat.le_refl _)⟩
          have HSB : Hid (∀ W W' : World, ((W.cell? ⟨w.heap.size + 1 + 1, 2, none⟩ = some (.slice (some ⟨bp, 0, none⟩) ls.length cp) ∧ W.cell? ⟨w.heap.size, 1, none⟩ = some (.int .i64 xt)) ∧ (w.heap.size + 1 + 1 < W.heap.size ∧ w.heap.size < W.heap.size) ∧ Hid (wx.heap.size ≤ W.heap.size)) → Hid (Below wx.heap.size W W') → ((W'.cell? ⟨w.heap.size + 1 + 1, 2, none⟩ = some (.slice (some ⟨bp, 0, none⟩) ls.length cp) ∧ W'.cell? ⟨w.heap.size, 1, none⟩ = some (.int .i64 xt)) ∧ (w.heap.size + 1 + 1 < W'.heap.size ∧ w.heap.size < W'.heap.size) ∧ Hid (wx.heap.size ≤ W'.heap.size))) := Lib.hid fun W W' h hb => by
            obtain ⟨⟨h1, h2⟩, ⟨h3, h4⟩, h5⟩ := h
            exact ⟨⟨(hb.out.cell (p := ⟨w.heap.size + 1 + 1, 2, none⟩) lB2).trans h1, (hb.out.cell (p := ⟨w.heap.size, 1, none⟩) lX2).trans h2⟩, ⟨Nat.lt_of_lt_of_le h3 hb.out.size, Nat.lt_of_lt_of_le h4 hb.out.size⟩, Lib.hid (Nat.le_trans h5.out hb.out.size)⟩
          have HSA : Hid (∀ (W : World) (o : Obj), ((W.cell? ⟨w.heap.size + 1 + 1, 2, none⟩ = some (.slice (some ⟨bp, 0, none⟩) ls.length cp) ∧ W.cell? ⟨w.heap.size, 1, none⟩ = some (.int .i64 xt)) ∧ (w.heap.size + 1 + 1 < W.heap.size ∧ w.heap.size < W.heap.size) ∧ Hid (wx.heap.size ≤ W.heap.size)) → (((W.alloc o).cell? ⟨w.heap.size + 1 + 1, 2, none⟩ = some (.slice (some ⟨bp, 0, none⟩) ls.length cp) ∧ (W.alloc o).cell? ⟨w.heap.size, 1, none⟩ = some (.int .i64 xt)) ∧ (w.heap.size + 1 + 1 < (W.alloc o).heap.size ∧ w.heap.size < (W.alloc o).heap.size) ∧ Hid (wx.heap.size ≤ (W.alloc o).heap.size))) := Lib.hid fun W o h => HSB.out W (W.alloc o) h (Lib.hid ((Below.refl _ _).alloc h.2.2.out o))
          have HSS : Hid (∀ (W : World) (u : Value), ((W.cell? ⟨w.heap.size + 1 + 1, 2, none⟩ = some (.slice (some ⟨bp, 0, none⟩) ls.length cp) ∧ W.cell? ⟨w.heap.size, 1, none⟩ = some (.int .i64 xt)) ∧ (w.heap.size + 1 + 1 < W.heap.size ∧ w.heap.size < W.heap.size) ∧ Hid (wx.heap.size ≤ W.heap.size)) → (((W.setCell ⟨bp, k * 2 + 1, none⟩ u).cell? ⟨w.heap.size + 1 + 1, 2, none⟩ = some (.slice (some ⟨bp, 0, none⟩) ls.length cp) ∧ (W.setCell ⟨bp, k * 2 + 1, none⟩ u).cell? ⟨w.heap.size, 1, none⟩ = some (.int .i64 xt)) ∧ (w.heap.size + 1 + 1 < (W.setCell ⟨bp, k * 2 + 1, none⟩ u).heap.size ∧ w.heap.size < (W.setCell ⟨bp, k * 2 + 1, none⟩ u).heap.size) ∧ Hid (wx.heap.size ≤ (W.setCell ⟨bp, k * 2 + 1, none⟩ u).heap.size))) := Lib.hid fun W u h => by
            obtain ⟨⟨h1, h2⟩, ⟨h3, h4⟩, h5⟩ := h
            refine ⟨⟨?_, ?_⟩, ⟨by simpa using h3, by simpa using h4⟩, Lib.hid (by simpa using h5.out)⟩
            · exact (World.cell?_of_block (w := W) (Below.heap_setCell _ _ _ _ (Ne.symm hnB))).trans h1
            · exact (World.cell?_of_block (w := W) (Below.heap_setCell _ _ _ _ (Ne.symm hnX))).trans h2
          go_upto_region 32 with fail
          refine wp_region_noPanic ?_
          refine wp_region_held_drew (S := (fun W => (W.cell? ⟨w.heap.size + 1 + 1, 2, none⟩ = some (.slice (some ⟨bp, 0, none⟩) ls.length cp) ∧ W.cell? ⟨w.heap.size, 1, none⟩ = some (.int .i64 xt)) ∧ (w.heap.size + 1 + 1 < W.heap.size ∧ w.heap.size < W.heap.size) ∧ Hid (wx.heap.size ≤ W.heap.size))) (by kernel_rfl) ?_ (fun hHeld => ?_)
          · (first | exact HS0.out | exact HSB.out _ _ (by assumption) (by assumption) | exact HSA.out _ _ (by assumption) | exact HSS.out _ _ (by assumption) | go_keep)
          refine wpAnyH_take (i := 0) (v := ?_) (by simp only [List.getElem?_toArray, List.getElem?_cons_zero]; rfl) (by kernel_rfl) (by kernel_rfl) (by kernel_rfl) (fun _ _ _ h => h) (Or.inl ⟨by rfl, ?_⟩) (by assumption) ?_
          rotate_left
          · (intro w hSw; (try dsimp only at hSw); go_simp; (try with_reducible rfl))
          (try simp only [Act.put, List.setIfInBounds_toArray, List.set_cons_zero, List.set_cons_succ])
          refine wpAnyH_take (i := 1) (v := ?_) (by simp only [List.getElem?_toArray, List.getElem?_cons_succ, List.getElem?_cons_zero]; rfl) (by kernel_rfl) (by kernel_rfl) (by kernel_rfl) (fun _ _ _ h => h) (Or.inl ⟨by rfl, ?_⟩) (by assumption) ?_
          rotate_left
          · (intro w hSw; (try dsimp only at hSw); go_simp; (try with_reducible rfl))
          (try simp only [Act.put, List.setIfInBounds_toArray, List.set_cons_zero, List.set_cons_succ])
          refine wpAnyH_take (i := 2) (v := ?_) (by simp only [List.getElem?_toArray, List.getElem?_cons_succ, List.getElem?_cons_zero]; rfl) (by kernel_rfl) (by kernel_rfl) (by kernel_rfl) (fun _ _ _ h => h) (Or.inl ⟨by rfl, ?_⟩) (by assumption) ?_
          rotate_left
          · (intro w hSw; (try dsimp only at hSw); go_simp; (try with_reducible rfl))
          (try simp only [Act.put, List.setIfInBounds_toArray, List.set_cons_zero, List.set_cons_succ])
          refine wpAnyH_take (i := 3) (v := ?_) (by simp only [List.getElem?_toArray, List.getElem?_cons_succ, List.getElem?_cons_zero]; rfl) (by kernel_rfl) (by kernel_rfl) (by kernel_rfl) (fun _ _ _ h => h) (Or.inl ⟨by rfl, ?_⟩) (by assumption) ?_
          rotate_left
          · (intro w hSw; (try dsimp only at hSw); go_simp; (try with_reducible rfl))
          (try simp only [Act.put, List.setIfInBounds_toArray, List.set_cons_zero, List.set_cons_succ])
          refine wpAnyH_take (i := 4) (v := ?_) (by simp only [List.getElem?_toArray, List.getElem?_cons_succ, List.getElem?_cons_zero]; rfl) (by kernel_rfl) (by kernel_rfl) (by kernel_rfl) (fun _ _ _ h => h) (Or.inl ⟨by rfl, ?_⟩) (by assumption) ?_
          rotate_left
          · (intro w hSw; (try dsimp only at hSw); go_simp; (try with_reducible rfl))
          (try simp only [Act.put, List.setIfInBounds_toArray, List.set_cons_zero, List.set_cons_succ])
          refine wpAnyH_take (i := 5) (v := ?_) (by simp only [List.getElem?_toArray, List.getElem?_cons_succ, List.getElem?_cons_zero]; rfl) (by kernel_rfl) (by kernel_rfl) (by kernel_rfl) (fun _ _ _ h => h) (Or.inl ⟨by rfl, ?_⟩) (by assumption) ?_
          rotate_left
          · (intro w hSw; (try dsimp only at hSw); go_simp; (try with_reducible rfl))
          (try simp only [Act.put, List.setIfInBounds_toArray, List.set_cons_zero, List.set_cons_succ])
          refine wpAnyH_take (i := 6) (v := ?_) (by simp only [List.getElem?_toArray, List.getElem?_cons_succ, List.getElem?_cons_zero]; rfl) (by kernel_rfl) (by kernel_rfl) (by kernel_rfl) (fun _ _ _ h => h) (Or.inl ⟨by rfl, ?_⟩) (by assumption) ?_
          rotate_left
          · (intro w hSw; (try dsimp only at hSw); go_simp; (try with_reducible rfl))
          (try simp only [Act.put, List.setIfInBounds_toArray, List.set_cons_zero, List.set_cons_succ])
          refine wpAnyH_take (i := 7) (v := ?_) (by simp only [List.getElem?_toArray, List.getElem?_cons_succ, List.getElem?_cons_zero]; rfl) (by kernel_rfl) (by kernel_rfl) (by kernel_rfl) (fun _ _ _ h => h) (Or.inl ⟨by rfl, ?_⟩) (by assumption) ?_
          rotate_left
          · (intro w hSw; (try dsimp only at hSw); go_simp; (try with_reducible rfl))
          (try simp only [Act.put, List.setIfInBounds_toArray, List.set_cons_zero, List.set_cons_succ])
          refine wpAnyH_take (i := 10) (v := ?_) (by simp only [List.getElem?_toArray, List.getElem?_cons_succ, List.getElem?_cons_zero]; rfl) (by kernel_rfl) (by kernel_rfl) (by kernel_rfl) (fun _ _ _ h => h) (Or.inl ⟨by rfl, ?_⟩) (by assumption) ?_
          rotate_left
          · (intro w hSw; (try dsimp only at hSw); go_simp; (try with_reducible rfl))
          (try simp only [Act.put, List.setIfInBounds_toArray, List.set_cons_zero, List.set_cons_succ])
          refine wpAnyH_take (i := 11) (v := ?_) (by simp only [List.getElem?_toArray, List.getElem?_cons_succ, List.getElem?_cons_zero]; rfl) (by kernel_rfl) (by kernel_rfl) (by kernel_rfl) (fun _ _ _ h => h) (Or.inl ⟨by rfl, ?_⟩) (by assumption) ?_
          rotate_left
          · (intro w hSw; (try dsimp only at hSw); go_simp; (try with_reducible rfl))
          (try simp only [Act.put, List.setIfInBounds_toArray, List.set_cons_zero, List.set_cons_succ])
          refine wpAnyH_take (i := 12) (v := ?_) (by simp only [List.getElem?_toArray, List.getElem?_cons_succ, List.getElem?_cons_zero]; rfl) (by kernel_rfl) (by kernel_rfl) (by kernel_rfl) (fun _ _ _ h => h) (Or.inl ⟨by rfl, ?_⟩) (by assumption) ?_
          rotate_left
          · (intro w hSw; (try dsimp only at hSw); go_simp; (try with_reducible rfl))
          (try simp only [Act.put, List.setIfInBounds_toArray, List.set_cons_zero, List.set_cons_succ])
          refine wpAnyH_take (i := 13) (v := ?_) (by simp only [List.getElem?_toArray, List.getElem?_cons_succ, List.getElem?_cons_zero]; rfl) (by kernel_rfl) (by kernel_rfl) (by kernel_rfl) (fun _ _ _ h => h) (Or.inl ⟨by rfl, ?_⟩) (by assumption) ?_
          rotate_left
          · (intro w hSw; (try dsimp only at hSw); go_simp; (try with_reducible rfl))
          (try simp only [Act.put, List.setIfInBounds_toArray, List.set_cons_zero, List.set_cons_succ])
          refine wpAnyH_take (i := 14) (v := ?_) (by simp only [List.getElem?_toArray, List.getElem?_cons_succ, List.getElem?_cons_zero]; rfl) (by kernel_rfl) (by kernel_rfl) (by kernel_rfl) (fun _ _ _ h => h) (Or.inl ⟨by rfl, ?_⟩) (by assumption) ?_
          rotate_left
          · (intro w hSw; (try dsimp only at hSw); go_simp; (try with_reducible rfl))
          (try simp only [Act.put, List.setIfInBounds_toArray, List.set_cons_zero, List.set_cons_succ])
          refine wpAnyH_ready (rs := [8, 15]) (by kernel_rfl) (by simp) ?_
          refine AllReadyH.cons (by simp only [List.getElem?_toArray, List.getElem?_cons_succ, List.getElem?_cons_zero]; rfl) (fun K hK => ?_) ?_
          · go_simp
            refine hK.out _ _ ?_ (fun hHeld => ?_)
            · (first | exact HS0.out | exact HSB.out _ _ (by assumption) (by assumption) | exact HSA.out _ _ (by assumption) | exact HSS.out _ _ (by assumption) | go_keep)
            clear hK K
            (try simp only [Act.put, List.setIfInBounds_toArray, List.set_cons_zero, List.set_cons_succ])
            refine wpAnyH_ready (rs := [9, 15]) (by kernel_rfl) (by simp) ?_
            refine AllReadyH.cons (by simp only [List.getElem?_toArray, List.getElem?_cons_succ, List.getElem?_cons_zero]; rfl) (fun K hK => ?_) ?_
            · refine step_app (by rfl) _ _ (by rfl) _ none 0 0 [] (by rfl) (World.ownsRow_nil _ _ _ _) (Nat.le_refl _) qa qr qc (by rfl) (HQC.out _ (by first | exact fun _ _ => rfl | exact fun g hg => Below.heap_alloc wx.drew _ g hg)) (by omega) ?_
              simp only [Nat.zero_add, List.nil_append]
              intro va3 vc3 w3 ho3 hb3
              have HBL : Hid (Below wx.heap.size _ w3) := Lib.hid (hb3.mono (by first | exact Nat.le_refl _ | simp))
              have HBX : Hid (Below wx.heap.size wx w3) := Lib.hid (by first | exact (Below.refl _ _).drew.trans hb3 | exact ((Below.refl _ _).drew.alloc (Nat.le_refl _) _).trans (hb3.mono (by simp)))
              have HB3 := Lib.hid hb3
              have HOX : Hid (w3.ownsRow wx.heap.size 3 1 (.slice va3 qr.length vc3) qr.length (nums qr)) := Lib.hid (own_baseW ho3 (by first | exact Nat.le_refl _ | simp))
              obtain ⟨⟨g0, g1, g2, g3⟩, g4, g5⟩ := HF.out w3 HBX.out.block HBX.out.size
              clear ho3 hb3
              refine hK.out _ _ ?_ (fun hHeld => ?_)
              · (first | exact HS0.out | exact HSB.out _ _ (by assumption) (by assumption) | exact HSA.out _ _ (by assumption) | exact HSS.out _ _ (by assumption) | go_keep)
              clear hK K
              (try simp only [Act.put, List.setIfInBounds_toArray, List.set_cons_zero, List.set_cons_succ])
              refine wpAnyH_ready (rs := [15]) (by kernel_rfl) (by simp) ?_
              refine AllReadyH.cons (by simp only [List.getElem?_toArray, List.getElem?_cons_succ, List.getElem?_cons_zero]; rfl) (fun K hK => ?_) ?_
              · go_simp
                refine hK.out _ _ ?_ (fun hHeld => ?_)
                · (first | exact HS0.out | exact HSB.out _ _ (by assumption) (by assumption) | exact HSA.out _ _ (by assumption) | exact HSS.out _ _ (by assumption) | go_keep)
                clear hK K
                (try simp only [Act.put, List.setIfInBounds_toArray, List.set_cons_zero, List.set_cons_succ])
                refine wpAnyH_ready (rs := [16]) (by kernel_rfl) (by simp) ?_
                refine AllReadyH.cons (by simp only [List.getElem?_toArray, List.getElem?_cons_succ, List.getElem?_cons_zero]; rfl) (fun K hK => ?_) ?_
                · refine step_app (by rfl) _ _ (by rfl) wx.heap.size va3 qr.length vc3 qr (by first | rfl | simp) (by first | exact HOX.out | exact HOX.out.alloc _) (by have := HBX.out.size; first | omega | (simp; omega)) qa qr qc (by rfl) (HQC.out _ HBX.out.block) (by omega) ?_
                  intro va4 vc4 w4 ho4 hb4
                  have HBL2 : Hid (Below wx.heap.size _ w4) := Lib.hid hb4
                  have HBY : Hid (Below wx.heap.size wx w4) := Lib.hid (by first | exact HBX.out.trans hb4 | exact (HBX.out.alloc HBX.out.size _).trans hb4)
                  have HOY := Lib.hid ho4
                  obtain ⟨⟨m0, m1, m2, m3⟩, m4, m5⟩ := HF.out w4 HBY.out.block HBY.out.size
                  clear ho4 hb4
                  refine hK.out _ _ ?_ (fun hHeld => ?_)
                  · (first | exact HS0.out | exact HSB.out _ _ (by assumption) (by assumption) | exact HSA.out _ _ (by assumption) | exact HSS.out _ _ (by assumption) | go_keep)
                  clear hK K
                  (try simp only [Act.put, List.setIfInBounds_toArray, List.set_cons_zero, List.set_cons_succ])
                  refine wpAnyH_take (i := 17) (v := ?_) (by simp only [List.getElem?_toArray, List.getElem?_cons_succ, List.getElem?_cons_zero]; rfl) (by kernel_rfl) (by kernel_rfl) (by kernel_rfl) (fun _ _ _ h => h) (Or.inl ⟨by rfl, ?_⟩) (by assumption) ?_
                  rotate_left
                  · (intro w hSw; (try dsimp only at hSw); go_simp; (try with_reducible rfl))
                  (try simp only [Act.put, List.setIfInBounds_toArray, List.set_cons_zero, List.set_cons_succ])
                  refine wpAnyH_take (i := 18) (v := ?_) (by simp only [List.getElem?_toArray, List.getElem?_cons_succ, List.getElem?_cons_zero]; rfl) (by kernel_rfl) (by kernel_rfl) (by kernel_rfl) (fun _ _ _ h => h) (Or.inl ⟨by rfl, ?_⟩) (by assumption) ?_
                  rotate_left
                  · (intro w hSw; (try dsimp only at hSw); go_simp; (try with_reducible rfl))
                  (try simp only [Act.put, List.setIfInBounds_toArray, List.set_cons_zero, List.set_cons_succ])
                  refine wpAnyH_ready (rs := [19]) (by kernel_rfl) (by simp) ?_
                  refine AllReadyH.cons (by simp only [List.getElem?_toArray, List.getElem?_cons_succ, List.getElem?_cons_zero]; rfl) (fun K hK => ?_) ?_
                  · go_simp
                    refine hK.out _ _ ?_ (fun hHeld => ?_)
                    · (first | exact HS0.out | exact HSB.out _ _ (by assumption) (by assumption) | exact HSA.out _ _ (by assumption) | exact HSS.out _ _ (by assumption) | go_keep)
                    clear hK K
                    (try simp only [Act.put, List.setIfInBounds_toArray, List.set_cons_zero, List.set_cons_succ])
                    refine wpAnyH_done (by kernel_rfl) ?_ _
                    refine NoPanic.normal ?_
                    go_wp2_with fail
                    go_meet
                    case rel => exact ⟨rfl, Lib.hid ((HO.out.keep HBY.out.block).right' HQ.out (r := qr ++ qr) (by simp) (own_baseW (by simpa using HOY.out) hS) (by simp; omega) (fun z hz => by
                      rcases List.mem_append.1 hz with hz | hz
                      · exact HQS.out z hz
                      · exact HQS.out z hz)), Lib.hid ((HB2.out.trans (HBY.out.mono HB2.out.size)).setCell (p := ⟨bp, k * 2 + 1, none⟩) (by show w.heap.size ≤ bp; omega) _), Lib.hid ((Below.heap_setCell _ _ _ _ (show w.heap.size + 1 ≠ bp by omega)).trans ((HBY.out.block _ (heap_lt HR2.out)).trans HR2.out))⟩
                  exact AllReadyH.nil
                exact AllReadyH.nil
              exact AllReadyH.nil
            refine AllReadyH.cons (by simp only [List.getElem?_toArray, List.getElem?_cons_succ, List.getElem?_cons_zero]; rfl) (fun K hK => ?_) ?_
            · go_simp
              refine hK.out _ _ ?_ (fun hHeld => ?_)
              · (first | exact HS0.out | exact HSB.out _ _ (by assumption) (by assumption) | exact HSA.out _ _ (by assumption) | exact HSS.out _ _ (by assumption) | go_keep)
              clear hK K
              (try simp only [Act.put, List.setIfInBounds_toArray, List.set_cons_zero, List.set_cons_succ])
              refine wpAnyH_ready (rs := [9]) (by kernel_rfl) (by simp) ?_
              refine AllReadyH.cons (by simp only [List.getElem?_toArray, List.getElem?_cons_succ, List.getElem?_cons_zero]; rfl) (fun K hK => ?_) ?_
              · refine step_app (by rfl) _ _ (by rfl) _ none 0 0 [] (by rfl) (World.ownsRow_nil _ _ _ _) (Nat.le_refl _) qa qr qc (by rfl) (HQC.out _ (by first | exact fun _ _ => rfl | exact fun g hg => Below.heap_alloc wx.drew _ g hg)) (by omega) ?_
                simp only [Nat.zero_add, List.nil_append]
                intro va3 vc3 w3 ho3 hb3
                have HBL : Hid (Below wx.heap.size _ w3) := Lib.hid (hb3.mono (by first | exact Nat.le_refl _ | simp))
                have HBX : Hid (Below wx.heap.size wx w3) := Lib.hid (by first | exact (Below.refl _ _).drew.trans hb3 | exact ((Below.refl _ _).drew.alloc (Nat.le_refl _) _).trans (hb3.mono (by simp)))
                have HB3 := Lib.hid hb3
                have HOX : Hid (w3.ownsRow wx.heap.size 3 1 (.slice va3 qr.length vc3) qr.length (nums qr)) := Lib.hid (own_baseW ho3 (by first | exact Nat.le_refl _ | simp))
                obtain ⟨⟨g0, g1, g2, g3⟩, g4, g5⟩ := HF.out w3 HBX.out.block HBX.out.size
                clear ho3 hb3
                refine hK.out _ _ ?_ (fun hHeld => ?_)
                · (first | exact HS0.out | exact HSB.out _ _ (by assumption) (by assumption) | exact HSA.out _ _ (by assumption) | exact HSS.out _ _ (by assumption) | go_keep)
                clear hK K
                (try simp only [Act.put, List.setIfInBounds_toArray, List.set_cons_zero, List.set_cons_succ])
                refine wpAnyH_ready (rs := [16]) (by kernel_rfl) (by simp) ?_
                refine AllReadyH.cons (by simp only [List.getElem?_toArray, List.getElem?_cons_succ, List.getElem?_cons_zero]; rfl) (fun K hK => ?_) ?_
                · refine step_app (by rfl) _ _ (by rfl) wx.heap.size va3 qr.length vc3 qr (by first | rfl | simp) (by first | exact HOX.out | exact HOX.out.alloc _) (by have := HBX.out.size; first | omega | (simp; omega)) qa qr qc (by rfl) (HQC.out _ HBX.out.block) (by omega) ?_
                  intro va4 vc4 w4 ho4 hb4
                  have HBL2 : Hid (Below wx.heap.size _ w4) := Lib.hid hb4
                  have HBY : Hid (Below wx.heap.size wx w4) := Lib.hid (by first | exact HBX.out.trans hb4 | exact (HBX.out.alloc HBX.out.size _).trans hb4)
                  have HOY := Lib.hid ho4
                  obtain ⟨⟨m0, m1, m2, m3⟩, m4, m5⟩ := HF.out w4 HBY.out.block HBY.out.size
                  clear ho4 hb4
                  refine hK.out _ _ ?_ (fun hHeld => ?_)
                  · (first | exact HS0.out | exact HSB.out _ _ (by assumption) (by assumption) | exact HSA.out _ _ (by assumption) | exact HSS.out _ _ (by assumption) | go_keep)
                  clear hK K
                  (try simp only [Act.put, List.setIfInBounds_toArray, List.set_cons_zero, List.set_cons_succ])
                  refine wpAnyH_take (i := 17) (v := ?_) (by simp only [List.getElem?_toArray, List.getElem?_cons_succ, List.getElem?_cons_zero]; rfl) (by kernel_rfl) (by kernel_rfl) (by kernel_rfl) (fun _ _ _ h => h) (Or.inl ⟨by rfl, ?_⟩) (by assumption) ?_
                  rotate_left
                  · (intro w hSw; (try dsimp only at hSw); go_simp; (try with_reducible rfl))
                  (try simp only [Act.put, List.setIfInBounds_toArray, List.set_cons_zero, List.set_cons_succ])
                  refine wpAnyH_take (i := 18) (v := ?_) (by simp only [List.getElem?_toArray, List.getElem?_cons_succ, List.getElem?_cons_zero]; rfl) (by kernel_rfl) (by kernel_rfl) (by kernel_rfl) (fun _ _ _ h => h) (Or.inl ⟨by rfl, ?_⟩) (by assumption) ?_
                  rotate_left
                  · (intro w hSw; (try dsimp only at hSw); go_simp; (try with_reducible rfl))
                  (try simp only [Act.put, List.setIfInBounds_toArray, List.set_cons_zero, List.set_cons_succ])
                  refine wpAnyH_ready (rs := [19]) (by kernel_rfl) (by simp) ?_
                  refine AllReadyH.cons (by simp only [List.getElem?_toArray, List.getElem?_cons_succ, List.getElem?_cons_zero]; rfl) (fun K hK => ?_) ?_
                  · go_simp
                    refine hK.out _ _ ?_ (fun hHeld => ?_)
                    · (first | exact HS0.out | exact HSB.out _ _ (by assumption) (by assumption) | exact HSA.out _ _ (by assumption) | exact HSS.out _ _ (by assumption) | go_keep)
                    clear hK K
                    (try simp only [Act.put, List.setIfInBounds_toArray, List.set_cons_zero, List.set_cons_succ])
                    refine wpAnyH_done (by kernel_rfl) ?_ _
                    refine NoPanic.normal ?_
                    go_wp2_with fail
                    go_meet
                    case rel => exact ⟨rfl, Lib.hid ((HO.out.keep HBY.out.block).right' HQ.out (r := qr ++ qr) (by simp) (own_baseW (by simpa using HOY.out) hS) (by simp; omega) (fun z hz => by
                      rcases List.mem_append.1 hz with hz | hz
                      · exact HQS.out z hz
                      · exact HQS.out z hz)), Lib.hid ((HB2.out.trans (HBY.out.mono HB2.out.size)).setCell (p := ⟨bp, k * 2 + 1, none⟩) (by show w.heap.size ≤ bp; omega) _), Lib.hid ((Below.heap_setCell _ _ _ _ (show w.heap.size + 1 ≠ bp by omega)).trans ((HBY.out.block _ (heap_lt HR2.out)).trans HR2.out))⟩
                  exact AllReadyH.nil
                exact AllReadyH.nil
              exact AllReadyH.nil
            exact AllReadyH.nil
          refine AllReadyH.cons (by simp only [List.getElem?_toArray, List.getElem?_cons_succ, List.getElem?_cons_zero]; rfl) (fun K hK => ?_) ?_
          · go_simp
            refine hK.out _ _ ?_ (fun hHeld => ?_)
            · (first | exact HS0.out | exact HSB.out _ _ (by assumption) (by assumption) | exact HSA.out _ _ (by assumption) | exact HSS.out _ _ (by assumption) | go_keep)
            clear hK K
            (try simp only [Act.put, List.setIfInBounds_toArray, List.set_cons_zero, List.set_cons_succ])
            refine wpAnyH_ready (rs := [8]) (by kernel_rfl) (by simp) ?_
            refine AllReadyH.cons (by simp only [List.getElem?_toArray, List.getElem?_cons_succ, List.getElem?_cons_zero]; rfl) (fun K hK => ?_) ?_
            · go_simp
              refine hK.out _ _ ?_ (fun hHeld => ?_)
              · (first | exact HS0.out | exact HSB.out _ _ (by assumption) (by assumption) | exact HSA.out _ _ (by assumption) | exact HSS.out _ _ (by assumption) | go_keep)
              clear hK K
              (try simp only [Act.put, List.setIfInBounds_toArray, List.set_cons_zero, List.set_cons_succ])
              refine wpAnyH_ready (rs := [9]) (by kernel_rfl) (by simp) ?_
              refine AllReadyH.cons (by simp only [List.getElem?_toArray, List.getElem?_cons_succ, List.getElem?_cons_zero]; rfl) (fun K hK => ?_) ?_
              · refine step_app (by rfl) _ _ (by rfl) _ none 0 0 [] (by rfl) (World.ownsRow_nil _ _ _ _) (Nat.le_refl _) qa qr qc (by rfl) (HQC.out _ (by first | exact fun _ _ => rfl | exact fun g hg => Below.heap_alloc wx.drew _ g hg)) (by omega) ?_
                simp only [Nat.zero_add, List.nil_append]
                intro va3 vc3 w3 ho3 hb3
                have HBL : Hid (Below wx.heap.size _ w3) := Lib.hid (hb3.mono (by first | exact Nat.le_refl _ | simp))
                have HBX : Hid (Below wx.heap.size wx w3) := Lib.hid (by first | exact (Below.refl _ _).drew.trans hb3 | exact ((Below.refl _ _).drew.alloc (Nat.le_refl _) _).trans (hb3.mono (by simp)))
                have HB3 := Lib.hid hb3
                have HOX : Hid (w3.ownsRow wx.heap.size 3 1 (.slice va3 qr.length vc3) qr.length (nums qr)) := Lib.hid (own_baseW ho3 (by first | exact Nat.le_refl _ | simp))
                obtain ⟨⟨g0, g1, g2, g3⟩, g4, g5⟩ := HF.out w3 HBX.out.block HBX.out.size
                clear ho3 hb3
                refine hK.out _ _ ?_ (fun hHeld => ?_)
                · (first | exact HS0.out | exact HSB.out _ _ (by assumption) (by assumption) | exact HSA.out _ _ (by assumption) | exact HSS.out _ _ (by assumption) | go_keep)
                clear hK K
                (try simp only [Act.put, List.setIfInBounds_toArray, List.set_cons_zero, List.set_cons_succ])
                refine wpAnyH_ready (rs := [16]) (by kernel_rfl) (by simp) ?_
                refine AllReadyH.cons (by simp only [List.getElem?_toArray, List.getElem?_cons_succ, List.getElem?_cons_zero]; rfl) (fun K hK => ?_) ?_
                · refine step_app (by rfl) _ _ (by rfl) wx.heap.size va3 qr.length vc3 qr (by first | rfl | simp) (by first | exact HOX.out | exact HOX.out.alloc _) (by have := HBX.out.size; first | omega | (simp; omega)) qa qr qc (by rfl) (HQC.out _ HBX.out.block) (by omega) ?_
                  intro va4 vc4 w4 ho4 hb4
                  have HBL2 : Hid (Below wx.heap.size _ w4) := Lib.hid hb4
                  have HBY : Hid (Below wx.heap.size wx w4) := Lib.hid (by first | exact HBX.out.trans hb4 | exact (HBX.out.alloc HBX.out.size _).trans hb4)
                  have HOY := Lib.hid ho4
                  obtain ⟨⟨m0, m1, m2, m3⟩, m4, m5⟩ := HF.out w4 HBY.out.block HBY.out.size
                  clear ho4 hb4
                  refine hK.out _ _ ?_ (fun hHeld => ?_)
                  · (first | exact HS0.out | exact HSB.out _ _ (by assumption) (by assumption) | exact HSA.out _ _ (by assumption) | exact HSS.out _ _ (by assumption) | go_keep)
                  clear hK K
                  (try simp only [Act.put, List.setIfInBounds_toArray, List.set_cons_zero, List.set_cons_succ])
                  refine wpAnyH_take (i := 17) (v := ?_) (by simp only [List.getElem?_toArray, List.getElem?_cons_succ, List.getElem?_cons_zero]; rfl) (by kernel_rfl) (by kernel_rfl) (by kernel_rfl) (fun _ _ _ h => h) (Or.inl ⟨by rfl, ?_⟩) (by assumption) ?_
                  rotate_left
                  · (intro w hSw; (try dsimp only at hSw); go_simp; (try with_reducible rfl))
                  (try simp only [Act.put, List.setIfInBounds_toArray, List.set_cons_zero, List.set_cons_succ])
                  refine wpAnyH_take (i := 18) (v := ?_) (by simp only [List.getElem?_toArray, List.getElem?_cons_succ, List.getElem?_cons_zero]; rfl) (by kernel_rfl) (by kernel_rfl) (by kernel_rfl) (fun _ _ _ h => h) (Or.inl ⟨by rfl, ?_⟩) (by assumption) ?_
                  rotate_left
                  · (intro w hSw; (try dsimp only at hSw); go_simp; (try with_reducible rfl))
                  (try simp only [Act.put, List.setIfInBounds_toArray, List.set_cons_zero, List.set_cons_succ])
                  refine wpAnyH_ready (rs := [19]) (by kernel_rfl) (by simp) ?_
                  refine AllReadyH.cons (by simp only [List.getElem?_toArray, List.getElem?_cons_succ, List.getElem?_cons_zero]; rfl) (fun K hK => ?_) ?_
                  · go_simp
                    refine hK.out _ _ ?_ (fun hHeld => ?_)
                    · (first | exact HS0.out | exact HSB.out _ _ (by assumption) (by assumption) | exact HSA.out _ _ (by assumption) | exact HSS.out _ _ (by assumption) | go_keep)
                    clear hK K
                    (try simp only [Act.put, List.setIfInBounds_toArray, List.set_cons_zero, List.set_cons_succ])
                    refine wpAnyH_done (by kernel_rfl) ?_ _
                    refine NoPanic.normal ?_
                    go_wp2_with fail
                    go_meet
                    case rel => exact ⟨rfl, Lib.hid ((HO.out.keep HBY.out.block).right' HQ.out (r := qr ++ qr) (by simp) (own_baseW (by simpa using HOY.out) hS) (by simp; omega) (fun z hz => by
                      rcases List.mem_append.1 hz with hz | hz
                      · exact HQS.out z hz
                      · exact HQS.out z hz)), Lib.hid ((HB2.out.trans (HBY.out.mono HB2.out.size)).setCell (p := ⟨bp, k * 2 + 1, none⟩) (by show w.heap.size ≤ bp; omega) _), Lib.hid ((Below.heap_setCell _ _ _ _ (show w.heap.size + 1 ≠ bp by omega)).trans ((HBY.out.block _ (heap_lt HR2.out)).trans HR2.out))⟩
                  exact AllReadyH.nil
                exact AllReadyH.nil
              exact AllReadyH.nil
            exact AllReadyH.nil
          exact AllReadyH.nil
    case rest =>
      obtain ⟨rfl, HM, HBY, HRY⟩ := hcut
      rename World => wy
      clear HO HB2 HR2 HK2 f0 f1 f2 lB2 x1 x2 x3 x5 lX2 low
      obtain ⟨at_, an, ap, n1, n2, n3, ct4, cn4, cp4, g, hq, hg, hm⟩ := HM.out
      have v0 := (blk_cell (i := 0) (u := .slice at_ n1 ct4) hq rfl).1
      have v1 := (blk_cell (i := 1) (u := .slice an n2 cn4) hq rfl).1
      have v2 := (blk_cell (i := 2) (u := .slice ap n3 cp4) hq rfl).1
      have lq := heap_lt hq
      obtain ⟨r0, z0⟩ := blk_cell (i := 0) (u := .slice none 0 0) HRY.out rfl
      obtain ⟨r1, z1⟩ := blk_cell (i := 1) (u := .slice none 0 0) HRY.out rfl
      obtain ⟨r2, z2⟩ := blk_cell (i := 2) (u := .slice none 0 0) HRY.out rfl
      have lr := heap_lt HRY.out
      have HG := Lib.hid hg
      have HMM := Lib.hid hm
      clear hq hg hm HM
      go_wp2
      (try simp only [Exit.inBlock, Exit.then])
      refine bodyPost_ret (v := .agg #[.slice at_ n1 ct4, .slice an n2 cn4, .slice ap n3 cp4]) ?_ rfl ⟨?_, at_, an, ap, n1, n2, n3, ct4, cn4, cp4, g, rfl, ?_, HMM.out⟩
      · rw [results_cell1 (p := 2) (ty := 25) rfl]
        show ((asAddr (.pointer (some ⟨w.heap.size + 1, 0, none⟩))).run _ _).andThen _ = _
        show (loadVar 25 ⟨w.heap.size + 1, 0, none⟩).run _ _ = _
        exact run_loadVar_row _ (w.heap.size + 1) 25 25 _ (0, 0) _ (store3 HRY.out _ _ _) Try.underlying25 rfl (by kernel_rfl)
      · exact store3_below HBY.out (by omega) _ _ _
      · exact HG.out _ fun k h1 h2 => store3_far _ _ _ k (by omega)

end Go.Proofs.Ytgfkkbpnphbdgaa

set_option linter.unusedVariables false
namespace Go.Proofs.Ytgfkkbpnphbdgaa
open Go.RowKit
open Doc

set_option maxRecDepth 100000 in
set_option maxHeartbeats 8000000 in
theorem grammar_4 (x : RawX) (w : World) (hx : RawAt w x) (hw : RawWide x) (hsel : 37 ≤ x.how % 40 ∧ x.how % 40 < 40) :
    Calls Try.prog 18 #[x.v] w fun e w' => Below w.heap.size w w' ∧ ∃ (at_ an ap : Option Addr) (n1 n2 n3 ct cn cp : Nat) (g : Gr), e = .returned (.agg #[.slice at_ n1 ct, .slice an n2 cn, .slice ap n3 cp]) ∧ GramAtC w' (.agg #[.slice at_ n1 ct, .slice an n2 cn, .slice ap n3 cp]) g ∧ MidG g := by
  have HCK : Hid (CheckG x.any) := Lib.hid (anyF_check x.terms x.nons x.plain)
  have HANY := Lib.hid fun W (hW : Below w.heap.size w W) => any_any x W (hx.below hW)
  obtain ⟨xp, xt, xn, xh, rows, xa, xc, word⟩ := x
  unfold RawX.v at HANY ⊢
  simp only at HANY ⊢
  obtain ⟨_, hw1, hw2, _, hw3⟩ := hw
  simp only at hw1 hw2 hw3
  obtain ⟨d, hd, hdl⟩ : ∃ d : Nat, xp % 5 = d ∧ d < 5 := ⟨(xp % 5).toNat, by omega, by omega⟩
  obtain ⟨hh, hhd, hhl⟩ : ∃ d : Nat, xh % 40 = d ∧ d < 40 := ⟨(xh % 40).toNat, by omega, by omega⟩
  have HWP := Lib.hid fun W => (within_any xp 5 (by omega) (by omega) W).mono fun e w' ⟨he, hw⟩ => (⟨he.trans (by rw [hd]), hw⟩ : e = Ending.returned (.int .i64 d) ∧ w' = W)
  have HWH := Lib.hid fun W => (within_any xh 40 (by omega) (by omega) W).mono fun e w' ⟨he, hw⟩ => (⟨he.trans (by rw [hhd]), hw⟩ : e = Ending.returned (.int .i64 hh) ∧ w' = W)
  have HGOOD := Lib.hid fun W => good_any xt W
  have HBAD := Lib.hid fun W => bad_any xt W
  have H3 := Lib.hid (three w (.cells #[.int .i64 xp, .int .i64 xt, .int .i64 xn, .int .i64 xh, .slice xa rows.length xc, .string word] 46) (.cells #[.slice none 0 0, .slice none 0 0, .slice none 0 0] 25) (.cells #[.slice none 0 0, .slice none 0 0, .slice none 0 0] 25))
  simp only at hsel
  have hsl : 37 ≤ hh ∧ hh < 40 := by omega
  clear hd hhd hx hsel
  obtain ⟨i0, hi0, hz0, hz1, hz2⟩ := info_of infoS
  obtain ⟨i1, hi1, hy0, hy1, hy2⟩ := info_of infoP
  obtain ⟨i2, hi2, ht0, ht1, ht2⟩ := info_of infoI
  have hmax : maxI = 9223372036854775807 := rfl
  go_enter Try.func18, Try.ntmps18
  go_upto_region 3 with fail
  obtain ⟨hb0, hsz, qX, qR, qB⟩ := H3.out
  clear H3
  generalize ((w.alloc (.cells #[.int .i64 xp, .int .i64 xt, .int .i64 xn, .int .i64 xh, .slice xa rows.length xc, .string word] 46)).alloc (.cells #[.slice none 0 0, .slice none 0 0, .slice none 0 0] 25)).alloc (.cells #[.slice none 0 0, .slice none 0 0, .slice none 0 0] 25) = S at *
  have lX := heap_lt qX
  have lR := heap_lt qR
  have lB := heap_lt qB
  have HX : Hid (∀ W, Below S.heap.size S W → (W.cell? ⟨w.heap.size, 0, none⟩ = some (.int .i64 xp) ∧ W.cell? ⟨w.heap.size, 1, none⟩ = some (.int .i64 xt) ∧ W.cell? ⟨w.heap.size, 2, none⟩ = some (.int .i64 xn) ∧ W.cell? ⟨w.heap.size, 3, none⟩ = some (.int .i64 xh) ∧ W.cell? ⟨w.heap.size, 4, none⟩ = some (.slice xa rows.length xc) ∧ W.cell? ⟨w.heap.size, 5, none⟩ = some (.string word)) ∧ w.heap.size < W.heap.size) := Lib.hid fun W hW =>
    have h := (hW.block w.heap.size lX).trans qX
    ⟨⟨(blk_cell (i := 0) (u := .int .i64 xp) h rfl).1, (blk_cell (i := 1) (u := .int .i64 xt) h rfl).1, (blk_cell (i := 2) (u := .int .i64 xn) h rfl).1, (blk_cell (i := 3) (u := .int .i64 xh) h rfl).1, (blk_cell (i := 4) (u := .slice xa rows.length xc) h rfl).1, (blk_cell (i := 5) (u := .string word) h rfl).1⟩, heap_lt h⟩
  obtain ⟨⟨c0, c1, c2, c3, c4, c5⟩, c6⟩ := HX.out S (Below.refl _ _)
  have HQR := Lib.hid qR
  have HQB := Lib.hid qB
  have HB0 := Lib.hid hb0
  have HSZ := Lib.hid hsz
  have HQX := Lib.hid qX
  clear qX qR qB hb0
  have HLB := Lib.hid lB
  go_upto_block 0 with (go_at_call 11; refine (HWP.out _).mono ?_; rintro e w1 ⟨rfl, hw1⟩; rw [hw1]; clear hw1)
  clear HWP
  go_cut [4] from 11 to 23 (fun p wx => p = .pointer (some ⟨w.heap.size + 1 + 1, 0, none⟩) ∧ ∃ (bt bn bp ct cn cp : Nat) (ts ns : List (List UInt8)) (ls : List Lay), Hid (OwnG S.heap.size (w.heap.size + 1 + 1) wx bt bn bp ct cn cp ts ns ls) ∧ Hid (Below w.heap.size w wx) ∧ Hid (∀ k, k < S.heap.size → k ≠ w.heap.size + 1 + 1 → wx.heap[k]? = S.heap[k]?))
  case first =>
    rcases (show d = 0 ∨ d = 1 ∨ d = 2 ∨ d = 3 ∨ d = 4 by omega) with rfl | rfl | rfl | rfl | rfl
    · go_wp2_with (go_at_call 17; refine (HGOOD.out S).mono ?_; rintro e w2 ⟨hb2, ts, ns, ls, at_, an, ap, ct, cn, cp, rfl, hr, hp⟩; obtain ⟨bt, bn, bp, rfl, rfl, rfl, ho⟩ := own_of hr (parse_check hp) ((hb2.block _ HLB.out).trans HQB.out) HLB.out; have q0 := (hb2.block _ HLB.out).trans HQB.out; obtain ⟨v0, z0⟩ := blk_cell (i := 0) (u := .slice none 0 0) q0 rfl; obtain ⟨v1, z1⟩ := blk_cell (i := 1) (u := .slice none 0 0) q0 rfl; obtain ⟨v2, z2⟩ := blk_cell (i := 2) (u := .slice none 0 0) q0 rfl; have l2 := heap_lt q0; have HO := Lib.hid ho; have HB2 := Lib.hid hb2; clear ho hr hp q0 hb2)
      go_meet
      case rel => exact ⟨rfl, bt, bn, bp, ct, cn, cp, ts, ns, ls, HO, Lib.hid (store3_below (HB0.out.trans (HB2.out.mono HB0.out.size)) (by omega) _ _ _), Lib.hid fun k h1 h2 => (store3_far _ _ _ k h2).trans (HB2.out.block k h1)⟩
    · go_wp2_with (go_at_call 17; refine (HGOOD.out S).mono ?_; rintro e w2 ⟨hb2, ts, ns, ls, at_, an, ap, ct, cn, cp, rfl, hr, hp⟩; obtain ⟨bt, bn, bp, rfl, rfl, rfl, ho⟩ := own_of hr (parse_check hp) ((hb2.block _ HLB.out).trans HQB.out) HLB.out; have q0 := (hb2.block _ HLB.out).trans HQB.out; obtain ⟨v0, z0⟩ := blk_cell (i := 0) (u := .slice none 0 0) q0 rfl; obtain ⟨v1, z1⟩ := blk_cell (i := 1) (u := .slice none 0 0) q0 rfl; obtain ⟨v2, z2⟩ := blk_cell (i := 2) (u := .slice none 0 0) q0 rfl; have l2 := heap_lt q0; have HO := Lib.hid ho; have HB2 := Lib.hid hb2; clear ho hr hp q0 hb2)
      go_meet
      case rel => exact ⟨rfl, bt, bn, bp, ct, cn, cp, ts, ns, ls, HO, Lib.hid (store3_below (HB0.out.trans (HB2.out.mono HB0.out.size)) (by omega) _ _ _), Lib.hid fun k h1 h2 => (store3_far _ _ _ k h2).trans (HB2.out.block k h1)⟩
    · go_wp2_with (go_at_call 10; refine (HBAD.out S).mono ?_; rintro e w2 ⟨hb2, ts, ns, ls, at_, an, ap, ct, cn, cp, rfl, hr, hp⟩; obtain ⟨bt, bn, bp, rfl, rfl, rfl, ho⟩ := own_of hr (parse_check hp) ((hb2.block _ HLB.out).trans HQB.out) HLB.out; have q0 := (hb2.block _ HLB.out).trans HQB.out; obtain ⟨v0, z0⟩ := blk_cell (i := 0) (u := .slice none 0 0) q0 rfl; obtain ⟨v1, z1⟩ := blk_cell (i := 1) (u := .slice none 0 0) q0 rfl; obtain ⟨v2, z2⟩ := blk_cell (i := 2) (u := .slice none 0 0) q0 rfl; have l2 := heap_lt q0; have HO := Lib.hid ho; have HB2 := Lib.hid hb2; clear ho hr hp q0 hb2)
      go_meet
      case rel => exact ⟨rfl, bt, bn, bp, ct, cn, cp, ts, ns, ls, HO, Lib.hid (store3_below (HB0.out.trans (HB2.out.mono HB0.out.size)) (by omega) _ _ _), Lib.hid fun k h1 h2 => (store3_far _ _ _ k h2).trans (HB2.out.block k h1)⟩
    · go_wp2_with (go_at_call 22; refine (HANY.out _ HB0.out).mono ?_; rintro e w2 ⟨hb2, F, ts, ns, ls, at_, an, ap, ct, cn, cp, rfl, hF, hr, hg, _⟩; obtain ⟨bt, bn, bp, rfl, rfl, rfl, ho⟩ := own_of (hr.base hF) (by rw [hg]; exact HCK.out) ((hb2.block _ HLB.out).trans HQB.out) HLB.out; have q0 := (hb2.block _ HLB.out).trans HQB.out; obtain ⟨v0, z0⟩ := blk_cell (i := 0) (u := .slice none 0 0) q0 rfl; obtain ⟨v1, z1⟩ := blk_cell (i := 1) (u := .slice none 0 0) q0 rfl; obtain ⟨v2, z2⟩ := blk_cell (i := 2) (u := .slice none 0 0) q0 rfl; have l2 := heap_lt q0; have HO := Lib.hid ho; have HB2 := Lib.hid hb2; clear ho hr hg q0 hb2 hF)
      go_meet
      case rel => exact ⟨rfl, bt, bn, bp, ct, cn, cp, ts, ns, ls, HO, Lib.hid (store3_below (HB0.out.trans (HB2.out.mono HB0.out.size)) (by omega) _ _ _), Lib.hid fun k h1 h2 => (store3_far _ _ _ k h2).trans (HB2.out.block k h1)⟩
    · go_wp2_with (go_at_call 22; refine (HANY.out _ HB0.out).mono ?_; rintro e w2 ⟨hb2, F, ts, ns, ls, at_, an, ap, ct, cn, cp, rfl, hF, hr, hg, _⟩; obtain ⟨bt, bn, bp, rfl, rfl, rfl, ho⟩ := own_of (hr.base hF) (by rw [hg]; exact HCK.out) ((hb2.block _ HLB.out).trans HQB.out) HLB.out; have q0 := (hb2.block _ HLB.out).trans HQB.out; obtain ⟨v0, z0⟩ := blk_cell (i := 0) (u := .slice none 0 0) q0 rfl; obtain ⟨v1, z1⟩ := blk_cell (i := 1) (u := .slice none 0 0) q0 rfl; obtain ⟨v2, z2⟩ := blk_cell (i := 2) (u := .slice none 0 0) q0 rfl; have l2 := heap_lt q0; have HO := Lib.hid ho; have HB2 := Lib.hid hb2; clear ho hr hg q0 hb2 hF)
      go_meet
      case rel => exact ⟨rfl, bt, bn, bp, ct, cn, cp, ts, ns, ls, HO, Lib.hid (store3_below (HB0.out.trans (HB2.out.mono HB0.out.size)) (by omega) _ _ _), Lib.hid fun k h1 h2 => (store3_far _ _ _ k h2).trans (HB2.out.block k h1)⟩
  case rest =>
    obtain ⟨rfl, bt, bn, bp, ct, cn, cp, ts, ns, ls, HO, HB2, HK2⟩ := hcut
    rename World => wx
    clear HGOOD HBAD HANY HCK HX c0 c1 c2 c3 c4 c5 c6
    have hsz2 := HSZ.out
    have low := HO.out.low
    have l1 := HO.out.l1
    obtain ⟨k, hk, hkl⟩ : ∃ k : Nat, xn % (ls.length : Int) = k ∧ k < ls.length := ⟨(xn % (ls.length : Int)).toNat, by have := Int.emod_nonneg xn (show (ls.length : Int) ≠ 0 by omega); omega, by have := Int.emod_nonneg xn (show (ls.length : Int) ≠ 0 by omega); have := Int.emod_lt_of_pos xn (show (0 : Int) < ls.length by omega); omega⟩
    have HWK := Lib.hid fun W => (within_any xn ls.length (by omega) (by omega) W).mono fun e w' ⟨he, hw⟩ => (⟨he.trans (by rw [hk]), hw⟩ : e = Ending.returned (.int .i64 k) ∧ w' = W)
    clear hk
    have f0 := (blk_cell (i := 0) (u := .slice (some ⟨bt, 0, none⟩) ts.length ct) HO.out.q rfl)
    have f1 := (blk_cell (i := 1) (u := .slice (some ⟨bn, 0, none⟩) ns.length cn) HO.out.q rfl)
    have f2 := (blk_cell (i := 2) (u := .slice (some ⟨bp, 0, none⟩) ls.length cp) HO.out.q rfl)
    have lB2 := heap_lt HO.out.q
    have qX2 := (HK2.out w.heap.size lX (by omega)).trans HQX.out
    have HR2 := Lib.hid ((HK2.out (w.heap.size + 1) lR (by omega)).trans HQR.out)
    have x1 := (blk_cell (i := 1) (u := .int .i64 xt) qX2 rfl).1
    have x2 := (blk_cell (i := 2) (u := .int .i64 xn) qX2 rfl).1
    have x3 := (blk_cell (i := 3) (u := .int .i64 xh) qX2 rfl).1
    have x5 := (blk_cell (i := 5) (u := .string word) qX2 rfl).1
    have lX2 := heap_lt qX2
    have qX2 := Lib.hid qX2
    have hpos : ((ls.length : Int) == 0) = false := by rw [beq_eq_false_iff_ne]; omega
    have hpos2 : (0 : Int) < ls.length := by omega
    go_upto_block 1 with (go_at_call 11; first
      | (with_reducible refine (HWK.out _).mono ?_; rintro e w1 ⟨rfl, hw1⟩; rw [hw1]; clear hw1)
      | (with_reducible refine (HWH.out _).mono ?_; rintro e w1 ⟨rfl, hw1⟩; rw [hw1]; clear hw1))
    clear HWK HWH
    go_cut [4] from 39 to 185 (fun p wy => p = .pointer (some ⟨w.heap.size + 1 + 1, 0, none⟩) ∧ Hid (HasM S.heap.size (w.heap.size + 1 + 1) wy) ∧ Hid (Below w.heap.size w wy) ∧ Hid (wy.heap[w.heap.size + 1]? = some (.cells #[.slice none 0 0, .slice none 0 0, .slice none 0 0] 25)))
    case first =>
      by_cases h28 : hh < 28
      · omega
      · have hb28 : ¬ (hh : Int) < 28 := by omega
        rcases (show hh = 37 ∨ hh = 38 ∨ hh = 39 by omega) with rfl | rfl | rfl
        · have hk1 := (own_cells HO.out.t).2
          have hneB := HO.out.neB
          have HCT := Lib.hid (own_news HO.out.t)
          have hk2 := HO.out.k1
          go_wp2_with (at_builtin; refine wpList_append_lies _ rfl (.tmp 165) (.tmp 167) 22 rfl S.heap.size 9 i0 (.string ⟨#[]⟩) 1 16 Try.underlying22 hi0 hz0 hz1 hz2 rfl (by decide) _ ts.length (strs ts) rfl HO.out.t ⟨bt, 0, none⟩ ts.length ct (strs ts) rfl (by simp [strs]) HCT.out strs_one (by omega) (by unfold maxLen; omega) (by omega) (by omega) _ rfl ?_; intro gg cap4 w4 hown4 hgrow4' hat4 hlt4; have hgrow4 : wx.grownBy w4 (some bt) := hgrow4'; clear hgrow4'; obtain ⟨r1, r2⟩ := blk_cell (w := w4) (i := 0) (u := .slice (some ⟨bt, 0, none⟩) ts.length ct) ((hgrow4.block _ (heap_lt HO.out.q) (fun e => hneB.1 (by cases e; rfl))).trans HO.out.q) (by rfl); have lw4 := hgrow4.size)
          go_meet
          case rel => exact ⟨rfl, Lib.hid (HO.out.newT (ts' := ts ++ ts) (by simp) (by rw [show strs (ts ++ ts) = strs ts ++ strs ts by simp [strs]]; exact hown4) hgrow4 ⟨by simp; omega, fun x hx => by
            rcases List.mem_append.1 hx with hx | hx
            · exact HO.out.m.t.2 x hx
            · exact HO.out.m.t.2 x hx⟩), Lib.hid ((HB2.out.grown hgrow4 HB2.out.size (fun x hx => by have : bt = x := Option.some.inj hx; omega)).setCell (p := ⟨w.heap.size + 1 + 1, 0, none⟩) (by show w.heap.size ≤ w.heap.size + 1 + 1; omega) _), Lib.hid ((Below.heap_setCell _ _ _ _ (show w.heap.size + 1 ≠ w.heap.size + 1 + 1 by omega)).trans ((hgrow4.block _ (heap_lt HR2.out) (fun e => by have : w.heap.size + 1 = bt := Option.some.inj e; omega)).trans HR2.out))⟩
        · obtain ⟨q, hq, hu, hv⟩ := HO.out.cellL k hkl
          have hkl2 : (k : Int) < ls.length := by omega
          have hqm := List.mem_of_getElem? hq
          have hqr : q.right.length ≤ 6 := (HO.out.m.p.2 _ (List.mem_map.2 ⟨q, hqm, rfl⟩)).2.1
          have HQS := Lib.hid (HO.out.m.p.2 _ (List.mem_map.2 ⟨q, hqm, rfl⟩)).2.2
          have hqo := HO.out.r q hqm
          have HQ := Lib.hid hq
          have hz := World.ownsRow.frozenAt HO.out.p (k * 2 + 1)
          have HF : Hid (∀ W : World, (∀ g, g < wx.heap.size → W.heap[g]? = wx.heap[g]?) → wx.heap.size ≤ W.heap.size → (W.cell? ⟨w.heap.size + 1 + 1, 2, none⟩ = some (.slice (some ⟨bp, 0, none⟩) ls.length cp) ∧ W.cell? ⟨w.heap.size, 1, none⟩ = some (.int .i64 xt) ∧ W.cell? ⟨bp, k * 2 + 1, none⟩ = some (.slice q.addr q.right.length q.cap) ∧ W.frozen? ⟨bp, k * 2 + 1, none⟩ = false) ∧ (w.heap.size + 1 + 1 < W.heap.size ∧ bp < W.heap.size)) := Lib.hid fun W hW hs =>
            have ho := HO.out.keep hW
            ⟨⟨(blk_cell (i := 2) (u := .slice (some ⟨bp, 0, none⟩) ls.length cp) ho.q rfl).1, (blk_cell (i := 1) (u := .int .i64 xt) ((hW _ lX2).trans qX2.out) rfl).1, by
              obtain ⟨q', hq', _, hv'⟩ := ho.cellL k hkl
              rw [hq] at hq'; cases hq'; exact hv', World.ownsRow.frozenAt ho.p (k * 2 + 1)⟩, by omega, by omega⟩
          obtain ⟨ql, qr, qa, qc⟩ := q
          simp only at hu hv hqr HQS hqo HF HQ
          clear hq hqm
          by_cases hqe : qr = []
          · subst hqe
            simp only [List.length_nil] at hv HF hqr
            have hS : S.heap.size ≤ wx.heap.size := by omega
            obtain ⟨⟨n0, n1, n2, n3⟩, n4, n5⟩ := HF.out (wx.drew.alloc (.cells #[.int .i64 0] 3)) (fun g hg => Below.heap_alloc wx.drew _ g hg) (by simp)
            clear hqo
            go_upto_region 36 with fail
            cases qa
            all_goals
              go_region
              all_goals
                go_wp2_with fail
                go_meet
                case rel => exact ⟨rfl, Lib.hid (HO.out.right_new HQ.out 0 (by rw [hmax]; decide) hS), Lib.hid ((HB2.out.setCell (p := ⟨bp, k * 2 + 1, none⟩) (by show w.heap.size ≤ bp; omega) _).alloc (by simp; exact HB2.out.size) _).drew, Lib.hid ((Below.heap_alloc _ _ _ (by simp; exact heap_lt HR2.out)).trans ((Below.heap_setCell _ _ _ _ (show w.heap.size + 1 ≠ bp by omega)).trans HR2.out))⟩
          · have hl1 : 1 ≤ qr.length := List.length_pos_iff.2 hqe
            obtain ⟨qb, c1, hv1, _, _⟩ := hqo.form (by omega)
            simp only [Value.slice.injEq] at hv1
            obtain ⟨rfl, _, rfl⟩ := hv1
            have HQN := Lib.hid fun (W : World) (hW : ∀ g, g < wx.heap.size → W.heap[g]? = wx.heap[g]?) => own_news (own_same hqo fun g _ hl => hW g hl)
            have hS : S.heap.size ≤ wx.heap.size := by omega
            have HON := Lib.hid (own_new0 wx.drew S.heap.size hS 0)
            obtain ⟨⟨n0, n1, n2, n3⟩, n4, n5⟩ := HF.out (wx.drew.alloc (.cells #[.int .i64 0] 3)) (fun g hg => Below.heap_alloc wx.drew _ g hg) (by simp)
            clear hqo hqe
            go_upto_region 36 with fail
            go_region_law (first
              | (refine step_append_lies _ (by rfl) _ _ _ (by rfl) S.heap.size 3 i2 _ 1 8 Try.underlying30 hi2 ht0 ht1 ht2 rfl (by omega) (.slice (some ⟨wx.heap.size, 0, none⟩) 1 1) 1 [.int .i64 0] (by rfl) HON.out ⟨qb, 0, none⟩ qr.length qc (nums qr) (by rfl) (by simp [nums]) (HQN.out _ (fun g hg => Below.heap_alloc wx.drew _ g hg)) nums_one (by omega) (by unfold maxLen; omega) (by omega) (by simp; omega) (wx.heap.size + 1) (by simp) ?_
                 intro gy cy w4 hown4 hgrow4' hat4 hlt4
                 have hgrow4 : (wx.drew.alloc (.cells #[.int .i64 0] 3)).grownBy w4 (some wx.heap.size) := hgrow4'
                 clear hgrow4'
                 have HK2 : Hid (∀ g, g < wx.heap.size → w4.heap[g]? = wx.heap[g]?) := Lib.hid (fun g hg => (hgrow4.block g (by simp; omega) (fun e => by have : g = wx.heap.size := Option.some.inj e; omega)).trans (Below.heap_alloc wx.drew _ g hg))
                 have HKZ2 : Hid (wx.heap.size ≤ w4.heap.size) := Lib.hid (Nat.le_trans (by simp) hgrow4.size)
                 obtain ⟨⟨m0, m1, m2, m3⟩, m4, m5⟩ := HF.out w4 HK2.out HKZ2.out))
            all_goals
              go_wp2_with fail
              go_meet
              case rel => exact ⟨rfl, Lib.hid ((HO.out.keep HK2.out).right' HQ.out (r := 0 :: qr) (by simp; omega) (by simpa [nums] using hown4) (by simp; omega) (fun z hz => by
                rcases List.mem_cons.1 hz with rfl | hz
                · rw [hmax]; decide
                · exact HQS.out z hz)), Lib.hid (((HB2.out.drew.alloc HB2.out.size (.cells #[.int .i64 0] 3)).grown hgrow4 (by have := HB2.out.size; simp; omega) (fun x hx => by have : wx.heap.size = x := Option.some.inj hx; have := HB2.out.size; omega)).setCell (p := ⟨bp, k * 2 + 1, none⟩) (by show w.heap.size ≤ bp; omega) _), Lib.hid ((Below.heap_setCell _ _ _ _ (show w.heap.size + 1 ≠ bp by omega)).trans ((HK2.out _ (heap_lt HR2.out)).trans HR2.out))⟩
        · go_wp2_with fail
          go_meet
          case rel => exact ⟨rfl, Lib.hid HO.out.same, HB2, HR2⟩
    case rest =>
      obtain ⟨rfl, HM, HBY, HRY⟩ := hcut
      rename World => wy
      clear HO HB2 HR2 HK2 f0 f1 f2 lB2 x1 x2 x3 x5 lX2 low
      obtain ⟨at_, an, ap, n1, n2, n3, ct4, cn4, cp4, g, hq, hg, hm⟩ := HM.out
      have v0 := (blk_cell (i := 0) (u := .slice at_ n1 ct4) hq rfl).1
      have v1 := (blk_cell (i := 1) (u := .slice an n2 cn4) hq rfl).1
      have v2 := (blk_cell (i := 2) (u := .slice ap n3 cp4) hq rfl).1
      have lq := heap_lt hq
      obtain ⟨r0, z0⟩ := blk_cell (i := 0) (u := .slice none 0 0) HRY.out rfl
      obtain ⟨r1, z1⟩ := blk_cell (i := 1) (u := .slice none 0 0) HRY.out rfl
      obtain ⟨r2, z2⟩ := blk_cell (i := 2) (u := .slice none 0 0) HRY.out rfl
      have lr := heap_lt HRY.out
      have HG := Lib.hid hg
      have HMM := Lib.hid hm
      clear hq hg hm HM
      go_wp2
      (try simp only [Exit.inBlock, Exit.then])
      refine bodyPost_ret (v := .agg #[.slice at_ n1 ct4, .slice an n2 cn4, .slice ap n3 cp4]) ?_ rfl ⟨?_, at_, an, ap, n1, n2, n3, ct4, cn4, cp4, g, rfl, ?_, HMM.out⟩
      · rw [results_cell1 (p := 2) (ty := 25) rfl]
        show ((asAddr (.pointer (some ⟨w.heap.size + 1, 0, none⟩))).run _ _).andThen _ = _
        show (loadVar 25 ⟨w.heap.size + 1, 0, none⟩).run _ _ = _
        exact run_loadVar_row _ (w.heap.size + 1) 25 25 _ (0, 0) _ (store3 HRY.out _ _ _) Try.underlying25 rfl (by kernel_rfl)
      · exact store3_below HBY.out (by omega) _ _ _
      · exact HG.out _ fun k h1 h2 => store3_far _ _ _ k (by omega)

end Go.Proofs.Ytgfkkbpnphbdgaa

set_option linter.unusedVariables false
namespace Go.Proofs.Ytgfkkbpnphbdgaa
open Go.RowKit
open Doc

theorem grammar_anyC (x : RawX) (w : World) (hx : RawAt w x) (hw : RawWide x) :
    Calls Try.prog 18 #[x.v] w fun e w' => Below w.heap.size w w' ∧ ∃ (at_ an ap : Option Addr) (n1 n2 n3 ct cn cp : Nat) (g : Gr), e = .returned (.agg #[.slice at_ n1 ct, .slice an n2 cn, .slice ap n3 cp]) ∧ GramAtC w' (.agg #[.slice at_ n1 ct, .slice an n2 cn, .slice ap n3 cp]) g ∧ MidG g := by
  by_cases h1 : x.how % 40 < 32
  · exact grammar_1 x w hx hw ⟨by omega, h1⟩
  by_cases h2 : x.how % 40 < 34
  · exact grammar_2 x w hx hw ⟨by omega, h2⟩
  by_cases h3 : x.how % 40 < 37
  · exact grammar_3 x w hx hw ⟨by omega, h3⟩
  · exact grammar_4 x w hx hw ⟨by omega, by omega⟩
end Go.Proofs.Ytgfkkbpnphbdgaa
