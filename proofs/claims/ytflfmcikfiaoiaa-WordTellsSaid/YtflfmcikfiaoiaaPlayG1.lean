/- exegeteplay.Grammar: walked, cases 0 to 31. -/
import Derived.Test.YtflfmcikfiaoiaaPlayGH
import Derived.Deep.RegionHeld3
import Derived.Deep.Cut
import Derived.Deep.CutBlock
set_option linter.unusedVariables false
namespace Go.Proofs.Ytflfmcikfiaoiaa
open Go.RowKit
open Doc

set_option maxRecDepth 100000 in
set_option maxHeartbeats 8000000 in
theorem grammar_1 (x : RawX) (w : World) (hx : RawAt w x) (hw : RawWide x) (hsel : 0 ≤ x.how % 40 ∧ x.how % 40 < 32) :
    Calls Try.prog 18 #[x.v] w fun e w' => Below w.heap.size w w' ∧ ∃ (at_ an ap : Option Addr) (n1 n2 n3 ct cn cp : Nat) (g : Gr), e = .returned (.agg #[.slice at_ n1 ct, .slice an n2 cn, .slice ap n3 cp]) ∧ GramAt w' (.agg #[.slice at_ n1 ct, .slice an n2 cn, .slice ap n3 cp]) g ∧ MidG g := by
  have HCK : Hid (CheckG x.any) := Lib.hid (anyF_check x.terms x.nons x.plain)
  have HANY := Lib.hid fun W (hW : Below w.heap.size w W) => any_any x W (hx.below hW)
  obtain ⟨xp, xt, xn, xh, rows, xa, xc, word⟩ := x
  unfold RawX.v at HANY ⊢
  simp only at HANY ⊢
  obtain ⟨_, hw1, hw2, _, hw3⟩ := hw
  simp only at hw1 hw2 hw3
  obtain ⟨d, hd, hdl⟩ : ∃ d : Nat, xp % 5 = d ∧ d < 5 := ⟨(xp % 5).toNat, by omega, by omega⟩
  obtain ⟨hh, hhd, hhl⟩ : ∃ d : Nat, xh % 40 = d ∧ d < 40 := ⟨(xh % 40).toNat, by omega, by omega⟩
  have HWP := Lib.hid fun W => (within_any xp 5 (by omega) (by omega) W).mono fun e w' ⟨he, hw⟩ => (⟨he.trans (by rw [hd]), hw⟩ : e = Ending.returned (.int .i64 d) ∧ w' = W)
  have HWH := Lib.hid fun W => (within_any xh 40 (by omega) (by omega) W).mono fun e w' ⟨he, hw⟩ => (⟨he.trans (by rw [hhd]), hw⟩ : e = Ending.returned (.int .i64 hh) ∧ w' = W)
  have HGOOD := Lib.hid fun W => good_any xt W
  have HBAD := Lib.hid fun W => bad_any xt W
  have H3 := Lib.hid (three w (.cells #[.int .i64 xp, .int .i64 xt, .int .i64 xn, .int .i64 xh, .slice xa rows.length xc, .string word] 24) (.cells #[.slice none 0 0, .slice none 0 0, .slice none 0 0] 28) (.cells #[.slice none 0 0, .slice none 0 0, .slice none 0 0] 28))
  simp only at hsel
  have hsl : 0 ≤ hh ∧ hh < 32 := by omega
  clear hd hhd hx hsel
  obtain ⟨i0, hi0, hz0, hz1, hz2⟩ := info_of infoS
  obtain ⟨i1, hi1, hy0, hy1, hy2⟩ := info_of infoP
  obtain ⟨i2, hi2, ht0, ht1, ht2⟩ := info_of infoI
  have hmax : maxI = 9223372036854775807 := rfl
  go_enter Try.func18, Try.ntmps18
  go_upto_region 3 with fail
  obtain ⟨hb0, hsz, qX, qR, qB⟩ := H3.out
  clear H3
  generalize ((w.alloc (.cells #[.int .i64 xp, .int .i64 xt, .int .i64 xn, .int .i64 xh, .slice xa rows.length xc, .string word] 24)).alloc (.cells #[.slice none 0 0, .slice none 0 0, .slice none 0 0] 28)).alloc (.cells #[.slice none 0 0, .slice none 0 0, .slice none 0 0] 28) = S at *
  have lX := heap_lt qX
  have lR := heap_lt qR
  have lB := heap_lt qB
  have HX : Hid (∀ W, Below S.heap.size S W → (W.cell? ⟨w.heap.size, 0, none⟩ = some (.int .i64 xp) ∧ W.cell? ⟨w.heap.size, 1, none⟩ = some (.int .i64 xt) ∧ W.cell? ⟨w.heap.size, 2, none⟩ = some (.int .i64 xn) ∧ W.cell? ⟨w.heap.size, 3, none⟩ = some (.int .i64 xh) ∧ W.cell? ⟨w.heap.size, 4, none⟩ = some (.slice xa rows.length xc) ∧ W.cell? ⟨w.heap.size, 5, none⟩ = some (.string word)) ∧ w.heap.size < W.heap.size) := Lib.hid fun W hW =>
    have h := (hW.block w.heap.size lX).trans qX
    ⟨⟨(blk_cell (i := 0) (u := .int .i64 xp) h rfl).1, (blk_cell (i := 1) (u := .int .i64 xt) h rfl).1, (blk_cell (i := 2) (u := .int .i64 xn) h rfl).1, (blk_cell (i := 3) (u := .int .i64 xh) h rfl).1, (blk_cell (i := 4) (u := .slice xa rows.length xc) h rfl).1, (blk_cell (i := 5) (u := .string word) h rfl).1⟩, heap_lt h⟩
  obtain ⟨⟨c0, c1, c2, c3, c4, c5⟩, c6⟩ := HX.out S (Below.refl _ _)
  have HQR := Lib.hid qR
  have HQB := Lib.hid qB
  have HB0 := Lib.hid hb0
  have HSZ := Lib.hid hsz
  have HQX := Lib.hid qX
  clear qX qR qB hb0
  have HLB := Lib.hid lB
  go_upto_block 0 with (go_at_call 27; refine (HWP.out _).mono ?_; rintro e w1 ⟨rfl, hw1⟩; rw [hw1]; clear hw1)
  clear HWP
  go_cut [4] from 11 to 23 (fun p wx => p = .pointer (some ⟨w.heap.size + 1 + 1, 0, none⟩) ∧ ∃ (bt bn bp ct cn cp : Nat) (ts ns : List (List UInt8)) (ls : List Lay), Hid (OwnG S.heap.size (w.heap.size + 1 + 1) wx bt bn bp ct cn cp ts ns ls) ∧ Hid (Below w.heap.size w wx) ∧ Hid (∀ k, k < S.heap.size → k ≠ w.heap.size + 1 + 1 → wx.heap[k]? = S.heap[k]?))
  case first =>
    rcases (show d = 0 ∨ d = 1 ∨ d = 2 ∨ d = 3 ∨ d = 4 by omega) with rfl | rfl | rfl | rfl | rfl
    · go_wp2_with (go_at_call 47; refine (HGOOD.out S).mono ?_; rintro e w2 ⟨hb2, ts, ns, ls, at_, an, ap, ct, cn, cp, rfl, hr, hp⟩; obtain ⟨bt, bn, bp, rfl, rfl, rfl, ho⟩ := own_of hr (parse_check hp) ((hb2.block _ HLB.out).trans HQB.out) HLB.out; have q0 := (hb2.block _ HLB.out).trans HQB.out; obtain ⟨v0, z0⟩ := blk_cell (i := 0) (u := .slice none 0 0) q0 rfl; obtain ⟨v1, z1⟩ := blk_cell (i := 1) (u := .slice none 0 0) q0 rfl; obtain ⟨v2, z2⟩ := blk_cell (i := 2) (u := .slice none 0 0) q0 rfl; have l2 := heap_lt q0; have HO := Lib.hid ho; have HB2 := Lib.hid hb2; clear ho hr hp q0 hb2)
      go_meet
      case rel => exact ⟨rfl, bt, bn, bp, ct, cn, cp, ts, ns, ls, HO, Lib.hid (store3_below (HB0.out.trans (HB2.out.mono HB0.out.size)) (by omega) _ _ _), Lib.hid fun k h1 h2 => (store3_far _ _ _ k h2).trans (HB2.out.block k h1)⟩
    · go_wp2_with (go_at_call 47; refine (HGOOD.out S).mono ?_; rintro e w2 ⟨hb2, ts, ns, ls, at_, an, ap, ct, cn, cp, rfl, hr, hp⟩; obtain ⟨bt, bn, bp, rfl, rfl, rfl, ho⟩ := own_of hr (parse_check hp) ((hb2.block _ HLB.out).trans HQB.out) HLB.out; have q0 := (hb2.block _ HLB.out).trans HQB.out; obtain ⟨v0, z0⟩ := blk_cell (i := 0) (u := .slice none 0 0) q0 rfl; obtain ⟨v1, z1⟩ := blk_cell (i := 1) (u := .slice none 0 0) q0 rfl; obtain ⟨v2, z2⟩ := blk_cell (i := 2) (u := .slice none 0 0) q0 rfl; have l2 := heap_lt q0; have HO := Lib.hid ho; have HB2 := Lib.hid hb2; clear ho hr hp q0 hb2)
      go_meet
      case rel => exact ⟨rfl, bt, bn, bp, ct, cn, cp, ts, ns, ls, HO, Lib.hid (store3_below (HB0.out.trans (HB2.out.mono HB0.out.size)) (by omega) _ _ _), Lib.hid fun k h1 h2 => (store3_far _ _ _ k h2).trans (HB2.out.block k h1)⟩
    · go_wp2_with (go_at_call 62; refine (HBAD.out S).mono ?_; rintro e w2 ⟨hb2, ts, ns, ls, at_, an, ap, ct, cn, cp, rfl, hr, hp⟩; obtain ⟨bt, bn, bp, rfl, rfl, rfl, ho⟩ := own_of hr (parse_check hp) ((hb2.block _ HLB.out).trans HQB.out) HLB.out; have q0 := (hb2.block _ HLB.out).trans HQB.out; obtain ⟨v0, z0⟩ := blk_cell (i := 0) (u := .slice none 0 0) q0 rfl; obtain ⟨v1, z1⟩ := blk_cell (i := 1) (u := .slice none 0 0) q0 rfl; obtain ⟨v2, z2⟩ := blk_cell (i := 2) (u := .slice none 0 0) q0 rfl; have l2 := heap_lt q0; have HO := Lib.hid ho; have HB2 := Lib.hid hb2; clear ho hr hp q0 hb2)
      go_meet
      case rel => exact ⟨rfl, bt, bn, bp, ct, cn, cp, ts, ns, ls, HO, Lib.hid (store3_below (HB0.out.trans (HB2.out.mono HB0.out.size)) (by omega) _ _ _), Lib.hid fun k h1 h2 => (store3_far _ _ _ k h2).trans (HB2.out.block k h1)⟩
    · go_wp2_with (go_at_call 10; refine (HANY.out _ HB0.out).mono ?_; rintro e w2 ⟨hb2, F, ts, ns, ls, at_, an, ap, ct, cn, cp, rfl, hF, hr, hg, _⟩; obtain ⟨bt, bn, bp, rfl, rfl, rfl, ho⟩ := own_of (hr.base hF) (by rw [hg]; exact HCK.out) ((hb2.block _ HLB.out).trans HQB.out) HLB.out; have q0 := (hb2.block _ HLB.out).trans HQB.out; obtain ⟨v0, z0⟩ := blk_cell (i := 0) (u := .slice none 0 0) q0 rfl; obtain ⟨v1, z1⟩ := blk_cell (i := 1) (u := .slice none 0 0) q0 rfl; obtain ⟨v2, z2⟩ := blk_cell (i := 2) (u := .slice none 0 0) q0 rfl; have l2 := heap_lt q0; have HO := Lib.hid ho; have HB2 := Lib.hid hb2; clear ho hr hg q0 hb2 hF)
      go_meet
      case rel => exact ⟨rfl, bt, bn, bp, ct, cn, cp, ts, ns, ls, HO, Lib.hid (store3_below (HB0.out.trans (HB2.out.mono HB0.out.size)) (by omega) _ _ _), Lib.hid fun k h1 h2 => (store3_far _ _ _ k h2).trans (HB2.out.block k h1)⟩
    · go_wp2_with (go_at_call 10; refine (HANY.out _ HB0.out).mono ?_; rintro e w2 ⟨hb2, F, ts, ns, ls, at_, an, ap, ct, cn, cp, rfl, hF, hr, hg, _⟩; obtain ⟨bt, bn, bp, rfl, rfl, rfl, ho⟩ := own_of (hr.base hF) (by rw [hg]; exact HCK.out) ((hb2.block _ HLB.out).trans HQB.out) HLB.out; have q0 := (hb2.block _ HLB.out).trans HQB.out; obtain ⟨v0, z0⟩ := blk_cell (i := 0) (u := .slice none 0 0) q0 rfl; obtain ⟨v1, z1⟩ := blk_cell (i := 1) (u := .slice none 0 0) q0 rfl; obtain ⟨v2, z2⟩ := blk_cell (i := 2) (u := .slice none 0 0) q0 rfl; have l2 := heap_lt q0; have HO := Lib.hid ho; have HB2 := Lib.hid hb2; clear ho hr hg q0 hb2 hF)
      go_meet
      case rel => exact ⟨rfl, bt, bn, bp, ct, cn, cp, ts, ns, ls, HO, Lib.hid (store3_below (HB0.out.trans (HB2.out.mono HB0.out.size)) (by omega) _ _ _), Lib.hid fun k h1 h2 => (store3_far _ _ _ k h2).trans (HB2.out.block k h1)⟩
  case rest =>
    obtain ⟨rfl, bt, bn, bp, ct, cn, cp, ts, ns, ls, HO, HB2, HK2⟩ := hcut
    rename World => wx
    clear HGOOD HBAD HANY HCK HX c0 c1 c2 c3 c4 c5 c6
    have hsz2 := HSZ.out
    have low := HO.out.low
    have l1 := HO.out.l1
    obtain ⟨k, hk, hkl⟩ : ∃ k : Nat, xn % (ls.length : Int) = k ∧ k < ls.length := ⟨(xn % (ls.length : Int)).toNat, by have := Int.emod_nonneg xn (show (ls.length : Int) ≠ 0 by omega); omega, by have := Int.emod_nonneg xn (show (ls.length : Int) ≠ 0 by omega); have := Int.emod_lt_of_pos xn (show (0 : Int) < ls.length by omega); omega⟩
    have HWK := Lib.hid fun W => (within_any xn ls.length (by omega) (by omega) W).mono fun e w' ⟨he, hw⟩ => (⟨he.trans (by rw [hk]), hw⟩ : e = Ending.returned (.int .i64 k) ∧ w' = W)
    clear hk
    have f0 := (blk_cell (i := 0) (u := .slice (some ⟨bt, 0, none⟩) ts.length ct) HO.out.q rfl)
    have f1 := (blk_cell (i := 1) (u := .slice (some ⟨bn, 0, none⟩) ns.length cn) HO.out.q rfl)
    have f2 := (blk_cell (i := 2) (u := .slice (some ⟨bp, 0, none⟩) ls.length cp) HO.out.q rfl)
    have lB2 := heap_lt HO.out.q
    have qX2 := (HK2.out w.heap.size lX (by omega)).trans HQX.out
    have HR2 := Lib.hid ((HK2.out (w.heap.size + 1) lR (by omega)).trans HQR.out)
    have x1 := (blk_cell (i := 1) (u := .int .i64 xt) qX2 rfl).1
    have x2 := (blk_cell (i := 2) (u := .int .i64 xn) qX2 rfl).1
    have x3 := (blk_cell (i := 3) (u := .int .i64 xh) qX2 rfl).1
    have x5 := (blk_cell (i := 5) (u := .string word) qX2 rfl).1
    have lX2 := heap_lt qX2
    have qX2 := Lib.hid qX2
    have hpos : ((ls.length : Int) == 0) = false := by rw [beq_eq_false_iff_ne]; omega
    have hpos2 : (0 : Int) < ls.length := by omega
    go_upto_block 1 with (go_at_call 27; first
      | (with_reducible refine (HWK.out _).mono ?_; rintro e w1 ⟨rfl, hw1⟩; rw [hw1]; clear hw1)
      | (with_reducible refine (HWH.out _).mono ?_; rintro e w1 ⟨rfl, hw1⟩; rw [hw1]; clear hw1))
    clear HWK HWH
    go_cut [4] from 39 to 185 (fun p wy => p = .pointer (some ⟨w.heap.size + 1 + 1, 0, none⟩) ∧ Hid (HasM S.heap.size (w.heap.size + 1 + 1) wy) ∧ Hid (Below w.heap.size w wy) ∧ Hid (wy.heap[w.heap.size + 1]? = some (.cells #[.slice none 0 0, .slice none 0 0, .slice none 0 0] 28)))
    case first =>
      by_cases h28 : hh < 28
      · have hb28 : (hh : Int) < 28 := by omega
        go_wp2_with fail
        go_meet
        case rel => exact ⟨rfl, Lib.hid HO.out.same, HB2, HR2⟩
      · have hb28 : ¬ (hh : Int) < 28 := by omega
        rcases (show hh = 28 ∨ hh = 29 ∨ hh = 30 ∨ hh = 31 by omega) with rfl | rfl | rfl | rfl
        · have hneB := HO.out.neB
          have hkc := (own_cells HO.out.t).2
          have HTX := Lib.hid fun W => (cut9_any word 10 W hw3 (by decide))
          have htx : (word.extract 0 (min word.size 10)).data.toList.length ≤ 10 := by
            have : (word.extract 0 (min word.size 10)).size ≤ 10 := by rw [ByteArray.size_extract]; omega
            simpa using this
          obtain ⟨tx, htxe⟩ : ∃ tx : List UInt8, word.extract 0 (min word.size 10) = ⟨tx.toArray⟩ := ⟨(word.extract 0 (min word.size 10)).data.toList, by rw [Array.toArray_toList]⟩
          rw [htxe] at htx HTX
          have HTL : Hid (tx.length ≤ 10) := Lib.hid (by simpa using htx)
          clear htx htxe
          have HOD := Lib.hid (HO.out.keep (w' := wx.drew.alloc (.cells #[.string ⟨tx.toArray⟩] 9)) fun g hl => Below.heap_alloc wx.drew _ g hl)
          go_upto_region 16 with fail
          go_region_law (first
            | (refine step_append_lies _ (by rfl) _ _ _ (by rfl) S.heap.size 9 i0 _ 1 16 Try.underlying25 hi0 hz0 hz1 hz2 rfl (by omega) _ ts.length (strs ts) (by rfl) HOD.out.t ⟨wx.heap.size, 0, none⟩ 1 1 [.string ⟨tx.toArray⟩] (by rfl) (by rfl) (World.news_of_block (cs := #[.string ⟨tx.toArray⟩]) (t := 9) (fr := (0, 0)) (heap_alloc_new wx.drew _)) (by simp [Value.oneCell']) (by omega) (by unfold maxLen; omega) (by omega) (by simp; omega) (wx.heap.size + 1) (by simp) ?_
               intro gg c4 w4 hown4 hgrow4' hat4 hlt4
               have hgrow4 : (wx.drew.alloc (.cells #[.string ⟨tx.toArray⟩] 9)).grownBy w4 (some bt) := hgrow4'
               clear hgrow4'
               obtain ⟨r1, r2⟩ := blk_cell (w := w4) (i := 0) (u := .slice (some ⟨bt, 0, none⟩) ts.length ct) ((hgrow4.block _ (heap_lt HOD.out.q) (fun e => hneB.1 (by cases e; rfl))).trans HOD.out.q) (by rfl)
               have lw4 := hgrow4.size)
            | (rw [if_pos (by simp [Region.wanted])]; go_wp2_with (go_at_call 44; refine (HTX.out _).mono ?_; rintro e w9 ⟨rfl, hw9⟩; rw [hw9]; clear hw9)))
          all_goals
            go_wp2_with fail
            go_meet
            case rel => exact ⟨rfl, Lib.hid (HOD.out.newT (ts' := ts ++ [tx]) (by simp) (by rw [show strs (ts ++ [tx]) = strs ts ++ [.string ⟨tx.toArray⟩] by simp [strs]]; exact hown4) hgrow4 ⟨by simp; omega, fun x hx => by
              have := HTL.out
              rcases List.mem_append.1 hx with hx | hx
              · exact HO.out.m.t.2 x hx
              · rw [List.mem_singleton.1 hx]; omega⟩), Lib.hid (((HB2.out.drew.alloc HB2.out.size (.cells #[.string ⟨tx.toArray⟩] 9)).grown hgrow4 (by have := HB2.out.size; simp; omega) (fun x hx => by have : bt = x := Option.some.inj hx; omega)).setCell (p := ⟨w.heap.size + 1 + 1, 0, none⟩) (by show w.heap.size ≤ w.heap.size + 1 + 1; omega) _), Lib.hid ((Below.heap_setCell _ _ _ _ (show w.heap.size + 1 ≠ w.heap.size + 1 + 1 by omega)).trans ((hgrow4.block _ (by have := heap_lt HR2.out; simp; omega) (fun e => by have : w.heap.size + 1 = bt := Option.some.inj e; omega)).trans ((Below.heap_alloc wx.drew _ _ (heap_lt HR2.out)).trans HR2.out)))⟩
        · have hneB := HO.out.neB
          have hkc := (own_cells HO.out.n).2
          have HTX := Lib.hid fun W => (cut9_any word 10 W hw3 (by decide))
          have htx : (word.extract 0 (min word.size 10)).data.toList.length ≤ 10 := by
            have : (word.extract 0 (min word.size 10)).size ≤ 10 := by rw [ByteArray.size_extract]; omega
            simpa using this
          obtain ⟨tx, htxe⟩ : ∃ tx : List UInt8, word.extract 0 (min word.size 10) = ⟨tx.toArray⟩ := ⟨(word.extract 0 (min word.size 10)).data.toList, by rw [Array.toArray_toList]⟩
          rw [htxe] at htx HTX
          have HTL : Hid (tx.length ≤ 10) := Lib.hid (by simpa using htx)
          clear htx htxe
          have HOD := Lib.hid (HO.out.keep (w' := wx.drew.alloc (.cells #[.string ⟨tx.toArray⟩] 9)) fun g hl => Below.heap_alloc wx.drew _ g hl)
          go_upto_region 18 with fail
          go_region_law (first
            | (refine step_append_lies _ (by rfl) _ _ _ (by rfl) S.heap.size 9 i0 _ 1 16 Try.underlying25 hi0 hz0 hz1 hz2 rfl (by omega) _ ns.length (strs ns) (by rfl) HOD.out.n ⟨wx.heap.size, 0, none⟩ 1 1 [.string ⟨tx.toArray⟩] (by rfl) (by rfl) (World.news_of_block (cs := #[.string ⟨tx.toArray⟩]) (t := 9) (fr := (0, 0)) (heap_alloc_new wx.drew _)) (by simp [Value.oneCell']) (by omega) (by unfold maxLen; omega) (by omega) (by simp; omega) (wx.heap.size + 1) (by simp) ?_
               intro gg c4 w4 hown4 hgrow4' hat4 hlt4
               have hgrow4 : (wx.drew.alloc (.cells #[.string ⟨tx.toArray⟩] 9)).grownBy w4 (some bn) := hgrow4'
               clear hgrow4'
               obtain ⟨r1, r2⟩ := blk_cell (w := w4) (i := 1) (u := .slice (some ⟨bn, 0, none⟩) ns.length cn) ((hgrow4.block _ (heap_lt HOD.out.q) (fun e => hneB.2.1 (by cases e; rfl))).trans HOD.out.q) (by rfl)
               have lw4 := hgrow4.size)
            | (rw [if_pos (by simp [Region.wanted])]; go_wp2_with (go_at_call 44; refine (HTX.out _).mono ?_; rintro e w9 ⟨rfl, hw9⟩; rw [hw9]; clear hw9)))
          all_goals
            go_wp2_with fail
            go_meet
            case rel => exact ⟨rfl, Lib.hid (HOD.out.newN (ns' := ns ++ [tx]) (by simp) (by rw [show strs (ns ++ [tx]) = strs ns ++ [.string ⟨tx.toArray⟩] by simp [strs]]; exact hown4) hgrow4 ⟨by simp; omega, fun x hx => by
              have := HTL.out
              rcases List.mem_append.1 hx with hx | hx
              · exact HO.out.m.n.2 x hx
              · rw [List.mem_singleton.1 hx]; omega⟩), Lib.hid (((HB2.out.drew.alloc HB2.out.size (.cells #[.string ⟨tx.toArray⟩] 9)).grown hgrow4 (by have := HB2.out.size; simp; omega) (fun x hx => by have : bn = x := Option.some.inj hx; omega)).setCell (p := ⟨w.heap.size + 1 + 1, 1, none⟩) (by show w.heap.size ≤ w.heap.size + 1 + 1; omega) _), Lib.hid ((Below.heap_setCell _ _ _ _ (show w.heap.size + 1 ≠ w.heap.size + 1 + 1 by omega)).trans ((hgrow4.block _ (by have := heap_lt HR2.out; simp; omega) (fun e => by have : w.heap.size + 1 = bn := Option.some.inj e; omega)).trans ((Below.heap_alloc wx.drew _ _ (heap_lt HR2.out)).trans HR2.out)))⟩
        · obtain ⟨q, hq, hu, hv⟩ := HO.out.cellL k hkl
          have hneB := HO.out.neB
          have hkl2 : (k : Int) < ls.length := by omega
          have HQ := Lib.hid hq
          clear hq
          have HOD := Lib.hid (HO.out.keep (w' := wx.drew.alloc (.cells #[.int .i64 q.left, .slice q.addr q.right.length q.cap] 94)) fun g hl => Below.heap_alloc wx.drew _ g hl)
          go_upto_region 20 with fail
          go_region_law (first
            | (refine step_append_lies _ (by rfl) _ _ _ (by rfl) S.heap.size 94 i1 _ 2 32 Try.underlying26 hi1 hy0 hy1 hy2 rfl (by omega) _ ls.length (lays ls) (by rfl) HOD.out.p ⟨wx.heap.size, 0, none⟩ 1 1 [.int .i64 q.left, .slice q.addr q.right.length q.cap] (by rfl) (by rfl) (World.news_of_block (cs := #[.int .i64 q.left, .slice q.addr q.right.length q.cap]) (t := 94) (fr := (0, 0)) (heap_alloc_new wx.drew _)) (by simp [Value.oneCell']) (by omega) (by unfold maxLen; omega) (by omega) (by simp; omega) (wx.heap.size + 1) (by simp) ?_
               intro gg c4 w4 hown4 hgrow4' hat4 hlt4
               have hgrow4 : (wx.drew.alloc (.cells #[.int .i64 q.left, .slice q.addr q.right.length q.cap] 94)).grownBy w4 (some bp) := hgrow4'
               clear hgrow4'
               obtain ⟨r1, r2⟩ := blk_cell (w := w4) (i := 2) (u := .slice (some ⟨bp, 0, none⟩) ls.length cp) ((hgrow4.block _ (heap_lt HOD.out.q) (fun e => hneB.2.2 (by cases e; rfl))).trans HOD.out.q) (by rfl)
               have lw4 := hgrow4.size))
          all_goals
            go_wp2_with fail
            go_meet
            case rel => exact ⟨rfl, Lib.hid (HOD.out.newP (ls' := ls ++ [q]) (by simp) (by rw [show lays (ls ++ [q]) = lays ls ++ [.int .i64 q.left, .slice q.addr q.right.length q.cap] by simp [lays]]; exact hown4) hgrow4 (fun z hz => by
              rcases List.mem_append.1 hz with hz | hz
              · exact hz
              · rw [List.mem_singleton.1 hz]; exact List.mem_of_getElem? HQ.out) (by simp; omega)), Lib.hid (((HB2.out.drew.alloc HB2.out.size (.cells #[.int .i64 q.left, .slice q.addr q.right.length q.cap] 94)).grown hgrow4 (by have := HB2.out.size; simp; omega) (fun x hx => by have : bp = x := Option.some.inj hx; omega)).setCell (p := ⟨w.heap.size + 1 + 1, 2, none⟩) (by show w.heap.size ≤ w.heap.size + 1 + 1; omega) _), Lib.hid ((Below.heap_setCell _ _ _ _ (show w.heap.size + 1 ≠ w.heap.size + 1 + 1 by omega)).trans ((hgrow4.block _ (by have := heap_lt HR2.out; simp; omega) (fun e => by have : w.heap.size + 1 = bp := Option.some.inj e; omega)).trans ((Below.heap_alloc wx.drew _ _ (heap_lt HR2.out)).trans HR2.out)))⟩
        · obtain ⟨q, hq, hu, _⟩ := HO.out.cellL k hkl
          have hz := World.ownsRow.frozenAt HO.out.p (k * 2)
          have hkl2 : (k : Int) < ls.length := by omega
          go_wp2_with fail
          go_meet
          case rel => exact ⟨rfl, Lib.hid (HO.out.left hq xn (by omega)), Lib.hid (HB2.out.setCell (p := ⟨bp, k * 2, none⟩) (by show w.heap.size ≤ bp; omega) _), Lib.hid ((Below.heap_setCell _ _ _ _ (show w.heap.size + 1 ≠ bp by omega)).trans HR2.out)⟩
    case rest =>
      obtain ⟨rfl, HM, HBY, HRY⟩ := hcut
      rename World => wy
      clear HO HB2 HR2 HK2 f0 f1 f2 lB2 x1 x2 x3 x5 lX2 low
      obtain ⟨at_, an, ap, n1, n2, n3, ct4, cn4, cp4, g, hq, hg, hm⟩ := HM.out
      have v0 := (blk_cell (i := 0) (u := .slice at_ n1 ct4) hq rfl).1
      have v1 := (blk_cell (i := 1) (u := .slice an n2 cn4) hq rfl).1
      have v2 := (blk_cell (i := 2) (u := .slice ap n3 cp4) hq rfl).1
      have lq := heap_lt hq
      obtain ⟨r0, z0⟩ := blk_cell (i := 0) (u := .slice none 0 0) HRY.out rfl
      obtain ⟨r1, z1⟩ := blk_cell (i := 1) (u := .slice none 0 0) HRY.out rfl
      obtain ⟨r2, z2⟩ := blk_cell (i := 2) (u := .slice none 0 0) HRY.out rfl
      have lr := heap_lt HRY.out
      have HG := Lib.hid hg
      have HMM := Lib.hid hm
      clear hq hg hm HM
      go_wp2
      (try simp only [Exit.inBlock, Exit.then])
      refine bodyPost_ret (v := .agg #[.slice at_ n1 ct4, .slice an n2 cn4, .slice ap n3 cp4]) ?_ rfl ⟨?_, at_, an, ap, n1, n2, n3, ct4, cn4, cp4, g, rfl, ?_, HMM.out⟩
      · rw [results_cell1 (p := 2) (ty := 28) rfl]
        show ((asAddr (.pointer (some ⟨w.heap.size + 1, 0, none⟩))).run _ _).andThen _ = _
        show (loadVar 28 ⟨w.heap.size + 1, 0, none⟩).run _ _ = _
        exact run_loadVar_row _ (w.heap.size + 1) 28 28 _ (0, 0) _ (store3 HRY.out _ _ _) Try.underlying28 rfl (by kernel_rfl)
      · exact store3_below HBY.out (by omega) _ _ _
      · exact HG.out _ fun k h1 h2 => store3_far _ _ _ k (by omega)

end Go.Proofs.Ytflfmcikfiaoiaa
