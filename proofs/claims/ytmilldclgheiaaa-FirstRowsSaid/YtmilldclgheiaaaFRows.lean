/- FirstRows: walked. -/
import Derived.Test.YtmilldclgheiaaaMoreF
import Derived.Test.YtmilldclgheiaaaRaw
import Derived.Test.YtmilldclgheiaaaRefs
import Derived.Test.YtmilldclgheiaaaReach
import Derived.Deep.Cut
import Derived.Deep.CutRange
import Derived.Deep.CutBlock
import Derived.Deep.RegionLaw
import Derived.Deep.RegionHeld3
import Derived.Test.YtmilldclgheiaaaWake6
import Derived.Test.YtmilldclgheiaaaSyms6
set_option linter.unusedVariables false
namespace Go.Proofs.Ytmilldclgheiaaa
open Go.RowKit
open Doc

theorem of_nil0 (W : World) : Calls Try.prog 35 #[.slice none 0 0] W fun e w' => e = .returned (.int .u64 0) ∧ w' = W :=
  (set_of none 0 [] W (.inl rfl) (by simp)).mono fun e w' ⟨he, hw⟩ => ⟨he, hw⟩
theorem of_zero2 (W : World) (a : Option Addr) (h : Cells W a [.int .i64 0]) : Calls Try.prog 35 #[.slice a 1 1] W fun e w' => e = .returned (.int .u64 1) ∧ w' = W :=
  (set_of a 1 [0] W h (by simp)).mono fun e w' ⟨he, hw⟩ => ⟨he, hw⟩
/-- The symbols of which words come. -/
def keepP (g : Gr) (F : List Nat) (y : Int) : Bool := symB g y && decide (aloneF g.terms.length F y ≠ 0)
theorem filter_take {p : Int → Bool} {l : List Int} {k : Nat} {x : Int} (hx : l[k]? = some x) : (l.take (k + 1)).filter p = if p x = true then (l.take k).filter p ++ [x] else (l.take k).filter p := by
  rw [List.take_add_one, hx]
  simp only [Option.toList_some, List.filter_append]
  cases h : p x with
  | true => simp [h]
  | false => simp [h]

set_option maxRecDepth 100000 in
set_option maxHeartbeats 16000000 in
theorem firstRows_walk (x : RawX) (la : Option Addr) (lc : Nat) (row : List Int) (left : Int) (w : World) (hx : RawAt w x) (hl : Cells w la (nums row)) (hrl : row.length ≤ 17592186043904) (hrw : ∀ x ∈ row, -9223372036854775808 ≤ x ∧ x ≤ 9223372036854775807) : Calls Try.prog 11 #[x.v, .slice la row.length lc, .int .i64 left] w fun e w' => e = .returned (.bool true) ∧ Below w.heap.size w w' := by
  have hck : CheckG x.any := anyF_check x.terms x.nons x.plain
  obtain ⟨i0, hi0, hz0, hz1, hz2⟩ := info_of infoI
  obtain ⟨i1, hi1, hy0, hy1, hy2⟩ := info_of infoP
  have hAN := Lib.hid (fun W h => any_gram x W h)
  have HCK := Lib.hid hck
  have ht8 := hck.t8
  have hn8 := hck.n8
  have hn1 := hck.n1
  have ht1 := hck.t1
  have hp1 := hck.p1
  have hp24 := hck.p24
  generalize hgg : x.any = g at *
  have HX := Lib.hid hx
  have HL := Lib.hid hl
  have HRWD := Lib.hid hrw
  clear hx hck hgg hl hrw
  obtain ⟨xp, xt, xn, xh, rows, xa, xc, word⟩ := x
  unfold RawX.v at *
  simp only at *
  have hb0 : Below w.heap.size w (w.alloc (.cells #[.int .i64 xp, .int .i64 xt, .int .i64 xn, .int .i64 xh, .slice xa rows.length xc, .string word] 45)) := (Below.refl _ _).alloc (Nat.le_refl _) _
  have HA1 := Lib.hid (hAN.out _ (HX.out.below hb0))
  have HB0 := Lib.hid hb0
  clear hAN hb0
  go_enter Try.func11, Try.ntmps11
  go_upto_region 2 with (go_at_call 45; refine HA1.out.mono ?_; rintro e w1 ⟨hb1, at_, an, ap, ct, cn, cp, ls, rfl, hg1, hls, hc1, hr1⟩)
  have hbA := (HB0.out.trans (hb1.mono HB0.out.size)).alloc (Nat.le_trans HB0.out.size hb1.size) (.cells #[.slice at_ g.terms.length ct, .slice an g.nons.length cn, .slice ap ls.length cp] 26)
  have hbS : Below w1.heap.size w1 (w1.alloc (.cells #[.slice at_ g.terms.length ct, .slice an g.nons.length cn, .slice ap ls.length cp] 26)) := (Below.refl _ _).alloc (Nat.le_refl _) _
  have q0 := heap_alloc_new w1 (.cells #[.slice at_ g.terms.length ct, .slice an g.nons.length cn, .slice ap ls.length cp] 26)
  have HG := Lib.hid (hg1.below hbS)
  have HC := Lib.hid (hc1.below hbS)
  have HR := Lib.hid (fun p hp => (hr1 p hp).below hbS)
  have HLS := Lib.hid hls
  have HBA := Lib.hid hbA
  have HQ0 := Lib.hid q0
  have HLL := Lib.hid (HL.out.below hbA)
  have hlsl : ls.length = g.prods.length := by rw [← hls, List.length_map]
  have hls24 : ls.length ≤ 24 := by omega
  have hls1 : 1 ≤ ls.length := by omega
  clear hb1 hg1 hls hc1 hr1 hbA hbS q0 HA1 HX HB0 HL hlsl
  generalize w1.alloc (.cells #[.slice at_ g.terms.length ct, .slice an g.nons.length cn, .slice ap ls.length cp] 26) = S at *
  generalize w1.heap.size = B1 at *
  have c0 := (blk_cell (i := 0) (u := .slice at_ g.terms.length ct) HQ0.out rfl).1
  have c1 := (blk_cell (i := 1) (u := .slice an g.nons.length cn) HQ0.out rfl).1
  have c2 := (blk_cell (i := 2) (u := .slice ap ls.length cp) HQ0.out rfl).1
  have l1 := heap_lt HQ0.out
  have HNW := Lib.hid (new_one _ g S HG.out HCK.out)
  go_upto_region 3 with (go_at_call 51; refine HNW.out.mono ?_; rintro e w5 ⟨hb5, pv, er, rfl, hNE⟩)
  have q5 := (hb5.block B1 l1).trans HQ0.out
  have HG5 := Lib.hid (HG.out.below hb5)
  have HL5 := Lib.hid (HLL.out.below hb5)
  have HB5 := Lib.hid (HBA.out.trans (hb5.mono HBA.out.size))
  have HQ5 := Lib.hid q5
  clear hb5 q5 HG HLL HBA HQ0 c0 c1 c2 l1 HNW HC HR
  rcases hNE with ⟨hfr, rfl, B, b, F, rfl, ht⟩ | ⟨hfr, rfl, rfl⟩
  · as_aux_lemma =>
    have hfi := ht.is HCK.out
    have HLOW := Lib.hid hfi.low
    have HFL := Lib.hid hfi.len
    have HTA := Lib.hid ht.at_
    have c0 := (blk_cell (i := 0) (u := .slice at_ g.terms.length ct) HQ5.out rfl).1
    have c1 := (blk_cell (i := 1) (u := .slice an g.nons.length cn) HQ5.out rfl).1
    have c2 := (blk_cell (i := 2) (u := .slice ap ls.length cp) HQ5.out rfl).1
    have l1 := heap_lt HQ5.out
    have HSY := Lib.hid (syms6_any _ g la lc row 4 w5 HG5.out HCK.out HL5.out hrl HRWD.out (by omega))
    clear hfi ht hfr
    go_upto_region 6 with fail
    go_upto_block 0 with (go_at_call 53; refine HSY.out.mono ?_; rintro e w6 ⟨hb6, sa, sc, s0, rfl, hs4, hsw, hso⟩)
    have HSW := Lib.hid hsw
    have HSC := Lib.hid (own_cells hso).1
    have q6 := (hb6.block B1 l1).trans HQ5.out
    have HQ6 := Lib.hid q6
    have HG6 := Lib.hid (HG5.out.below hb6)
    have HT6 := Lib.hid (HTA.out.below hb6)
    have HB6 := Lib.hid (HB5.out.trans (hb6.mono HB5.out.size))
    have hl6 := heap_lt q6
    clear c0 c1 c2 l1 HSY hsw hso hb6 q6 HG5 HTA HB5 HL5 HQ5 HRWD
    go_wp2_with fail
    go_loopw [10, 38] (fun s i wr => ∃ (k : Nat) (a : Option Addr) (c : Nat) (l : List Int), k ≤ s0.length ∧ i = .int .i64 k ∧ s = .slice a l.length c ∧ l.length ≤ k ∧ Hid (l = (s0.take k).filter (keepP g F)) ∧ Hid (wr.ownsRow w6.heap.size 3 1 (.slice a l.length c) l.length (nums l)) ∧ Hid (Below w6.heap.size w6 wr)) (fun _ i _ => s0.length - (intOf i).toNat)
    case atStart => exact ⟨0, none, 0, [], by omega, rfl, rfl, by simp, Lib.hid (by simp), Lib.hid (World.ownsRow_nil _ _ _ _), Lib.hid (Below.refl _ _)⟩
    case round =>
      obtain ⟨k, a, c, l, hk, rfl, rfl, hlk, HLF, HO, HB⟩ := hrel
      have q0 := (HB.out.block B1 hl6).trans HQ6.out
      have c0 := (blk_cell (i := 0) (u := .slice at_ g.terms.length ct) q0 rfl).1
      have c1 := (blk_cell (i := 1) (u := .slice an g.nons.length cn) q0 rfl).1
      have c2 := (blk_cell (i := 2) (u := .slice ap ls.length cp) q0 rfl).1
      have c3 := heap_lt q0
      clear q0
      by_cases hlt : k < s0.length
      · as_aux_lemma =>
        obtain ⟨y, hy⟩ : ∃ y, s0[k]? = some y := ⟨_, List.getElem?_eq_getElem hlt⟩
        obtain ⟨yb, yo, rfl, hyb, hyc⟩ := (HSC.out.below HB.out).get (by unfold nums; intro e; rw [List.map_eq_nil_iff] at e; rw [e] at hlt; simp at hlt)
        have x0 := hyc k _ (nums_at hy)
        have e1 : (k : Int) < s0.length := by omega
        have hyw := HSW.out y (List.mem_of_getElem? hy)
        have HFT := Lib.hid (filter_take (p := keepP g F) hy)
        have HIS := Lib.hid (is_any _ g y wr (HG6.out.below HB.out) (by omega))
        have HOF := Lib.hid fun W (hW : Below wr.heap.size wr W) => (show Calls Try.prog 55 #[.pointer (some ⟨B, 0, none⟩), .slice (some ⟨W.heap.size, 0, none⟩) 1 1] (W.alloc (.cells #[.int .i64 y] 3)) fun e w' => e = Ending.returned (.int .u64 (aloneF g.terms.length F y : Nat)) ∧ Below (W.alloc (.cells #[.int .i64 y] 3)).heap.size (W.alloc (.cells #[.int .i64 y] 3)) w' from (fof_any B b g.terms.length F (some ⟨W.heap.size, 0, none⟩) 1 [y] (W.alloc (.cells #[.int .i64 y] 3)) (((HT6.out.below HB.out).below hW).below (box_below W _)) (cells_new W #[.int .i64 y] 3) (by simp) (by intro s hs; simp at hs; omega) HLOW.out (by omega) (by have := HFL.out; omega)).mono fun e w' ⟨he, hb⟩ => (⟨he.trans (by rw [of_one]), hb⟩ : e = Ending.returned (.int .u64 (aloneF g.terms.length F y : Nat)) ∧ Below (W.alloc (.cells #[.int .i64 y] 3)).heap.size (W.alloc (.cells #[.int .i64 y] 3)) w'))
        have HON := Lib.hid fun W => of_nil0 W
        clear hyc hy
        cases hsy : symB g y with
        | false =>
          have HN := Lib.hid (show l = (s0.take (k + 1)).filter (keepP g F) by rw [HFT.out, if_neg (by unfold keepP; rw [hsy]; simp)]; exact HLF.out)
          rw [hsy] at HIS
          clear hsy HOF
          go_wp2_with (go_at_call 54; refine HIS.out.mono ?_; rintro e w7 ⟨rfl, hb7⟩)
          exact ⟨⟨k + 1, a, c, l, by omega, by go_num, rfl, by omega, HN, Lib.hid (own_same HO.out fun gg _ hl => hb7.block gg hl), Lib.hid (HB.out.trans (hb7.mono HB.out.size))⟩, by simp [intOf]; omega⟩
        | true =>
          rw [hsy] at HIS
          by_cases hal : aloneF g.terms.length F y = 0
          · have HN := Lib.hid (show l = (s0.take (k + 1)).filter (keepP g F) by rw [HFT.out, if_neg (by unfold keepP; rw [hal]; simp)]; exact HLF.out)
            rw [hal] at HOF
            clear hsy hal
            go_wp2_with (first
              | (go_at_call 54; refine HIS.out.mono ?_; rintro e w7 ⟨rfl, hb7⟩)
              | (go_at_call 55; refine (HOF.out _ hb7).mono ?_; rintro e w8 ⟨rfl, hb8⟩)
              | (go_at_call 35; refine (HON.out _).mono ?_; rintro e w9 ⟨rfl, hw9⟩; rw [hw9]; clear hw9))
            have h1 := hb7.alloc hb7.size (.cells #[.int .i64 y] 3)
            have h2 := h1.trans (hb8.mono h1.size)
            exact ⟨⟨k + 1, a, c, l, by omega, by go_num, rfl, by omega, HN, Lib.hid (own_same HO.out fun gg _ hl => h2.block gg hl), Lib.hid (HB.out.trans (h2.mono HB.out.size))⟩, by simp [intOf]; omega⟩
          · have HN := Lib.hid (show l ++ [y] = (s0.take (k + 1)).filter (keepP g F) by rw [HFT.out, if_pos (by unfold keepP; rw [hsy]; simpa using hal), HLF.out])
            have halb : (((aloneF g.terms.length F y : Nat) : Int) != 0) = true := by simpa using hal
            have hlow := low_lt (low_alone HLOW.out y) (show g.terms.length ≤ 63 by omega)
            clear hsy hal
            generalize aloneF g.terms.length F y = X at *
            go_wp2_with (first
              | (go_at_call 54; refine HIS.out.mono ?_; rintro e w7 ⟨rfl, hb7⟩)
              | (go_at_call 55; refine (HOF.out _ hb7).mono ?_; rintro e w8 ⟨rfl, hb8⟩; have h1 := hb7.alloc hb7.size (.cells #[.int .i64 y] 3); have h2 := h1.trans (hb8.mono h1.size); have HO8 := Lib.hid (own_same HO.out fun gg _ hl => h2.block gg hl); have h8s : w6.heap.size ≤ w8.heap.size := Nat.le_trans HB.out.size h2.size; clear h1)
              | (go_at_call 35; refine (HON.out _).mono ?_; rintro e w9 ⟨rfl, hw9⟩; rw [hw9]; clear hw9)
              | (at_builtin; refine wpList_append_lies _ rfl (.tmp 53) (.tmp 55) 30 rfl w6.heap.size 3 i0 (.int .i64 0) 1 8 Try.underlying30 hi0 hz0 hz1 hz2 rfl (by decide) _ l.length (nums l) rfl (HO8.out.alloc _) ⟨w8.heap.size, 0, none⟩ 1 1 [.int .i64 y] rfl rfl (World.news_of_block (cs := #[.int .i64 y]) (t := 3) (fr := (0, 0)) (heap_alloc_new w8 _)) (by simp [Value.oneCell']) (by decide) (by unfold maxLen; omega) (by omega) (by simp; omega) w8.heap.size.succ (by simp) ?_; intro gg cap4 w4 hown4 hgrow4 hat4 hlt4))
            exact ⟨⟨k + 1, some ⟨gg, 0, none⟩, cap4, l ++ [y], by omega, by go_num, by simp, by simp; omega, HN, Lib.hid (by rw [List.length_append]; exact own_snoc hown4), Lib.hid (((HB.out.trans (h2.mono HB.out.size)).alloc h8s _).grown hgrow4 (by simp; omega) (fun x hx => (own_block HO8.out hx).1))⟩, by simp [intOf]; omega⟩
      · as_aux_lemma =>
        have e1 : ¬ (k : Int) < s0.length := by omega
        have hmem : ∀ z ∈ l, aloneF g.terms.length F z ≠ 0 ∧ z ≤ 9223372036854775807 := fun z hz => by
          rw [HLF.out] at hz
          obtain ⟨h1, h2⟩ := List.mem_filter.1 hz
          unfold keepP at h2
          rw [Bool.and_eq_true, decide_eq_true_eq] at h2
          exact ⟨h2.2, (HSW.out z (List.mem_of_mem_take h1)).2⟩
        have HM := Lib.hid hmem
        have HWR := Lib.hid (HB6.out.trans (HB.out.mono HB6.out.size))
        have HTW := Lib.hid (HT6.out.below HB.out)
        have HLC := Lib.hid (own_cells HO.out).1
        have hcap := (own_cells HO.out).2
        have hl4 : l.length ≤ 4 := by omega
        obtain ⟨d, hd, hdl⟩ : ∃ d : Nat, left % ((g.terms.length : Int) + 1) = d ∧ d ≤ g.terms.length := ⟨(left % ((g.terms.length : Int) + 1)).toNat, by
          have := Int.emod_nonneg left (show ((g.terms.length : Int) + 1) ≠ 0 by omega); omega, by
          have := Int.emod_nonneg left (show ((g.terms.length : Int) + 1) ≠ 0 by omega)
          have := Int.emod_lt_of_pos left (show (0 : Int) < (g.terms.length : Int) + 1 by omega); omega⟩
        have HWI := Lib.hid fun W => (within_any left ((g.terms.length : Int) + 1) (by omega) (by omega) W).mono fun e w' ⟨he, hw⟩ => (⟨he.trans (by rw [hd]), hw⟩ : e = Ending.returned (.int .i64 d) ∧ w' = W)
        clear hmem hd HO HB HLF hlk hlt HSW HSC HQ6 HG6 HT6 HB6 hl6
        go_upto_region 13 with (go_at_call 15; refine (HWI.out _).mono ?_; rintro e w7 ⟨rfl, hw7⟩; rw [hw7]; clear hw7)
        have hah : aheadS g.terms.length (d : Int) = sdig (d : Int) := if_pos (by omega)
        have hdl64 := dig_lt (d : Int)
        have HS0 := Lib.hid fun W => of_zero W
        have HAH := Lib.hid hah
        clear c0 c1 c2 c3 hah HWI
        cases l with
        | nil =>
          have HO0 := Lib.hid ((fof_any B b g.terms.length F none 0 [] wr HTW.out (.inl rfl) (by simp) (by simp) HLOW.out (by omega) (by have := HFL.out; omega)).mono fun e w' ⟨he, hb⟩ => (⟨he, hb⟩ : e = Ending.returned (.int .u64 1) ∧ Below wr.heap.size wr w'))
          have HA0 := Lib.hid fun W (hW : Below wr.heap.size wr W) => (show Calls Try.prog 56 #[.pointer (some ⟨B, 0, none⟩), .slice none 0 0, .int .i64 d] W fun e w' => e = Ending.returned (.int .u64 (sdig (d : Int) : Nat)) ∧ Below W.heap.size W w' from (fahead_any B b g.terms.length F none 0 [] d W (HTW.out.below hW) (.inl rfl) (by simp) (by simp) HLOW.out (by omega) (by have := HFL.out; omega)).mono fun e w' ⟨he, hb⟩ => ⟨he.trans (by rw [HAH.out]; show Ending.returned (.int .u64 (goOnF 1 _ : Nat)) = _; rw [goOn_one]), hb⟩)
          have HSD := Lib.hid fun W => of_sing (d : Int) W
          generalize sdig (d : Int) = sd at *
          have hlen0 : (([] : List Int).length : Int) = 0 := rfl
          go_wp2_with (first
            | (go_at_call 55; refine HO0.out.mono ?_; rintro e w8 ⟨rfl, hb8⟩; have hb8a := hb8.alloc hb8.size (.cells #[.int .i64 0] 3))
            | (go_at_call 56; refine (HA0.out _ hb8a).mono ?_; rintro e w9 ⟨rfl, hb9⟩; have hb9a := hb8a.trans (hb9.mono hb8a.size))
            | (go_at_call 35; first
                | (with_reducible refine (HS0.out _).mono ?_; rintro e w10 ⟨rfl, hw10⟩; rw [hw10]; clear hw10)
                | (with_reducible refine (HSD.out _).mono ?_; rintro e w10 ⟨rfl, hw10⟩; rw [hw10]; clear hw10))
            | (go_at_call 52; refine (wakes6_any _).mono ?_; rintro e w11 ⟨rfl, hb11⟩))
          go_ret
          have h1 := hb9a.alloc hb9a.size (.cells #[.int .i64 d] 3)
          have h2 := HWR.out.trans (h1.mono HWR.out.size)
          exact ⟨rfl, h2.trans (hb11.mono h2.size)⟩
        | cons y l' =>
          have hy0 := (HM.out y (by simp)).1
          have hyw := (HM.out y (by simp)).2
          have hl'0 := fun z (hz : z ∈ l') => (HM.out z (by simp [hz])).1
          have hl'w := fun z (hz : z ∈ l') => (HM.out z (by simp [hz])).2
          have hlowX := low_alone HLOW.out y
          have hX64 := low_lt hlowX (show g.terms.length ≤ 63 by omega)
          have hA : ofF g.terms.length F (y :: l') 1 = if shas (aloneF g.terms.length F y) 0 = true then sless (aloneF g.terms.length F y) 1 ||| ofF g.terms.length F l' 1 else aloneF g.terms.length F y := by
            show (if aloneF g.terms.length F y = 0 then 0 else ofF g.terms.length F l' (goOnF 1 (aloneF g.terms.length F y))) = _
            rw [if_neg hy0, goOn_one, of_goOn (by omega) HLOW.out l' _ hlowX hl'0]
          have hAlow := low_of (show g.terms.length ≤ 63 by omega) HLOW.out (y :: l') 1 (low_one _)
          have hTlow := low_of (show g.terms.length ≤ 63 by omega) HLOW.out l' 1 (low_one _)
          have hA64 := low_lt hAlow (show g.terms.length ≤ 63 by omega)
          have hT64 := low_lt hTlow (show g.terms.length ≤ 63 by omega)
          obtain ⟨ab, ao, rfl, hab, hac⟩ := HLC.out.get (by simp [nums])
          have x0 := hac 0 (.int .i64 y) (by simp [nums])
          rw [Nat.add_zero] at x0
          have HTC := Lib.hid (fun j u (hj : (nums l')[j]? = some u) => (by
            have := hac (j + 1) u (by simpa [nums] using hj)
            rwa [show ao + (j + 1) = ao + 1 + j by omega] at this : wr.cell? ⟨ab, ao + 1 + j, none⟩ = some u))
          have HLC2 : Hid (Cells wr (some ⟨ab, ao, none⟩) (nums (y :: l'))) := HLC
          have HOFY := Lib.hid (show Calls Try.prog 55 #[.pointer (some ⟨B, 0, none⟩), .slice (some ⟨wr.heap.size, 0, none⟩) 1 1] (wr.alloc (.cells #[.int .i64 y] 3)) fun e w' => e = Ending.returned (.int .u64 (aloneF g.terms.length F y : Nat)) ∧ Below (wr.alloc (.cells #[.int .i64 y] 3)).heap.size (wr.alloc (.cells #[.int .i64 y] 3)) w' from (fof_any B b g.terms.length F (some ⟨wr.heap.size, 0, none⟩) 1 [y] (wr.alloc (.cells #[.int .i64 y] 3)) (HTW.out.below (box_below wr _)) (cells_new wr #[.int .i64 y] 3) (by simp) (by intro s hs; simp at hs; omega) HLOW.out (by omega) (by have := HFL.out; omega)).mono fun e w' ⟨he, hb⟩ => (⟨he.trans (by rw [of_one]), hb⟩ : e = Ending.returned (.int .u64 (aloneF g.terms.length F y : Nat)) ∧ Below (wr.alloc (.cells #[.int .i64 y] 3)).heap.size (wr.alloc (.cells #[.int .i64 y] 3)) w'))
          have HOFL := Lib.hid fun W (hW : Below wr.heap.size wr W) => (show Calls Try.prog 55 #[.pointer (some ⟨B, 0, none⟩), .slice (some ⟨ab, ao, none⟩) (l'.length + 1) c] W fun e w' => e = Ending.returned (.int .u64 (ofF g.terms.length F (y :: l') 1 : Nat)) ∧ Below W.heap.size W w' from fof_any B b g.terms.length F (some ⟨ab, ao, none⟩) c (y :: l') W (HTW.out.below hW) (HLC2.out.below hW) (by simp at hl4 ⊢; omega) (fun z hz => (HM.out z hz).2) HLOW.out (by omega) (by have := HFL.out; omega))
          have HAHL := Lib.hid fun W (hW : Below wr.heap.size wr W) => (show Calls Try.prog 56 #[.pointer (some ⟨B, 0, none⟩), .slice (some ⟨ab, ao, none⟩) (l'.length + 1) c, .int .i64 d] W fun e w' => e = Ending.returned (.int .u64 (goOnF (ofF g.terms.length F (y :: l') 1) (sdig (d : Int)) : Nat)) ∧ Below W.heap.size W w' from (fahead_any B b g.terms.length F (some ⟨ab, ao, none⟩) c (y :: l') d W (HTW.out.below hW) (HLC2.out.below hW) (by simp at hl4 ⊢; omega) (fun z hz => (HM.out z hz).2) HLOW.out (by omega) (by have := HFL.out; omega)).mono fun e w' ⟨he, hb⟩ => ⟨he.trans (by rw [HAH.out]), hb⟩)
          have HOFT := Lib.hid fun W ta tc (hW : Below wr.heap.size wr W) (hc : Cells wr ta (nums l')) => fof_any B b g.terms.length F ta tc l' W (HTW.out.below hW) (hc.below hW) (by simp at hl4; omega) (fun z hz => hl'w z hz) HLOW.out (by omega) (by have := HFL.out; omega)
          have hl'4 : l'.length ≤ 3 := by simp at hl4; omega
          have hcap1 : l'.length + 1 ≤ c := by simpa using hcap
          have HLW := Lib.hid hlowX
          clear hac HLC hy0 hl'0 hl'w hAlow hTlow hlowX hl4 hcap
          have hne : ((l'.length : Int) + 1 == 0) = false := by simp; omega
          have hnat : (((y :: l').length : Nat) : Int) = (l'.length : Int) + 1 := by simp
          go_upto_region 16 with (go_at_call 55; refine HOFY.out.mono ?_; rintro e w8 ⟨rfl, hb8⟩)
          have hb8a := (box_below wr (.cells #[.int .i64 y] 3)).trans (hb8.mono (box_below wr _).size)
          have HB8 := Lib.hid hb8a
          clear hb8 hb8a HOFY x0
          have HT64 := hT64
          generalize aloneF g.terms.length F y = X at *
          generalize ofF g.terms.length F (y :: l') 1 = A at *
          generalize ofF g.terms.length F l' 1 = XT at *
          have HA := Lib.hid hA
          clear hA
          have HHX := Lib.hid fun W => has_any X 0 hX64 W
          go_upto_if 91 with (go_at_call 49; refine (HHX.out _).mono ?_; rintro e w9 ⟨rfl, hw9⟩; rw [hw9]; clear hw9)
          go_cut [2, 8, 10, 13, 91] from 92 to 100 (fun p2 p8 p10 p13 _ wx => p2 = .int .i64 d ∧ p8 = .pointer (some ⟨B, 0, none⟩) ∧ p10 = .slice (some ⟨ab, ao, none⟩) (l'.length + 1) c ∧ p13 = .int .u64 A ∧ Hid (Below wr.heap.size wr wx))
          case first =>
            cases h0 : shas X 0 with
            | false =>
              have HHS := Lib.hid fun W => (has_any X 0 hX64 W).mono fun e w' ⟨he, hw⟩ => (⟨he.trans (by rw [h0]), hw⟩ : e = Ending.returned (.bool false) ∧ w' = W)
              obtain rfl : A = X := by rw [HA.out, h0]; rfl
              go_wp2_with fail
              go_meet
              case rel => exact ⟨rfl, rfl, rfl, rfl, HB8⟩
            | true =>
              have HHS := Lib.hid fun W => (has_any X 0 hX64 W).mono fun e w' ⟨he, hw⟩ => (⟨he.trans (by rw [h0]), hw⟩ : e = Ending.returned (.bool true) ∧ w' = W)
              obtain rfl : A = sless X 1 ||| XT := by rw [HA.out, h0]; rfl
              have HLE := Lib.hid fun W => less_any X 1 hX64 (by decide) W
              have HJO := Lib.hid fun W => join_any (sless X 1) XT (less_lt _ _ hX64) hT64 W
              have i1 : (1 : Int) ≤ (l'.length : Int) + 1 := by omega
              have i2 : (l'.length : Int) + 1 ≤ c := by omega
              have i3 : (0 : Int) ≤ 1 := by omega
              go_wp2_with fail
              have HZ2 := Lib.hid fun W a (h : Cells W a [.int .i64 0]) => of_zero2 W a h
              by_cases hc1 : c = 1
              · subst hc1
                have hnl : nums l' = [] := by
                  have : l' = [] := List.eq_nil_of_length_eq_zero (by omega)
                  rw [this]; rfl
                have hl0 : l'.length = 0 := by omega
                have HOFZ := Lib.hid fun W ta (hW : Below wr.heap.size wr W) => (show Calls Try.prog 55 #[.pointer (some ⟨B, 0, none⟩), .slice ta 0 0] W fun e w' => e = Ending.returned (.int .u64 XT) ∧ Below W.heap.size W w' from by
                  have h := HOFT.out W ta 0 hW (.inl hnl)
                  rw [hl0] at h
                  exact h)
                clear hnl hl0
                go_region_with (first
                  | (go_at_call 35; refine (HZ2.out _ _ (by with_reducible first | exact (cells_new w8 #[.int .i64 0] 3).below (Below.refl _ _).drew | exact cells_new w11 #[.int .i64 0] 3)).mono ?_; rintro e w10 ⟨rfl, hw10⟩; rw [hw10]; clear hw10)
                  | (go_at_call 57; refine (HLE.out _).mono ?_; rintro e w10 ⟨rfl, hw10⟩; rw [hw10]; clear hw10)
                  | (go_at_call 58; refine (HJO.out _).mono ?_; rintro e w10 ⟨rfl, hw10⟩; rw [hw10]; clear hw10)
                  | (go_at_call 55; with_reducible refine (HOFZ.out _ _ (by with_reducible first | exact HB8.out.drew | exact (HB8.out.alloc HB8.out.size (.cells #[.int .i64 0] 3)).drew)).mono ?_; rintro e w11 ⟨rfl, hb11⟩))
                all_goals
                  go_wp2_with fail
                  go_meet
                  case rel =>
                    exact ⟨rfl, rfl, rfl, rfl, Lib.hid (by
                      first
                        | exact (HB8.out.alloc HB8.out.size (.cells #[.int .i64 0] 3)).drew.trans (hb11.mono (HB8.out.alloc HB8.out.size (.cells #[.int .i64 0] 3)).size)
                        | exact (HB8.out.drew.trans (hb11.mono HB8.out.size)).alloc (Nat.le_trans HB8.out.size hb11.size) _)⟩
              · have i4 : ¬ (c : Int) = 1 := by omega
                have i5 : ¬ 1 = c := by omega
                have HTT : Hid (Cells wr (some ⟨ab, ao + 1, none⟩) (nums l')) := Lib.hid (.inr ⟨ab, ao + 1, rfl, hab, HTC.out⟩)
                go_region_with (first
                  | (go_at_call 35; refine (HZ2.out _ _ (by with_reducible first | exact (cells_new w8 #[.int .i64 0] 3).below (Below.refl _ _).drew | exact cells_new w11 #[.int .i64 0] 3)).mono ?_; rintro e w10 ⟨rfl, hw10⟩; rw [hw10]; clear hw10)
                  | (go_at_call 57; refine (HLE.out _).mono ?_; rintro e w10 ⟨rfl, hw10⟩; rw [hw10]; clear hw10)
                  | (go_at_call 58; refine (HJO.out _).mono ?_; rintro e w10 ⟨rfl, hw10⟩; rw [hw10]; clear hw10)
                  | (go_at_call 55; with_reducible refine (HOFT.out _ _ _ (by with_reducible first | exact HB8.out.drew | exact (HB8.out.alloc HB8.out.size (.cells #[.int .i64 0] 3)).drew) HTT.out).mono ?_; rintro e w11 ⟨rfl, hb11⟩))
                all_goals
                  go_wp2_with fail
                  go_meet
                  case rel =>
                    exact ⟨rfl, rfl, rfl, rfl, Lib.hid (by
                      first
                        | exact (HB8.out.alloc HB8.out.size (.cells #[.int .i64 0] 3)).drew.trans (hb11.mono (HB8.out.alloc HB8.out.size (.cells #[.int .i64 0] 3)).size)
                        | exact (HB8.out.drew.trans (hb11.mono HB8.out.size)).alloc (Nat.le_trans HB8.out.size hb11.size) _)⟩
          case rest =>
            obtain ⟨rfl, rfl, rfl, rfl, HBX⟩ := hcut
            rename World => wx
            clear HOFT HTC HLW HB8
            have HHA := Lib.hid fun W => has_any A 0 hA64 W
            have HWI := Lib.hid fun W => with_any (sless A 1) (d : Int) (less_lt _ _ hA64) W
            have HLE := Lib.hid fun W => less_any A 1 hA64 (by decide) W
            have HOFL2 := Lib.hid (HOFL.out wx HBX.out)
            clear HOFL
            cases h0 : shas A 0 with
            | true =>
              have HGO := Lib.hid (show goOnF A (sdig (d : Int)) = sless A 1 ||| sdig (d : Int) from if_pos h0)
              rw [HGO.out] at HAHL
              rw [h0] at HHA
              clear h0
              generalize sless A 1 = LA at *
              go_wp2_with (first
                | (go_at_call 55; with_reducible refine HOFL2.out.mono ?_; rintro e w12 ⟨rfl, hb12⟩; have hB12 := HBX.out.trans (hb12.mono HBX.out.size); have hC12 := hB12.alloc hB12.size (.cells #[.int .i64 0] 3))
                | (go_at_call 49; refine (HHA.out _).mono ?_; rintro e w13 ⟨rfl, hw13⟩; rw [hw13]; clear hw13)
                | (go_at_call 35; refine (HS0.out _).mono ?_; rintro e w13 ⟨rfl, hw13⟩; rw [hw13]; clear hw13)
                | (go_at_call 57; refine (HLE.out _).mono ?_; rintro e w13 ⟨rfl, hw13⟩; rw [hw13]; clear hw13)
                | (go_at_call 59; refine (HWI.out _).mono ?_; rintro e w13 ⟨rfl, hw13⟩; rw [hw13]; clear hw13)
                | (go_at_call 56; with_reducible refine (HAHL.out _ hC12).mono ?_; rintro e w14 ⟨rfl, hb14⟩)
                | (go_at_call 52; refine (wakes6_any _).mono ?_; rintro e w15 ⟨rfl, hb15⟩))
              go_ret
              have h1 := hC12.trans (hb14.mono hC12.size)
              have h2 := HWR.out.trans (h1.mono HWR.out.size)
              exact ⟨rfl, h2.trans (hb15.mono h2.size)⟩
            | false =>
              have HGO := Lib.hid (show goOnF A (sdig (d : Int)) = A from if_neg (by rw [h0]; decide))
              rw [HGO.out] at HAHL
              rw [h0] at HHA
              clear h0
              go_wp2_with (first
                | (go_at_call 55; with_reducible refine HOFL2.out.mono ?_; rintro e w12 ⟨rfl, hb12⟩; have hB12 := HBX.out.trans (hb12.mono HBX.out.size))
                | (go_at_call 49; refine (HHA.out _).mono ?_; rintro e w13 ⟨rfl, hw13⟩; rw [hw13]; clear hw13)
                | (go_at_call 56; with_reducible refine (HAHL.out _ hB12).mono ?_; rintro e w14 ⟨rfl, hb14⟩)
                | (go_at_call 52; refine (wakes6_any _).mono ?_; rintro e w15 ⟨rfl, hb15⟩))
              go_ret
              have h1 := hB12.trans (hb14.mono hB12.size)
              have h2 := HWR.out.trans (h1.mono HWR.out.size)
              exact ⟨rfl, h2.trans (hb15.mono h2.size)⟩
  · as_aux_lemma =>
    go_wp2_with (first
      | (go_at_call 52; refine (wakes6_any _).mono ?_; rintro e w9 ⟨rfl, hb9⟩))
    go_ret
    exact ⟨rfl, HB5.out.trans (hb9.mono HB5.out.size)⟩

end Go.Proofs.Ytmilldclgheiaaa
