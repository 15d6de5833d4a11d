/- WordTells: walked. -/
import Derived.Test.YtflfmcikfiaoiaaPlayGX
import Derived.Test.YtflfmcikfiaoiaaRWords
import Derived.Test.YtflfmcikfiaoiaaNoG
import Derived.Test.YtflfmcikfiaoiaaWake7
import Derived.Test.YtflfmcikfiaoiaaWordC
import Derived.Test.YtflfmcikfiaoiaaWPartF
import Derived.Test.YtflfmcikfiaoiaaAppAll
import Derived.Deep.Cut
import Derived.Deep.QuietTactic
import Derived.BigQuiet
set_option linter.unusedVariables false
namespace Go.Proofs.Ytflfmcikfiaoiaa
open Go.RowKit
open Doc

/-- Of rows as long. -/
theorem compare_bigW (a b : Option Addr) (ca cb : Nat) (x y : List Int) (w : World) (hx : Cells w a (nums x)) (hy : Cells w b (nums y)) (hxl : x.length ≤ 100000000000000) (hl : x.length = y.length) :
    Calls Try.prog 80 #[.slice a x.length ca, .slice b y.length cb] w fun e w' => e = .returned (.int .i64 (Wd.cmpI x y)) ∧ w' = w := by
  have HX := Lib.hid hx
  have HY := Lib.hid hy
  have hlb : ¬ (x.length : Int) < (y.length : Int) := by omega
  clear hx hy
  go_enter Try.func80, Try.ntmps80
  go_wp2
  go_loop [11] (fun i => ∃ k : Nat, k ≤ x.length ∧ i = .int .i64 k ∧ Hid (Wd.cmpI (x.drop k) (y.drop k) = Wd.cmpI x y)) (fun i => x.length - (intOf i).toNat)
  case atStart => exact ⟨0, Nat.zero_le _, rfl, Lib.hid rfl⟩
  case round =>
    obtain ⟨k, hk, rfl, HB⟩ := hrel
    by_cases hlt : k < x.length
    · obtain ⟨u, hu⟩ : ∃ u, x[k]? = some u := ⟨_, List.getElem?_eq_getElem hlt⟩
      obtain ⟨v, hv⟩ : ∃ v, y[k]? = some v := ⟨_, List.getElem?_eq_getElem (by omega)⟩
      obtain ⟨b1, o1, rfl, hb1, hc1⟩ := HX.out.get (by unfold nums; intro e; rw [List.map_eq_nil_iff] at e; rw [e] at hlt; simp at hlt)
      obtain ⟨b2, o2, rfl, hb2, hc2⟩ := HY.out.get (by unfold nums; intro e; rw [List.map_eq_nil_iff] at e; rw [e] at hl; simp only [List.length_nil] at hl; omega)
      have c1 := hc1 k _ (nums_at hu)
      have c2 := hc2 k _ (nums_at hv)
      have e1 : (k : Int) < x.length := by omega
      have e2 : (k : Int) < y.length := by omega
      have e3 : ¬ (y.length : Int) ≤ k := by omega
      have HN := HB.out
      rw [cmp_drop hu hv] at HN
      have HC := Lib.hid (cmp_any u v w)
      clear hc1 hc2 hu hv
      by_cases h1 : u < v
      · rw [if_pos h1] at HN HC
        have HN := Lib.hid HN
        go_wp2_with (go_at_call 112; refine HC.out.mono ?_; rintro e w2 ⟨rfl, rfl⟩)
        go_ret
        exact ⟨by first | rfl | exact ret_int HN.out, rfl⟩
      · by_cases h2 : v < u
        · rw [if_neg h1, if_pos h2] at HN HC
          have HN := Lib.hid HN
          go_wp2_with (go_at_call 112; refine HC.out.mono ?_; rintro e w2 ⟨rfl, rfl⟩)
          go_ret
          exact ⟨by first | rfl | exact ret_int HN.out, rfl⟩
        · rw [if_neg h1, if_neg h2] at HN HC
          have HN := Lib.hid HN
          go_wp2_with (go_at_call 112; refine HC.out.mono ?_; rintro e w2 ⟨rfl, rfl⟩)
          exact ⟨⟨k + 1, by omega, by go_num, HN⟩, by simp [intOf]; omega⟩
    · have HN := HB.out
      rw [List.drop_eq_nil_of_le (by omega), List.drop_eq_nil_of_le (by omega)] at HN
      have e1 : ¬ (k : Int) < x.length := by omega
      have HN := Lib.hid HN
      go_wp2
      go_ret
      exact ⟨ret_int (show (0 : Int) = _ from HN.out), rfl⟩

theorem wless_bigW (a b : Option Addr) (ca cb : Nat) (x y : List Int) (w : World) (hx : Cells w a (nums x)) (hy : Cells w b (nums y)) (hxl : x.length ≤ 100000000000000) (hyl : y.length ≤ 100000000000000) :
    Calls Try.prog 35 #[.slice a x.length ca, .slice b y.length cb] w fun e w' => e = .returned (.bool (Wd.lessI x y)) ∧ w' = w := by
  by_cases hl : x.length = y.length
  · have hlb : ((x.length : Int) != (y.length : Int)) = false := by simp [hl]
    have HC := Lib.hid (compare_bigW a b ca cb x y w hx hy hxl hl)
    have HR := Lib.hid (show decide (Wd.cmpI x y < 0) = Wd.lessI x y by
      unfold Wd.lessI; rw [if_pos hl, Bool.eq_iff_iff, decide_eq_true_eq]; exact Wd.cmp_lex x y hl)
    clear hx hy hl
    go_enter Try.func35, Try.ntmps35
    go_wp2_with (go_at_call 80; refine HC.out.mono ?_; rintro e w2 ⟨rfl, rfl⟩)
    go_ret
    exact ⟨ret_bool HR.out, rfl⟩
  · have hlb : ((x.length : Int) != (y.length : Int)) = true := by simp; omega
    have HR := Lib.hid (show decide (x.length < y.length) = Wd.lessI x y by
      unfold Wd.lessI; rw [if_neg hl])
    clear hx hy hl
    go_enter Try.func35, Try.ntmps35
    go_wp2
    go_ret
    exact ⟨ret_bool HR.out, rfl⟩

theorem check_docW (v : Value) (g : Gr) (w : World) (hg : GramAt w v g) (hm : MidG g) :
    Calls Try.prog 20 #[v] w fun e w' => e = .returned (.bool (okB g)) ∧ Below w.heap.size w w' :=
  check_any rname_any v g w hg (by have := hm.t.1; omega) (by have := hm.n.1; omega) (by have := hm.p.1; omega) (fun p hp => by have := (hm.p.2 p hp).2.1; omega) (fun x hx => by
    rcases List.mem_append.1 hx with h | h
    · have := hm.t.2 x h; omega
    · have := hm.n.2 x h; omega)
theorem ofInt_natW (n : Nat) : floatOfInt .f64 (n : Int) = Fl.ofNat n := by
  show Ieee.double.nearest (decide ((n : Int) < 0)) (n : Int).natAbs 0 = _
  rw [decide_eq_false (by omega), Int.natAbs_natCast]; rfl
theorem ord_selfW (x : Nat) (h : x ≤ Fl.inf) : (FloatKind.f64.format.order x x != some .eq) = false := by
  have := Fl.order_le x x h h
  show (Ieee.double.order x x != some .eq) = false
  rw [this, Nat.compare_eq_eq.2 rfl]; rfl
theorem ord_infW : FloatKind.f64.format.order (Wd.fc none) 9094988921128908188 = some .gt := by decide
theorem short_W {g : Gr} (h : CheckG g) : Wd.Short (Wd.leastF g) 1679616 := fun k w hk => by
  have h1 := Wd.short_iter (lefts_in h) (fun p hp => (h.pv p hp).2.1) g.nons.length k w hk
  have h2 : 6 ^ g.nons.length ≤ 6 ^ 8 := Nat.pow_le_pow_right (by decide) h.n8
  omega
theorem co_mapW (L : Wd.Kn) (i : Nat) : Wd.co (L.map (Option.map List.length)) i = (Wd.known L i).map List.length := by
  unfold Wd.co Wd.known
  rw [List.getElem?_map]
  cases L[i]? with
  | none => rfl
  | some x => cases x <;> rfl
theorem less_selfW (x : List Int) : Wd.lessI x x = false := Wd.le_refl x

set_option maxRecDepth 100000 in
set_option maxHeartbeats 32000000 in
theorem wordTells_walk (x : RawX) (la lb : Option Addr) (lc ld : Nat) (r1 r2 : List Int) (w : World) (hx : RawAt w x) (hwd : RawWide x) (hl : Cells w la (nums r1)) (hl2 : Cells w lb (nums r2)) (hrl : r1.length ≤ 17592186043904) (hrl2 : r2.length ≤ 17592186043904) : Calls Try.prog 6 #[x.v, .slice la r1.length lc, .slice lb r2.length ld] w fun e w' => e = .returned (.bool true) ∧ Below w.heap.size w w' := by
  have HL := Lib.hid hl
  have HL2 := Lib.hid hl2
  have HRL1 := Lib.hid hrl
  have HRL2 := Lib.hid hrl2
  clear hl hl2 hrl hrl2
  have hGR := Lib.hid (fun W h => grammar_any x W h hwd)
  have HX := Lib.hid hx
  clear hx hwd
  obtain ⟨xp, xt, xn, xh, rows, xa, xc, word⟩ := x
  unfold RawX.v at *
  simp only at *
  have hb0 : Below w.heap.size w (w.alloc (.cells #[.int .i64 xp, .int .i64 xt, .int .i64 xn, .int .i64 xh, .slice xa rows.length xc, .string word] 24)) := (Below.refl _ _).alloc (Nat.le_refl _) _
  have HA1 := Lib.hid (hGR.out _ (HX.out.below hb0))
  have HB0 := Lib.hid hb0
  clear hGR hb0
  go_enter Try.func6, Try.ntmps6
  go_upto_region 2 with (go_at_call 18; refine HA1.out.mono ?_; rintro e w1 ⟨hb1, at_, an, ap, n1, n2, n3, ct, cn, cp, g, rfl, hg1, hm⟩)
  have hbA := (HB0.out.trans (hb1.mono HB0.out.size)).alloc (Nat.le_trans HB0.out.size hb1.size) (.cells #[.slice at_ n1 ct, .slice an n2 cn, .slice ap n3 cp] 28)
  have hbS : Below w1.heap.size w1 (w1.alloc (.cells #[.slice at_ n1 ct, .slice an n2 cn, .slice ap n3 cp] 28)) := (Below.refl _ _).alloc (Nat.le_refl _) _
  have q0 := heap_alloc_new w1 (.cells #[.slice at_ n1 ct, .slice an n2 cn, .slice ap n3 cp] 28)
  have HG := Lib.hid (hg1.below hbS)
  have HBA := Lib.hid hbA
  have HQ0 := Lib.hid q0
  have HM := Lib.hid hm
  clear hb1 hg1 hbA hbS q0 HA1 HX HB0 hm
  generalize w1.alloc (.cells #[.slice at_ n1 ct, .slice an n2 cn, .slice ap n3 cp] 28) = S at *
  generalize w1.heap.size = B1 at *
  have l1 := heap_lt HQ0.out
  have hSK : ∀ W, Below S.heap.size S W → (W.cell? ⟨B1, 0, none⟩ = some (.slice at_ n1 ct) ∧ W.cell? ⟨B1, 1, none⟩ = some (.slice an n2 cn) ∧ W.cell? ⟨B1, 2, none⟩ = some (.slice ap n3 cp)) ∧ B1 < W.heap.size := fun W hb => by
    have q := (hb.block B1 l1).trans HQ0.out
    exact ⟨⟨(blk_cell q rfl).1, (blk_cell q rfl).1, (blk_cell q rfl).1⟩, heap_lt q⟩
  have HSK := Lib.hid hSK
  have HDC := Lib.hid fun W (hW : Below S.heap.size S W) => check_docW _ g W (HG.out.below hW) HM.out
  have HWK := Lib.hid fun W => wakes7_any W
  have HLS : Hid (∀ W, Below S.heap.size S W → Calls Try.prog 35 #[.slice la r1.length lc, .slice lb r2.length ld] W fun e w' => e = .returned (.bool (Wd.lessI r1 r2)) ∧ w' = W) := Lib.hid fun W hW => wless_bigW la lb lc ld r1 r2 W (HL.out.below (HBA.out.trans (hW.mono HBA.out.size))) (HL2.out.below (HBA.out.trans (hW.mono HBA.out.size))) (by have := HRL1.out; omega) (by have := HRL2.out; omega)
  have HLT : Hid (∀ W, Below S.heap.size S W → Calls Try.prog 35 #[.slice la r1.length lc, .slice la r1.length lc] W fun e w' => e = .returned (.bool false) ∧ w' = W) := Lib.hid fun W hW => (wless_bigW la la lc lc r1 r1 W (HL.out.below (HBA.out.trans (hW.mono HBA.out.size))) (HL.out.below (HBA.out.trans (hW.mono HBA.out.size))) (by have := HRL1.out; omega) (by have := HRL1.out; omega)).mono fun e w' ⟨he, hw⟩ => (⟨he.trans (by rw [less_selfW]), hw⟩ : e = Ending.returned (.bool false) ∧ w' = W)
  have HLR : Hid (∀ W, Below S.heap.size S W → Calls Try.prog 36 #[.slice la r1.length lc, .slice lb r2.length ld] W fun e w' => e = .returned (.bool (Wd.lessI r1 r2)) ∧ Below W.heap.size W w') := Lib.hid fun W hW => (rless_any la lb lc ld r1 r2 W (HL.out.below (HBA.out.trans (hW.mono HBA.out.size))) (HL2.out.below (HBA.out.trans (hW.mono HBA.out.size))) (by have := HRL1.out; omega) (by have := HRL2.out; omega)).mono fun e w' ⟨he, n, hw⟩ => (⟨he, by rw [hw]; exact below_drews (Below.refl _ _) _⟩ : e = Ending.returned (.bool (Wd.lessI r1 r2)) ∧ Below W.heap.size W w')
  generalize Wd.lessI r1 r2 = bl at *
  have hbl : (bl != bl) = false := by cases bl <;> rfl
  obtain ⟨⟨c0, c1, c2⟩, l1'⟩ := hSK S (Below.refl _ _)
  clear hSK
  have hn12 : n1 = g.terms.length ∧ n2 = g.nons.length := by
    obtain ⟨_, _, _, _, _, _, ls, hv, _⟩ := HG.out
    simp only [Value.agg.injEq, Array.mk.injEq, List.cons.injEq, Value.slice.injEq] at hv
    exact ⟨hv.1.2.1, hv.2.1.2.1⟩
  obtain ⟨rfl, rfl⟩ := hn12
  by_cases hc : CheckG g
  · have HCK := Lib.hid hc
    have hok := (okB_iff g).2 hc
    rw [hok] at HDC
    have hn8 := hc.n8
    have hn1 := hc.n1
    have HSH := Lib.hid (short_W hc)
    have HLI := Lib.hid (Wd.least_is (lefts_in hc))
    have HLE := Lib.hid (least_any _ g S HG.out hc)
    have HCO := Lib.hid fun W (hW : Below S.heap.size S W) => costs_any _ g W (HG.out.below hW) HCK.out
    have HRW := Lib.hid fun W (hW : Below S.heap.size S W) => rwords_any _ g W (HG.out.below hW) HCK.out
    clear hc hok
    go_upto_region 3 with (go_at_call 33; refine HLE.out.mono ?_; rintro e w3 ⟨hb3, b, rws, rfl, hkn, hrl, hout, hbb⟩)
    clear c0 c1 c2 l1' HLE
    obtain ⟨⟨c0, c1, c2⟩, l1'⟩ := HSK.out w3 hb3
    have HB3 := Lib.hid hb3
    have HCO3 := Lib.hid (HCO.out w3 hb3)
    clear HCO hb3
    go_upto_region 4 with (go_at_call 34; refine HCO3.out.mono ?_; rintro e w4 ⟨hb4, Cb, rfl, hfat, hCb⟩)
    have HB4 := Lib.hid (HB3.out.trans (hb4.mono HB3.out.size))
    have HOUT4 := Lib.hid (hout.below hb4)
    have HKN := Lib.hid hkn
    have HRL := Lib.hid hrl
    have HFAT4 := Lib.hid hfat
    clear HCO3 hb4 hout hfat hkn hrl hbb hCb c0 c1 c2 l1'
    go_upto_region 6 with (first
      | (go_at_call 35; first
          | (with_reducible refine (HLS.out _ HB4.out).mono ?_; rintro e w9 ⟨rfl, hw9⟩; obtain rfl := hw9.symm)
          | (with_reducible refine (HLT.out _ (HB4.out.trans (hb5.mono HB4.out.size))).mono ?_; rintro e w9 ⟨rfl, hw9⟩; obtain rfl := hw9.symm))
      | (go_at_call 36; with_reducible refine (HLR.out _ HB4.out).mono ?_; rintro e w5 ⟨rfl, hb5⟩))
    have HB5 := Lib.hid (HB4.out.trans (hb5.mono HB4.out.size))
    obtain ⟨⟨c0, c1, c2⟩, l5'⟩ := HSK.out _ HB5.out
    have HOUT5 := Lib.hid (HOUT4.out.below hb5)
    have HFAT5 : Hid (FAt w5 Cb ((Wd.leastF g).map (Option.map List.length))) := Lib.hid ((hb5.block Cb (heap_lt HFAT4.out)).trans HFAT4.out)
    have HDC5 := Lib.hid (HDC.out _ HB5.out)
    clear hb5 HOUT4 HFAT4 HLS HLT HLR HDC hbl
    go_upto_region 8 with (go_at_call 20; refine HDC5.out.mono ?_; rintro e w6 ⟨rfl, hb6⟩)
    have HB6 := Lib.hid (HB5.out.trans (hb6.mono HB5.out.size))
    have HOUT6 := Lib.hid (HOUT5.out.below hb6)
    have HFAT6 : Hid (FAt w6 Cb ((Wd.leastF g).map (Option.map List.length))) := Lib.hid ((hb6.block Cb (heap_lt HFAT5.out)).trans HFAT5.out)
    have HRW6 := Lib.hid (HRW.out _ HB6.out)
    clear c0 c1 c2 l5' hb6 HOUT5 HFAT5 HDC5 HRW
    obtain ⟨⟨c0, c1, c2⟩, l6'⟩ := HSK.out _ HB6.out
    go_upto_region 9 with (go_at_call 38; refine HRW6.out.mono ?_; rintro e w7 ⟨hb7, WB, HB, ls2, rfl, hws, hk2, hl2⟩)
    have HB7 := Lib.hid (HB6.out.trans (hb7.mono HB6.out.size))
    have HOUT7 := Lib.hid (HOUT6.out.below hb7)
    have HFAT7 : Hid (FAt w7 Cb ((Wd.leastF g).map (Option.map List.length))) := Lib.hid ((hb7.block Cb (heap_lt HFAT6.out)).trans HFAT6.out)
    have HWS := Lib.hid hws
    have HK2 := Lib.hid hk2
    have HL2N := Lib.hid hl2
    clear c0 c1 c2 l6' hb7 hws hk2 hl2 HOUT6 HFAT6 HRW6
    generalize Wd.leastF g = L at *
    go_upto_region 12 with fail
    go_loopw [88] (fun i wr => ∃ j : Nat, j ≤ g.nons.length ∧ i = .int .i64 j ∧ Hid (Below w7.heap.size w7 wr)) (fun i _ => g.nons.length - (intOf i).toNat)
    case atStart => exact ⟨0, by omega, rfl, Lib.hid (Below.refl _ _)⟩
    case round =>
      rename World => wr
      obtain ⟨j, hj, rfl, HBR⟩ := hrel
      have HOUT := Lib.hid (HOUT7.out.below HBR.out)
      have HFAT : Hid (FAt wr Cb (L.map (Option.map List.length))) := Lib.hid ((HBR.out.block Cb (heap_lt HFAT7.out)).trans HFAT7.out)
      have HWR := Lib.hid (HWS.out.keep HBR.out)
      by_cases hjl : j < g.nons.length
      · have e1 : (j : Int) < g.nons.length := by omega
        obtain ⟨p, hp⟩ : ∃ p, rws[j]? = some p := ⟨_, List.getElem?_eq_getElem (by rw [HRL.out]; exact hjl)⟩
        obtain ⟨p2, hp2⟩ : ∃ p, ls2[j]? = some p := ⟨_, List.getElem?_eq_getElem (by rw [HL2N.out]; exact hjl)⟩
        obtain ⟨g1, g2, g3⟩ := rs_atW HOUT.out.z hp
        obtain ⟨k1, k2, k3⟩ := rs_atW HWR.out.z hp2
        rw [HKN.out] at g1 g2 g3
        rw [HK2.out] at k1 k2 k3
        have hwd : p2.word = p.word := k2.symm.trans g2
        have hkd : p2.known = p.known := k3.symm.trans g3
        have x0 := (blk_cell (i := j) (u := .slice p.addr p.word.length p.cap) HOUT.out.q (by rw [List.getElem?_toArray, List.getElem?_map, hp]; rfl)).1
        have x2 := heap_lt HOUT.out.q
        obtain ⟨t0, _, t2, _, t4, t5⟩ := HWR.out.cells hp2
        have hLn : j < (L.map (Option.map List.length)).length := by rw [List.length_map, HLI.out.len]; exact hjl
        have y0 := (blk_cell (i := j) (u := .float .f64 (Wd.fc (Wd.co (L.map (Option.map List.length)) j))) HFAT.out (by rw [List.getElem?_toArray]; exact flC_at hLn)).1
        have y2 := heap_lt HFAT.out
        rw [co_mapW, g1] at y0
        have hpl : p.word.length ≤ 1679616 := by
          rw [← g2]
          cases hk3 : Wd.known L j with
          | none => simp
          | some w2 => exact HSH.out j w2 hk3
        have HSM := Lib.hid fun a => (keepSame2_any p.addr p2.addr p.cap p2.cap p.word p.word (wr.drewN a) ((HOUT.out.r p (List.mem_of_getElem? hp)).below (below_drews (Below.refl _ _) a)) (by have h := (HWR.out.r p2 (List.mem_of_getElem? hp2)).below (below_drews (Below.refl wr.heap.size wr) a); rw [hwd] at h; exact h) (by omega) (by omega)).mono fun e w' ⟨he, n, hw⟩ => (⟨he.trans (by rw [decide_eq_true rfl]), a + n, by rw [hw]; simp⟩ : e = Ending.returned (.bool true) ∧ ∃ n, w' = wr.drewN n)
        rw [hwd] at t0
        rw [hkd] at t2
        have hz := HOUT.out.z p (List.mem_of_getElem? hp)
        obtain ⟨u, pk, ra, rc⟩ := p
        obtain ⟨u2, pk2, ra2, rc2⟩ := p2
        simp only at x0 t0 t2 y0 hpl HSM hz
        clear hp hp2 g1 g2 g3 k1 k2 k3 hwd hkd hLn
        cases pk
        · obtain rfl := hz rfl
          have hord := ord_infW
          replace y0 : wr.cell? ⟨Cb, j, none⟩ = some (.float .f64 (Wd.fc none)) := y0
          generalize Wd.fc none = zc at *
          replace x0 : wr.cell? ⟨b, j, none⟩ = some (.slice ra 0 rc) := x0
          replace HSM : Hid (∀ a, Calls Try.prog 32 #[.slice ra 0 rc, .slice ra2 0 rc2] (wr.drewN a) fun e w' => e = Ending.returned (.bool true) ∧ ∃ n, w' = wr.drewN n) := HSM
          replace t0 : wr.cell? ⟨WB, j, none⟩ = some (.slice ra2 0 rc2) := t0
          clear hz hpl
          go_upto_region 14 with fail
          go_quiet ((go_at_call 32; exact HSM.out _))
          go_wp2
          exact ⟨⟨j + 1, by omega, by go_num, Lib.hid (below_drews HBR.out nq)⟩, by simp [intOf]; omega⟩
        · have hfo : floatOfInt .f64 (u.length : Int) = Fl.ofNat u.length := ofInt_natW _
          have hord := ord_selfW (Fl.ofNat u.length) (by rw [Fl.ofNat_R]; exact Fl.R_le _)
          replace y0 : wr.cell? ⟨Cb, j, none⟩ = some (.float .f64 (Fl.ofNat u.length)) := y0
          generalize Fl.ofNat u.length = zc at *
          clear hz
          go_upto_region 14 with fail
          go_quiet ((go_at_call 32; exact HSM.out _))
          go_wp2
          exact ⟨⟨j + 1, by omega, by go_num, Lib.hid (below_drews HBR.out nq)⟩, by simp [intOf]; omega⟩
      · have e1 : ¬ (j : Int) < g.nons.length := by omega
        go_wp2_with (go_at_call 37; refine (HWK.out _).mono ?_; rintro e w8 ⟨rfl, hb8⟩)
        go_ret
        exact ⟨rfl, HBA.out.trans ((HB7.out.trans ((HBR.out.trans (hb8.mono HBR.out.size)).mono HB7.out.size)).mono HBA.out.size)⟩
  · have hno : okB g = false := by rw [Bool.eq_false_iff]; exact fun h => hc ((okB_iff g).1 h)
    rw [hno] at HDC
    have HNL := Lib.hid (wleast_no _ g S HG.out HM.out hc)
    have HNC := Lib.hid fun W (hW : Below S.heap.size S W) => wcosts_no _ g W (HG.out.below hW) HM.out hc
    clear hc hno HG HM HQ0
    go_wp2_with (first
      | (go_at_call 33; refine HNL.out.mono ?_; rintro e w2 ⟨rfl, hb2⟩; obtain ⟨⟨c0, c1, c2⟩, l2'⟩ := HSK.out _ hb2)
      | (go_at_call 34; refine (HNC.out _ hb2).mono ?_; rintro e w3 ⟨rfl, hk3⟩; have hb3 := hb2.trans (hk3.mono hb2.size); obtain ⟨⟨c0, c1, c2⟩, l3'⟩ := HSK.out _ hb3)
      | (go_at_call 35; first
          | (with_reducible refine (HLS.out _ hb3).mono ?_; rintro e w9 ⟨rfl, hw9⟩; obtain rfl := hw9.symm)
          | (with_reducible refine (HLT.out _ hb5).mono ?_; rintro e w9 ⟨rfl, hw9⟩; obtain rfl := hw9.symm))
      | (go_at_call 36; with_reducible refine (HLR.out _ hb3).mono ?_; rintro e w5 ⟨rfl, hk5⟩; have hb5 := hb3.trans (hk5.mono hb3.size); obtain ⟨⟨c0, c1, c2⟩, l5'⟩ := HSK.out _ hb5)
      | (go_at_call 20; refine (HDC.out _ hb5).mono ?_; rintro e w6 ⟨rfl, hk6⟩; have hb6 := hb5.trans (hk6.mono hb5.size))
      | (go_at_call 37; refine (HWK.out _).mono ?_; rintro e w7 ⟨rfl, hk7⟩; have hb7 := hb6.trans (hk7.mono hb6.size)))
    go_ret
    exact ⟨rfl, HBA.out.trans (hb7.mono HBA.out.size)⟩
end Go.Proofs.Ytflfmcikfiaoiaa
