/- WordLeast: walked. -/
import Derived.Test.YtflfmcikfiaoiaaSpanR
import Derived.Test.YtflfmcikfiaoiaaSpanW
import Derived.Test.YtflfmcikfiaoiaaAllW
import Derived.Test.YtflfmcikfiaoiaaWPartF
import Derived.Test.YtflfmcikfiaoiaaWordC
import Derived.Test.YtflfmcikfiaoiaaWake7
import Derived.Deep.Cut
set_option linter.unusedVariables false
namespace Go.Proofs.Ytflfmcikfiaoiaa
open Go.RowKit
open Doc

theorem any_nonsL (x : RawX) : x.any.nons.length ≤ 3 := by
  have h := (anyF_ok x.terms x.nons x.plain).1
  show (anyF x.terms x.nons x.plain).nons.length ≤ 3
  rw [h.no, List.length_take]
  simp; omega
theorem rs_atL {rs : List WL} {L : Wd.Kn} (hk : kn rs = L) (hz : ∀ p ∈ rs, p.known = false → p.word = []) {i : Nat} {p : WL} (hp : rs[i]? = some p) : Wd.known L i = p.opt ∧ (Wd.known L i).getD [] = p.word ∧ (Wd.known L i).isSome = p.known := by
  have h := known_kn hp
  rw [hk] at h
  refine ⟨h, ?_, ?_⟩
  · rw [h]; unfold WL.opt
    cases hpk : p.known with
    | true => rfl
    | false => exact (hz p (List.mem_of_getElem? hp) hpk).symm
  · rw [h]; unfold WL.opt
    cases p.known <;> rfl
theorem short_anyL {g : Gr} (h : CheckG g) (hn : g.nons.length ≤ 3) : Wd.Short (Wd.leastF g) 216 := fun k w hk => by
  have h1 := Wd.short_iter (lefts_in h) (fun p hp => (h.pv p hp).2.1) g.nons.length k w hk
  have h2 : 6 ^ g.nons.length ≤ 6 ^ 3 := Nat.pow_le_pow_right (by decide) hn
  omega
theorem co_mapL (L : Wd.Kn) (i : Nat) : Wd.co (L.map (Option.map List.length)) i = (Wd.known L i).map List.length := by
  unfold Wd.co Wd.known
  rw [List.getElem?_map]
  cases L[i]? with
  | none => rfl
  | some x => cases x <;> rfl


set_option maxRecDepth 100000 in
set_option maxHeartbeats 16000000 in
theorem wordLeast_walk (x : RawX) (w : World) (hx : RawAt w x) : Calls Try.prog 7 #[x.v] w fun e w' => e = .returned (.bool true) ∧ Below w.heap.size w w' := by
  have hck : CheckG x.any := anyF_check x.terms x.nons x.plain
  have hAN := Lib.hid (fun W h => any_gram x W h)
  have HCK := Lib.hid hck
  have hn3 := any_nonsL x
  have ht8 := hck.t8
  have hn8 := hck.n8
  have hn1 := hck.n1
  have ht1 := hck.t1
  have hp24 := hck.p24
  generalize hgg : x.any = g at *
  have HX := Lib.hid hx
  clear hx hck hgg
  obtain ⟨xp, xt, xn, xh, rows, xa, xc, word⟩ := x
  unfold RawX.v at *
  simp only at *
  have hb0 : Below w.heap.size w (w.alloc (.cells #[.int .i64 xp, .int .i64 xt, .int .i64 xn, .int .i64 xh, .slice xa rows.length xc, .string word] 24)) := (Below.refl _ _).alloc (Nat.le_refl _) _
  have HA1 := Lib.hid (hAN.out _ (HX.out.below hb0))
  have HB0 := Lib.hid hb0
  clear hAN hb0
  go_enter Try.func7, Try.ntmps7
  go_upto_region 2 with (go_at_call 10; refine HA1.out.mono ?_; rintro e w1 ⟨hb1, at_, an, ap, ct, cn, cp, ls, rfl, hg1, hls, hc1, hr1⟩)
  have hbA := (HB0.out.trans (hb1.mono HB0.out.size)).alloc (Nat.le_trans HB0.out.size hb1.size) (.cells #[.slice at_ g.terms.length ct, .slice an g.nons.length cn, .slice ap ls.length cp] 28)
  have hbS : Below w1.heap.size w1 (w1.alloc (.cells #[.slice at_ g.terms.length ct, .slice an g.nons.length cn, .slice ap ls.length cp] 28)) := (Below.refl _ _).alloc (Nat.le_refl _) _
  have q0 := heap_alloc_new w1 (.cells #[.slice at_ g.terms.length ct, .slice an g.nons.length cn, .slice ap ls.length cp] 28)
  have HG := Lib.hid (hg1.below hbS)
  have HBA := Lib.hid hbA
  have HQ0 := Lib.hid q0
  clear hb1 hg1 hls hc1 hr1 hbA hbS q0 HA1 HX HB0
  generalize w1.alloc (.cells #[.slice at_ g.terms.length ct, .slice an g.nons.length cn, .slice ap ls.length cp] 28) = S at *
  generalize w1.heap.size = B1 at *
  have l1 := heap_lt HQ0.out
  have hSK : ∀ W, Below S.heap.size S W → (W.cell? ⟨B1, 0, none⟩ = some (.slice at_ g.terms.length ct) ∧ W.cell? ⟨B1, 1, none⟩ = some (.slice an g.nons.length cn) ∧ W.cell? ⟨B1, 2, none⟩ = some (.slice ap ls.length cp)) ∧ B1 < W.heap.size := fun W hb => by
    have q := (hb.block B1 l1).trans HQ0.out
    exact ⟨⟨(blk_cell q rfl).1, (blk_cell q rfl).1, (blk_cell q rfl).1⟩, heap_lt q⟩
  have HSK := Lib.hid hSK
  clear hSK
  have HSH := Lib.hid (short_anyL HCK.out hn3)
  have HLI := Lib.hid (Wd.least_is (lefts_in HCK.out))
  have HLE := Lib.hid (least_any _ g S HG.out HCK.out)
  have HCO := Lib.hid fun W (hW : Below S.heap.size S W) => costs_any _ g W (HG.out.below hW) HCK.out
  obtain ⟨⟨c0, c1, c2⟩, l1'⟩ := HSK.out S (Below.refl _ _)
  go_upto_region 3 with (go_at_call 33; refine HLE.out.mono ?_; rintro e w3 ⟨hb3, b, rws, rfl, hkn, hrl, hout, hbb⟩)
  clear c0 c1 c2 l1' HLE
  obtain ⟨⟨c0, c1, c2⟩, l1'⟩ := HSK.out w3 hb3
  have HCO3 := Lib.hid (HCO.out w3 hb3)
  clear HCO
  go_upto_region 6 with (go_at_call 34; refine HCO3.out.mono ?_; rintro e w5 ⟨hb4, Cb, rfl, hfat, hCb⟩)
  have hbw0 := hb3.trans (hb4.mono hb3.size)
  have hbw := Lib.hid hbw0
  obtain ⟨⟨d0, d1, d2⟩, l5⟩ := HSK.out w5 hbw0
  have HOUT := Lib.hid (hout.below hb4)
  have HKN := Lib.hid hkn
  have HRL := Lib.hid hrl
  have HFAT := Lib.hid hfat
  clear hbw0 HCO3 hb3 hb4 hout hfat hkn hrl hbb hCb c0 c1 c2 l1'
  generalize Wd.leastF g = L at *
  have HGW := Lib.hid (HG.out.below hbw.out)
  have HBW := Lib.hid (HBA.out.trans (hbw.out.mono HBA.out.size))
  have hlw := (HSK.out w5 hbw.out).2
  have hqw := (hbw.out.block B1 l1).trans HQ0.out
  have HQW := Lib.hid hqw
  have hps : ∀ p ∈ g.prods, (-1000000 ≤ p.1 ∧ p.1 ≤ 1000000) ∧ p.2.length ≤ 100000 ∧ ∀ s ∈ p.2, -1000000 ≤ s ∧ s ≤ 1000000 := fun p hp => by
    have h := HCK.out.pv p hp
    refine ⟨by omega, by omega, fun s hs => ?_⟩
    have := h.2.2 s hs
    unfold symOk at this
    omega
  have HPS := Lib.hid hps
  have HALL : Hid (∀ W, Calls Try.prog 13 #[.int .i64 g.terms.length, .int .i64 3] W fun e w' => Below W.heap.size W w' ∧ AllEnd W.heap.size g.terms.length 3 e w') := Lib.hid fun W => all_any g.terms.length 3 (by omega) (by omega) W
  have HWK := Lib.hid fun W => wakes7_any W
  clear hbw hqw hps HSK HG l1 HQ0 HBA l5
  rename World => W5
  go_upto_region 9 with fail
  go_loopw [43] (fun i wr => ∃ k : Nat, k ≤ g.nons.length ∧ i = .int .i64 k ∧ Hid (Below W5.heap.size W5 wr)) (fun i _ => g.nons.length - (intOf i).toNat)
  case atStart => exact ⟨0, by omega, rfl, Lib.hid (Below.refl _ _)⟩
  case round =>
    obtain ⟨k, hk, rfl, HBR⟩ := hrel
    by_cases hkl : k < g.nons.length
    · obtain ⟨p, hp⟩ : ∃ p, rws[k]? = some p := ⟨_, List.getElem?_eq_getElem (by rw [HRL.out]; exact hkl)⟩
      have hpm := List.mem_of_getElem? hp
      obtain ⟨g1, g2, g3⟩ := rs_atL HKN.out HOUT.out.z hp
      have hoy := HOUT.out.below HBR.out
      have x0 := (blk_cell (i := k) (u := .slice p.addr p.word.length p.cap) hoy.q (by rw [List.getElem?_toArray, List.getElem?_map, hp]; rfl)).1
      have x2 := heap_lt hoy.q
      have hpc := hoy.r p hpm
      have hfy : FAt wr Cb (L.map (Option.map List.length)) := (HBR.out.block Cb (heap_lt HFAT.out)).trans HFAT.out
      have hLn : k < (L.map (Option.map List.length)).length := by rw [List.length_map, HLI.out.len]; exact hkl
      have y0 := (blk_cell (i := k) (u := .float .f64 (Wd.fc (Wd.co (L.map (Option.map List.length)) k))) hfy (by rw [List.getElem?_toArray]; exact flC_at hLn)).1
      have y2 := heap_lt hfy
      have hcs := (Wd.cost_side (x := Wd.co (L.map (Option.map List.length)) k) (fun v hv => by
        rw [co_mapL] at hv
        cases hk2 : Wd.known L k with
        | none => rw [hk2] at hv; cases hv
        | some w2 => rw [hk2] at hv; cases hv; have := HSH.out k w2 hk2; omega)).2
      have hcoS : (Wd.co (L.map (Option.map List.length)) k).isSome = p.known := by rw [co_mapL, Option.isSome_map]; exact g3
      rw [hcoS] at hcs
      have hcs : (FloatKind.f64.format.order (Wd.fc (Wd.co (L.map (Option.map List.length)) k)) 9094988921128908188 == some .gt) = !p.known := hcs
      have hpl : p.word.length ≤ 216 := by
        rw [← g2]
        cases hk2 : Wd.known L k with
        | none => simp
        | some w2 => exact HSH.out k w2 hk2
      have e1 : (k : Int) < g.nons.length := by omega
      have HINV : Hid (p.known = true → Wd.Der g.prods [100 + (k : Int)] p.word) := Lib.hid fun hkk => by
        have : Wd.known L k = some p.word := by rw [g1]; unfold WL.opt; rw [if_pos hkk]
        exact (HLI.out.inv k _ this).1
      have HPC := Lib.hid hpc
      obtain ⟨u, pk, ra, rc⟩ := p
      simp only at x0 HPC hcs hpl HINV
      generalize Wd.fc (Wd.co (L.map (Option.map List.length)) k) = zc at *
      clear hoy hfy hLn g1 g2 g3 hp hpm hcoS hpc
      cases pk
      · have hcs : (FloatKind.f64.format.order zc 9094988921128908188 == some .gt) = true := hcs
        go_wp2
        exact ⟨⟨k + 1, by omega, by go_num, HBR⟩, by simp [intOf]; omega⟩
      · have hcs : (FloatKind.f64.format.order zc 9094988921128908188 == some .gt) = false := hcs
        have HD := Lib.hid (HINV.out rfl)
        clear HINV
        by_cases h12 : (12 : Int) < u.length
        · go_wp2_with (go_at_call 37; refine (HWK.out _).mono ?_; rintro e w8 ⟨rfl, hb8⟩)
          go_ret
          exact ⟨rfl, HBW.out.trans ((HBR.out.trans (hb8.mono HBR.out.size)).mono HBW.out.size)⟩
        · have HSP := Lib.hid (spans_any _ g ra rc u wr (HGW.out.below HBR.out) HPC.out (by omega) (by omega) HPS.out)
          have hq := (HBR.out.block B1 hlw).trans HQW.out
          have z0 := (blk_cell (i := 0) (u := .slice at_ g.terms.length ct) hq rfl).1
          have z1 := (blk_cell (i := 1) (u := .slice an g.nons.length cn) hq rfl).1
          have z2 := (blk_cell (i := 2) (u := .slice ap ls.length cp) hq rfl).1
          have z3 := heap_lt hq
          clear hq
          go_wp2_with (first
            | (go_at_call 14; refine HSP.out.mono ?_; rintro e w7 ⟨hb7, BS, BH, H, rfl, hsp, his, hBS, hBH⟩)
            | (go_at_call 15; refine (can_any BS BH ra rc u H (100 + (k : Int)) 0 u.length w7 hsp (by omega) (by omega) (by omega) (by omega) (by omega)).mono ?_; rintro e w8 ⟨⟨bb, rfl, hb⟩, rfl⟩; obtain rfl : bb = true := hb.2 (by rw [his.can (Nat.zero_le _) (Nat.le_refl _), Sp.seg_all]; exact Sp.of_der HD.out)))
          exact ⟨⟨k + 1, by omega, by go_num, Lib.hid (HBR.out.trans (hb7.mono HBR.out.size))⟩, by simp [intOf]; omega⟩
    · have e1 : ¬ (k : Int) < g.nons.length := by omega
      have hq := (HBR.out.block B1 hlw).trans HQW.out
      have z0 := (blk_cell (i := 0) (u := .slice at_ g.terms.length ct) hq rfl).1
      have z3 := heap_lt hq
      have y0 : True := trivial
      clear hq
      go_upto_region 16 with (go_at_call 13; refine (HALL.out _).mono ?_; rintro e w6 ⟨hb6, ga, gcap, rs, rfl, hrs, hat⟩)
      have HB6 := Lib.hid (HBR.out.trans (hb6.mono HBR.out.size))
      have HAT := Lib.hid hat
      have HRS := Lib.hid hrs
      have hrl : rs.length ≤ 37449 := by
        have : rs.length = (rs.map RowL.row).length := by simp
        rw [this, hrs]
        exact Al.levs_bound (by omega) (by omega)
      have hgl := hat.lt
      clear hb6 hat hrs y0
      go_loopw [79] (fun i wr => ∃ k : Nat, k ≤ rs.length ∧ i = .int .i64 k ∧ Hid (Below w6.heap.size w6 wr)) (fun i _ => rs.length - (intOf i).toNat)
      case atStart => exact ⟨0, by omega, rfl, Lib.hid (Below.refl _ _)⟩
      case round =>
        obtain ⟨k, hk, rfl, HBR⟩ := hrel
        by_cases hkl : k < rs.length
        · obtain ⟨r, hr⟩ : ∃ r, rs[k]? = some r := ⟨_, List.getElem?_eq_getElem hkl⟩
          obtain ⟨ra, rc, u⟩ := r
          have hrm := List.mem_of_getElem? hr
          have c0 := (HAT.out.below HBR.out).own.cellAt k (by omega)
          rw [rowVs_at hr] at c0
          have hgl2 := (HAT.out.below HBR.out).lt
          have e1 : (k : Int) < rs.length := by omega
          have hu2 : u ∈ Al.levs g.terms.length 3 := by rw [← HRS.out]; exact List.mem_map_of_mem (f := RowL.row) hrm
          obtain ⟨hul, hut⟩ := Al.levs_word.1 hu2
          have HUT := Lib.hid hut
          have hW5 : Below W5.heap.size W5 wr := HB6.out.trans (HBR.out.mono HB6.out.size)
          have HSP := Lib.hid (spans_any _ g ra rc u wr (HGW.out.below hW5) ((HAT.out.below HBR.out).rows _ hrm) (by omega) (by omega) HPS.out)
          have hq := (hW5.block B1 hlw).trans HQW.out
          have y0 := (blk_cell (i := 0) (u := .slice at_ g.terms.length ct) hq rfl).1
          have y1 := (blk_cell (i := 1) (u := .slice an g.nons.length cn) hq rfl).1
          have y2 := (blk_cell (i := 2) (u := .slice ap ls.length cp) hq rfl).1
          have y3 := heap_lt hq
          have HQ := Lib.hid hq
          clear hr hrm hu2 hut hW5 hq
          simp only at c0
          go_upto_region 19 with (go_at_call 14; refine HSP.out.mono ?_; rintro e w7 ⟨hb7, BS, BH, H, rfl, hsp, his, hBS, hBH⟩)
          have HB7 := Lib.hid (HBR.out.trans (hb7.mono HBR.out.size))
          have hq := (hb7.block B1 y3).trans HQ.out
          have z1 := (blk_cell (i := 1) (u := .slice an g.nons.length cn) hq rfl).1
          have z3 := heap_lt hq
          have HIS := Lib.hid his
          have HSPA := Lib.hid hsp
          clear hb7 hq hsp his hBS hBH y0 y1 y2 c0 hgl2 y3
          go_upto_region 20 with fail
          go_loopw [89] (fun i wx => ∃ j : Nat, j ≤ g.nons.length ∧ i = .int .i64 j ∧ Hid (Below w7.heap.size w7 wx)) (fun i _ => g.nons.length - (intOf i).toNat)
          case atStart => exact ⟨0, by omega, rfl, Lib.hid (Below.refl _ _)⟩
          case round =>
            rename World => wx
            obtain ⟨j, hj, rfl, HBX⟩ := hrel
            by_cases hjl : j < g.nons.length
            · have e2 : (j : Int) < g.nons.length := by omega
              have HSPX := Lib.hid (HSPA.out.below HBX.out)
              have HCA := Lib.hid (can_any BS BH ra rc u H (100 + (j : Int)) 0 u.length wx HSPX.out (by omega) (by omega) (by omega) (by omega) (by omega))
              have hd : Sp.canP u H (100 + (j : Int)) 0 u.length ↔ Sp.DerF g.prods [100 + (j : Int)] u := by rw [HIS.out.can (Nat.zero_le _) (Nat.le_refl _), Sp.seg_all]
              obtain ⟨p, hp⟩ : ∃ p, rws[j]? = some p := ⟨_, List.getElem?_eq_getElem (by rw [HRL.out]; exact hjl)⟩
              have hpm := List.mem_of_getElem? hp
              obtain ⟨g1, g2, g3⟩ := rs_atL HKN.out HOUT.out.z hp
              have hWx : Below W5.heap.size W5 wx := HB6.out.trans ((HB7.out.trans (HBX.out.mono HB7.out.size)).mono HB6.out.size)
              have hoy := HOUT.out.below hWx
              have x0 := (blk_cell (i := j) (u := .slice p.addr p.word.length p.cap) hoy.q (by rw [List.getElem?_toArray, List.getElem?_map, hp]; rfl)).1
              have x2 := heap_lt hoy.q
              have hpc := hoy.r p hpm
              have hfy : FAt wx Cb (L.map (Option.map List.length)) := (hWx.block Cb (heap_lt HFAT.out)).trans HFAT.out
              have hLn : j < (L.map (Option.map List.length)).length := by rw [List.length_map, HLI.out.len]; exact hjl
              have y0 := (blk_cell (i := j) (u := .float .f64 (Wd.fc (Wd.co (L.map (Option.map List.length)) j))) hfy (by rw [List.getElem?_toArray]; exact flC_at hLn)).1
              have y2 := heap_lt hfy
              have hcs := (Wd.cost_side (x := Wd.co (L.map (Option.map List.length)) j) (fun v hv => by
                rw [co_mapL] at hv
                cases hk2 : Wd.known L j with
                | none => rw [hk2] at hv; cases hv
                | some w2 => rw [hk2] at hv; cases hv; have := HSH.out j w2 hk2; omega)).2
              have hcoS : (Wd.co (L.map (Option.map List.length)) j).isSome = p.known := by rw [co_mapL, Option.isSome_map]; exact g3
              rw [hcoS] at hcs
              have hcs : (FloatKind.f64.format.order (Wd.fc (Wd.co (L.map (Option.map List.length)) j)) 9094988921128908188 == some .gt) = !p.known := hcs
              have hpl : p.word.length ≤ 216 := by
                rw [← g2]
                cases hk2 : Wd.known L j with
                | none => simp
                | some w2 => exact HSH.out j w2 hk2
              have h1 : Sp.canP u H (100 + (j : Int)) 0 u.length → p.known = true ∧ Wd.lessI u p.word = false := fun h => by
                have hdd := Sp.der_of (fun q hq => (HCK.out.pv q hq).1.1) (hd.1 h) (fun s hs => by have := HUT.out s hs; omega)
                cases hk2 : Wd.known L j with
                | none => exact absurd hdd (HLI.out.no j hk2 u)
                | some w2 =>
                  rw [hk2] at g2 g3
                  refine ⟨g3.symm, ?_⟩
                  rw [← g2]
                  exact (HLI.out.inv j w2 hk2).2 u hdd
              have HLS := Lib.hid (wless_any ra p.addr rc p.cap u p.word wx HSPX.out.row hpc (by omega) (by omega))
              have H1 := Lib.hid h1
              obtain ⟨pw, pk, pa, pc⟩ := p
              simp only at x0 hcs H1 HLS
              generalize Wd.fc (Wd.co (L.map (Option.map List.length)) j) = zc at *
              clear hd h1 hoy hfy hLn g1 g2 g3 hp hpm hcoS hpc hWx
              by_cases hcan : Sp.canP u H (100 + (j : Int)) 0 u.length
              · have HC2 := Lib.hid (HCA.out.mono fun e w' ⟨⟨bb, he, hb⟩, hw⟩ => (⟨he.trans (by rw [hb.2 hcan]), hw⟩ : e = Ending.returned (.bool true) ∧ w' = wx))
                obtain ⟨h3, h4⟩ := H1.out hcan
                subst h3
                rw [h4] at HLS
                have hcs : (FloatKind.f64.format.order zc 9094988921128908188 == some .gt) = false := hcs
                clear H1 HCA hcan h4
                go_wp2_with (first
                  | (go_at_call 15; refine HC2.out.mono ?_; rintro e w8 ⟨rfl, rfl⟩)
                  | (go_at_call 35; with_reducible refine HLS.out.mono ?_; rintro e w9 ⟨rfl, rfl⟩))
                exact ⟨⟨j + 1, by omega, by go_num, HBX⟩, by simp [intOf]; omega⟩
              · have HC2 := Lib.hid (HCA.out.mono fun e w' ⟨⟨bb, he, hb⟩, hw⟩ => (⟨he.trans (by cases bb; rfl; exact absurd (hb.1 rfl) hcan), hw⟩ : e = Ending.returned (.bool false) ∧ w' = wx))
                clear H1 HCA hcan hcs
                go_wp2_with (go_at_call 15; refine HC2.out.mono ?_; rintro e w8 ⟨rfl, rfl⟩)
                exact ⟨⟨j + 1, by omega, by go_num, HBX⟩, by simp [intOf]; omega⟩
            · have e2 : ¬ (j : Int) < g.nons.length := by omega
              have HBN := Lib.hid (HB7.out.trans (HBX.out.mono HB7.out.size))
              go_wp2
              exact ⟨⟨k + 1, by omega, by go_num, HBN⟩, by simp [intOf]; omega⟩
        · have e1 : ¬ (k : Int) < rs.length := by omega
          go_wp2_with (go_at_call 37; refine (HWK.out _).mono ?_; rintro e w8 ⟨rfl, hb8⟩)
          go_ret
          exact ⟨rfl, HBW.out.trans ((HB6.out.trans ((HBR.out.trans (hb8.mono HBR.out.size)).mono HB6.out.size)).mono HBW.out.size)⟩
end Go.Proofs.Ytflfmcikfiaoiaa
