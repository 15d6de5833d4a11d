/- TreeGrows: walked. -/
import Derived.Test.YtjlohjkhnjemaaaTreeW
import Derived.Test.YtjlohjkhnjemaaaPlayH
import Derived.Test.YtjlohjkhnjemaaaRowC
import Derived.Test.YtjlohjkhnjemaaaTreeGr
import Derived.Test.YtjlohjkhnjemaaaTreeD
import Derived.Test.YtjlohjkhnjemaaaTreeE
import Derived.Deep.RegionHeld3
import Derived.Deep.RegionLaw
set_option linter.unusedVariables false
namespace Go.Proofs.Ytjlohjkhnjemaaa
open Go.RowKit
open Doc

theorem any_gram2 (x : RawX) (w : World) (hx : RawAt w x) :
    Calls Try.prog 52 #[x.v] w fun e w' => Below w.heap.size w w' ∧ ∃ (a1 a2 a3 : Option Addr) (c1 c2 c3 : Nat), e = .returned (.agg #[.slice a1 x.any.terms.length c1, .slice a2 x.any.nons.length c2, .slice a3 x.any.prods.length c3]) ∧ GramAt w' (.agg #[.slice a1 x.any.terms.length c1, .slice a2 x.any.nons.length c2, .slice a3 x.any.prods.length c3]) x.any :=
  (any_gram x w hx).mono fun e w' ⟨hb, at_, an, ap, ct, cn, cp, ls, he, hg, hp, _, _⟩ => by
    have hpl : ls.length = x.any.prods.length := by rw [← hp, List.length_map]
    rw [hpl] at he hg
    exact ⟨hb, at_, an, ap, ct, cn, cp, he, hg⟩

theorem leaf_symB {g : Gr} (hcg : CheckG g) (t : Tr) : ∀ root, checkT g t root = true → ∀ {x : Int}, x ∈ leavesT t → symB g x = true := by
  induction t using Tr.ind with
  | h s p ks ih =>
    intro root hc x hx
    rcases (check_cases hc).2 with ⟨rfl, rfl, hs⟩ | ⟨m, rfl, hm, hks⟩
    · simp [leavesT] at hx
      subst hx
      exact hs
    · rw [leavesT, if_neg (by omega)] at hx
      have aux : ∀ l : List Tr, (∀ t ∈ l, t ∈ ks) → x ∈ leavesK l → symB g x = true := by
        intro l
        induction l with
        | nil => intro _ h; simp [leavesK] at h
        | cons t l ih2 =>
          intro hl h
          rw [leavesK] at h
          rcases List.mem_append.1 h with h | h
          · exact ih t (hl t List.mem_cons_self) _ (hks t (hl t List.mem_cons_self)) h
          · exact ih2 (fun t ht => hl t (List.mem_cons_of_mem _ ht)) h
      exact aux ks (fun _ h => h) hx

theorem check_fitsT {g : Gr} (h : CheckG g) : Fits g := ⟨by have := h.t8; omega, by have := h.n8; omega, by have := h.p24; omega, fun p hp => by have := (h.pv p hp).2.1; omega⟩

set_option maxRecDepth 100000 in
set_option maxHeartbeats 8000000 in
theorem treeGrows_walk (x : RawX) (a : Option Addr) (len cap : Nat) (zs : List Int) (at_ : Int) (w : World) (hx : RawAt w x) (hr : IsRow .i64 w a len cap zs) (hcap : cap * 8 ≤ 140737488351232) :
    Calls Try.prog 7 #[x.v, .slice a len cap, .int .i64 at_] w fun e w' => e = .returned (.bool true) ∧ Below w.heap.size w w' := by
  have hln := row_len hr
  have HAN := Lib.hid fun W (hW : Below w.heap.size w W) => any_gram2 x W (hx.below hW)
  have HCG : Hid (CheckG x.any) := Lib.hid (anyF_check x.terms x.nons x.plain)
  generalize x.any = g at *
  have HZ := Lib.hid (row_cells hr)
  have HZL := Lib.hid hln
  have HCP := Lib.hid hcap
  have HWK := Lib.hid fun W => wakes8_any W
  obtain ⟨xp, xt, xn, xh, rows, xa, xc, word⟩ := x
  unfold RawX.v at *
  simp only at *
  have hb0 := box_belowT w (.cells #[.int .i64 xp, .int .i64 xt, .int .i64 xn, .int .i64 xh, .slice xa rows.length xc, .string word] 24)
  have HG1 := Lib.hid (HAN.out _ hb0)
  have HB1 := Lib.hid hb0
  clear hb0 HAN hx hr hcap hln
  go_enter Try.func7, Try.ntmps7
  go_upto_region 2 with (go_at_call 52; (with_reducible refine HG1.out.mono ?_); rintro e w2 ⟨hb2, a1, a2, a3, c1, c2, c3, rfl, hg2⟩)
  obtain ⟨hbG, _, qG⟩ := one_alloc w2 (.cells #[.slice a1 g.terms.length c1, .slice a2 g.nons.length c2, .slice a3 g.prods.length c3] 28)
  have HBG := Lib.hid ((HB1.out.trans (hb2.mono HB1.out.size)).trans (hbG.mono (Nat.le_trans HB1.out.size hb2.size)))
  have HQG := Lib.hid qG
  have HGG := Lib.hid (hg2.below hbG)
  clear hb2 hg2 hbG qG HG1 HB1
  generalize w2.alloc (.cells #[.slice a1 g.terms.length c1, .slice a2 g.nons.length c2, .slice a3 g.prods.length c3] 28) = S at *
  generalize w2.heap.size = BG at *
  have hsy : symB g 100 = true := by
    have := HCG.out.n1
    unfold symB nonB
    simp
    omega
  have HOF := Lib.hid (ptree_any g HCG.out a1 a2 a3 c1 c2 c3 4 (by omega) 100 a cap (zs.take len) S hsy HGG.out (HZ.out.below HBG.out) (by have := HZL.out; omega) (by have := HCP.out; omega))
  rw [HZL.out.1, show ((4 : Nat) : Int) = 4 from rfl] at HOF
  unfold PTreeEnd at HOF
  have g0 := (blk_cell (i := 0) HQG.out rfl).1
  have g1 := (blk_cell (i := 1) HQG.out rfl).1
  have g2 := (blk_cell (i := 2) HQG.out rfl).1
  have lG := heap_lt HQG.out
  clear hsy
  go_upto_region 3 with (go_at_call 53; (with_reducible refine HOF.out.mono ?_); rintro e w3 ⟨hb3, tl, a4, c4, zs4, rfl, hli, hck, hsz, _, _, _⟩)
  obtain ⟨hbT, _, qT⟩ := one_alloc w3 (.cells #[.int .i64 tl.sym, .int .i64 tl.prod, .slice tl.a tl.kids.length tl.c] 79)
  have hb3T := hb3.trans (hbT.mono hb3.size)
  have HBT := Lib.hid (HBG.out.trans (hb3T.mono HBG.out.size))
  have HQT := Lib.hid qT
  have HLI := Lib.hid (hli.under hbT)
  have HSZ := Lib.hid (Nat.le_trans hsz (bnd_le (show 4 ≤ 5 by omega)))
  have HCK := Lib.hid hck
  have HGT := Lib.hid (HGG.out.below hb3T)
  have HQ2 := Lib.hid ((hb3T.block _ lG).trans HQG.out)
  clear hb3 hbT qT hli hck hsz hb3T g0 g1 g2 lG HOF HGG HQG HBG
  generalize w3.alloc (.cells #[.int .i64 tl.sym, .int .i64 tl.prod, .slice tl.a tl.kids.length tl.c] 79) = S3 at *
  generalize w3.heap.size = T at *
  have HCL : Hid (∀ W, Below S3.heap.size S3 W → (W.cell? ⟨BG, 0, none⟩ = some (.slice a1 g.terms.length c1) ∧ W.cell? ⟨BG, 1, none⟩ = some (.slice a2 g.nons.length c2) ∧ W.cell? ⟨BG, 2, none⟩ = some (.slice a3 g.prods.length c3) ∧ W.cell? ⟨T, 0, none⟩ = some (.int .i64 tl.sym) ∧ W.cell? ⟨T, 1, none⟩ = some (.int .i64 tl.prod) ∧ W.cell? ⟨T, 2, none⟩ = some (.slice tl.a tl.kids.length tl.c)) ∧ BG < W.heap.size ∧ T < W.heap.size) := Lib.hid fun W hW => by
    have z0 := (hW.block _ (heap_lt HQ2.out)).trans HQ2.out
    have z1 := (hW.block _ (heap_lt HQT.out)).trans HQT.out
    exact ⟨⟨(blk_cell z0 rfl).1, (blk_cell z0 rfl).1, (blk_cell z0 rfl).1, (blk_cell z1 rfl).1, (blk_cell z1 rfl).1, (blk_cell z1 rfl).1⟩, heap_lt z0, heap_lt z1⟩
  have htiny := check_tinyT HCG.out _ _ HCK.out
  have HCHK := Lib.hid (tcheck_any tl _ _ g 100 S3 HGT.out (check_fitsT HCG.out) HLI.out (tiny_mild _ htiny) (by have := HSZ.out; omega))
  rw [HCK.out] at HCHK
  have HLV := Lib.hid fun W (hW : Below S3.heap.size S3 W) => tleaves_any tl _ W (HLI.out.under hW) (by have := HSZ.out; omega)
  unfold Tl.v at HCHK HLV
  have hll := leaves_size tl.plain
  have hln : (leavesT tl.plain).length ≤ 9331 := by have := HSZ.out; omega
  obtain ⟨⟨g0, g1, g2, t0, t1, t2⟩, lG, lT⟩ := HCL.out S3 (Below.refl _ _)
  clear htiny hll
  go_upto_region 6 with (first
    | (go_at_call 46; refine HCHK.out.mono ?_; rintro e w4 ⟨rfl, hb4⟩; clear g0 g1 g2 t0 t1 t2 lG lT; obtain ⟨⟨g0, g1, g2, t0, t1, t2⟩, lG, lT⟩ := HCL.out _ hb4)
    | (go_at_call 48; refine (HLV.out _ hb4).mono ?_; rintro e w5 ⟨hb5, la, lc, rfl, ho5⟩))
  have HB5 := Lib.hid (hb4.trans (hb5.mono hb4.size))
  have HO5 := Lib.hid ho5
  have HS45 := Lib.hid hb4.size
  clear hb4 hb5 ho5 g0 g1 g2 t0 t1 t2 lG lT HCHK
  generalize hL : leavesT tl.plain = L at *
  have HL := Lib.hid hL
  clear hL
  by_cases hl0 : L.length = 0
  · have hmx : max (L.length : Int) 1 = 1 := by omega
    have hz0 : ((L.length : Int) == 0) = true := by rw [beq_iff_eq]; omega
    have HWI := Lib.hid fun W => (within_any at_ 1 (by omega) (by omega) W).mono fun e w' ⟨he, hw⟩ => (⟨he.trans (by rw [show at_ % 1 = 0 by omega]), hw⟩ : e = Ending.returned (.int .i64 0) ∧ w' = W)
    clear hl0
    go_wp2_with (first
      | (go_at_call 19; (with_reducible refine (HWI.out _).mono ?_); rintro e w6 ⟨rfl, hw6⟩; rw [hw6]; clear hw6)
      | (go_at_call 51; refine (HWK.out _).mono ?_; rintro e w7 ⟨rfl, hb7⟩))
    go_ret
    exact ⟨rfl, HBT.out.trans ((HB5.out.trans (hb7.mono HB5.out.size)).mono HBT.out.size)⟩
  · have hmx : max (L.length : Int) 1 = L.length := by omega
    have hz0 : ((L.length : Int) == 0) = false := by rw [beq_eq_false_iff_ne]; omega
    obtain ⟨m, hm, hml⟩ : ∃ m : Nat, at_ % (L.length : Int) = m ∧ m < L.length := ⟨(at_ % (L.length : Int)).toNat, by have := Int.emod_nonneg at_ (show (L.length : Int) ≠ 0 by omega); omega, by have := Int.emod_nonneg at_ (show (L.length : Int) ≠ 0 by omega); have := Int.emod_lt_of_pos at_ (show (0 : Int) < L.length by omega); omega⟩
    have HWI := Lib.hid fun W => (within_any at_ L.length (by omega) (by omega) W).mono fun e w' ⟨he, hw⟩ => (⟨he.trans (by rw [hm]), hw⟩ : e = Ending.returned (.int .i64 m) ∧ w' = W)
    obtain ⟨x, hx⟩ : ∃ x, L[m]? = some x := ⟨_, List.getElem?_eq_getElem hml⟩
    obtain ⟨lb, lo, rfl, hlb, hlc⟩ := (own_cells HO5.out).1.get (by unfold nums; intro e; rw [List.map_eq_nil_iff] at e; rw [e] at hml; simp at hml)
    have x0 := hlc m _ (nums_at hx)
    have em : (m : Int) < L.length := by omega
    have hlc2 := (own_cells HO5.out).2
    have HX := Lib.hid hx
    have HHL := Lib.hid hlc
    clear hm hx hl0 hlc
    by_cases hx100 : x < 100
    · go_wp2_with (first
        | (go_at_call 19; (with_reducible refine (HWI.out _).mono ?_); rintro e w6 ⟨rfl, hw6⟩; rw [hw6]; clear hw6)
        | (go_at_call 51; refine (HWK.out _).mono ?_; rintro e w7 ⟨rfl, hb7⟩))
      go_ret
      exact ⟨rfl, HBT.out.trans ((HB5.out.trans (hb7.mono HB5.out.size)).mono HBT.out.size)⟩
    · go_upto_region 10 with (go_at_call 19; (with_reducible refine (HWI.out _).mono ?_); rintro e w6 ⟨rfl, hw6⟩; rw [hw6]; clear hw6)
      obtain ⟨ls, hp, k3, k4⟩ := gram_open' (HGT.out.below HB5.out)
      have hpl : ls.length = g.prods.length := by rw [← hp, List.length_map]
      have hp24 := HCG.out.p24
      have hll24 : ls.length ≤ 24 := by omega
      have HPP := Lib.hid hp
      have HK3 := Lib.hid k3
      have HK4 := Lib.hid k4
      obtain ⟨⟨g0, g1, g2, t0, t1, t2⟩, lG, lT⟩ := HCL.out w5 HB5.out
      have HHX := Lib.hid hx100
      clear hp k3 k4 hp24 hx100
      rw [← hpl] at *
      clear hpl
      go_wp2
      clear g0 g1 g2 t0 t1 t2 lG lT x0
      go_loopw [12, 51] (fun pv i wr => ∃ (j : Nat) (p : Int), j ≤ ls.length ∧ i = .int .i64 j ∧ pv = .int .i64 p ∧ Hid (Below w5.heap.size w5 wr) ∧ Hid ((p = -1 ∧ ∀ k q, k < j → ls[k]? = some q → q.left ≠ x) ∨ (∃ k : Nat, p = k ∧ k < j ∧ ∃ q : Lay, ls[k]? = some q ∧ q.left = x))) (fun _ i _ => ls.length - (intOf i).toNat)
      case atStart => exact ⟨0, -1, Nat.zero_le _, rfl, rfl, Lib.hid (Below.refl _ _), Lib.hid (.inl ⟨rfl, fun k q hk => by omega⟩)⟩
      case round =>
        obtain ⟨j, p, hj, rfl, rfl, HBE, HPX⟩ := hrel
        by_cases hlt : j < ls.length
        · obtain ⟨q, hq⟩ : ∃ q, ls[j]? = some q := ⟨_, List.getElem?_eq_getElem hlt⟩
          obtain ⟨b3, o3, rfl, hb3, hc3⟩ := (HK3.out.below HBE.out).get (by intro e; have := (lays_at ls j q hq).1; rw [e] at this; simp at this)
          have y0 := hc3 _ _ (lays_at ls j q hq).1
          have y1 := hc3 _ _ (lays_at ls j q hq).2
          rw [← Nat.add_assoc] at y1
          have e1 : (j : Int) < ls.length := by omega
          have x0 := (HBE.out.cell (p := ⟨lb, lo + m, none⟩) hlb).trans (HHL.out m _ (nums_at HX.out))
          have lx : lb < wr.heap.size := Nat.lt_of_lt_of_le hlb HBE.out.size
          have HQ := Lib.hid hq
          obtain ⟨ql, qr, qa, qc⟩ := q
          simp only at *
          clear hc3 hq
          by_cases hql : ql = x
          · subst hql
            have HP2 : Hid ((((j : Int) = -1 ∧ ∀ k q, k < j + 1 → ls[k]? = some q → q.left ≠ ql) ∨ (∃ k : Nat, (j : Int) = k ∧ k < j + 1 ∧ ∃ q : Lay, ls[k]? = some q ∧ q.left = ql))) := Lib.hid (.inr ⟨j, rfl, by omega, _, HQ.out, rfl⟩)
            go_upto_region 13 with fail
            go_region
            all_goals
              go_wp2
              exact ⟨⟨j + 1, j, by omega, by go_num, rfl, Lib.hid (HBE.out.alloc HBE.out.size _).drew, HP2⟩, by simp [intOf]; omega⟩
          · have hqb : (ql == x) = false := beq_eq_false_iff_ne.2 hql
            have HP2 : Hid (((p = -1 ∧ ∀ k q, k < j + 1 → ls[k]? = some q → q.left ≠ x) ∨ (∃ k : Nat, p = k ∧ k < j + 1 ∧ ∃ q : Lay, ls[k]? = some q ∧ q.left = x))) := Lib.hid (by
              rcases HPX.out with ⟨h1, h2⟩ | ⟨k, h1, h2, h3⟩
              · refine .inl ⟨h1, fun k q hk hq => ?_⟩
                by_cases hkj : k = j
                · subst hkj; rw [HQ.out] at hq; cases hq; exact hql
                · exact h2 k q (by omega) hq
              · exact .inr ⟨k, h1, by omega, h3⟩)
            clear hql
            go_upto_region 13 with fail
            go_region
            all_goals
              go_wp2
              exact ⟨⟨j + 1, p, by omega, by go_num, rfl, Lib.hid (HBE.out.alloc HBE.out.size _).drew, HP2⟩, by simp [intOf]; omega⟩
        · have e1 : ¬ (j : Int) < ls.length := by omega
          obtain rfl : j = ls.length := by omega
          obtain ⟨pk, rfl, hpk, q, hq, hqx⟩ : ∃ k : Nat, p = k ∧ k < ls.length ∧ ∃ q : Lay, ls[k]? = some q ∧ q.left = x := by
            rcases HPX.out with ⟨h1, h2⟩ | h
            · exfalso
              have hc := leaf_symB HCG.out _ _ HCK.out (x := x) (by rw [HL.out]; exact List.mem_of_getElem? HX.out)
              have h3 := HHX.out
              have h8 := HCG.out.t8
              unfold symB nonB at hc
              simp at hc
              obtain ⟨q, hq, hq1⟩ := HCG.out.some_ (x - 100).toNat (by omega)
              rw [← HPP.out] at hq
              obtain ⟨y, hy, rfl⟩ := List.mem_map.1 hq
              obtain ⟨k, hk, e⟩ := List.mem_iff_getElem.1 hy
              exact h2 k y hk (by rw [List.getElem?_eq_getElem hk, e]) (by show y.left = x; have : y.left = ((100 + (x - 100).toNat : Nat) : Int) := hq1; omega)
            · exact h
          have HPL : Hid (ls.length = g.prods.length) := Lib.hid (by have := congrArg List.length HPP.out; rwa [List.length_map] at this)
          have hqp : g.prods[pk]? = some (x, q.right) := by
            rw [← HPP.out, List.getElem?_map, hq]
            exact congrArg some (Prod.ext hqx rfl)
          have hpv := HCG.out.pv _ (List.mem_of_getElem? hqp)
          have hnear := grow_near HCG.out hqp tl.plain m 100 (by rw [HL.out]; exact HX.out) HCK.out
          have hb35 := HB5.out.trans (HBE.out.mono HB5.out.size)
          have HGRW := Lib.hid (grown_any g a1 a2 a3 c1 c2 c3 pk x q.right hqp hpv.2.1 HCG.out.p24 tl _ m wr (HGT.out.below hb35) (HLI.out.under hb35) (by have := HSZ.out; omega) ⟨by omega, by omega⟩)
          unfold Tl.v GrEnd at HGRW
          have HNR := Lib.hid hnear
          have HB35 := Lib.hid hb35
          have hrl6 : q.right.length ≤ 6 := hpv.2.1
          obtain ⟨b3, o3, rfl, hb3, hc3⟩ := HK3.out.get (by intro e; have := (lays_at ls pk q hq).1; rw [e] at this; simp at this)
          have HY1 : Hid (w5.cell? ⟨b3, o3 + pk * 2 + 1, none⟩ = some (.slice q.addr q.right.length q.cap) ∧ b3 < w5.heap.size) := Lib.hid ⟨by have := hc3 _ _ (lays_at ls pk q hq).2; rw [← Nat.add_assoc] at this; exact this, hb3⟩
          have HRC := Lib.hid (HK4.out q (List.mem_of_getElem? hq))
          have ep0 : (0 : Int) ≤ pk := by omega
          have ep1 : (pk : Int) < g.prods.length := by have := HPL.out; omega
          have ep2 : ¬ (pk : Int) < 0 := by omega
          obtain ⟨⟨g0, g1, g2, t0, t1, t2⟩, lG, lT⟩ := HCL.out wr HB35.out
          clear hq hqx hqp hpv hnear hb35 hc3 hb3 HPX
          go_upto_region 19 with (go_at_call 54; (with_reducible refine HGRW.out.mono ?_); rintro e w7 ⟨hb7, ul, rfl, hl7, hp7⟩)
          obtain ⟨hbU, _, qU⟩ := one_alloc w7 (.cells #[.int .i64 ul.sym, .int .i64 ul.prod, .slice ul.a ul.kids.length ul.c] 79)
          have hb57 : Below w5.heap.size w5 (w7.alloc (.cells #[.int .i64 ul.sym, .int .i64 ul.prod, .slice ul.a ul.kids.length ul.c] 79)) := HBE.out.trans ((hb7.trans (hbU.mono hb7.size)).mono HBE.out.size)
          have HB57 := Lib.hid hb57
          have HQU := Lib.hid qU
          have HLU := Lib.hid (hl7.under hbU)
          have HPU := Lib.hid hp7
          clear hb7 hbU qU hl7 hp7 hb57 g0 g1 g2 t0 t1 t2 lG lT HGRW
          generalize w7.alloc (.cells #[.int .i64 ul.sym, .int .i64 ul.prod, .slice ul.a ul.kids.length ul.c] 79) = S7 at *
          generalize w7.heap.size = U at *
          have HB37 := Lib.hid (HB5.out.trans (HB57.out.mono HB5.out.size))
          have HCS : Hid (∀ W, Below S7.heap.size S7 W → (W.cell? ⟨BG, 2, none⟩ = some (.slice (some ⟨b3, o3, none⟩) g.prods.length c3) ∧ W.cell? ⟨b3, o3 + pk * 2 + 1, none⟩ = some (.slice q.addr q.right.length q.cap)) ∧ Hid (Below S7.heap.size S7 W)) := Lib.hid fun W hW => by
            have h1 := HB37.out.trans (hW.mono HB37.out.size)
            have h2 := HB57.out.trans (hW.mono HB57.out.size)
            obtain ⟨⟨_, _, g2, _, _, _⟩, _, _⟩ := HCL.out W h1
            exact ⟨⟨g2, (h2.cell (p := ⟨b3, o3 + pk * 2 + 1, none⟩) HY1.out.2).trans HY1.out.1⟩, Lib.hid hW⟩
          have HCLL : Hid (∀ W, Below S7.heap.size S7 W → Cells W (some ⟨lb, lo, none⟩) (nums (L.take m)) ∧ Cells W q.addr (nums q.right) ∧ Cells W (some ⟨lb, lo + (m + 1), none⟩) (nums (L.drop (m + 1)))) := Lib.hid fun W hW => by
            have h2 := HB57.out.trans (hW.mono HB57.out.size)
            have hlW := Nat.lt_of_lt_of_le hlb h2.size
            refine ⟨.inr ⟨lb, lo, rfl, hlW, fun j u hj => ?_⟩, HRC.out.below h2, .inr ⟨lb, lo + (m + 1), rfl, hlW, fun j u hj => ?_⟩⟩
            · refine (h2.cell (p := ⟨lb, lo + j, none⟩) hlb).trans (HHL.out j u ?_)
              have hj2 : j < m := by have := (List.getElem?_eq_some_iff.1 hj).1; unfold nums at this; rw [List.length_map, List.length_take] at this; omega
              unfold nums at hj ⊢
              rw [List.getElem?_map, List.getElem?_take_of_lt hj2] at hj
              rw [List.getElem?_map]
              exact hj
            · have := (h2.cell (p := ⟨lb, lo + (m + 1 + j), none⟩) hlb).trans (HHL.out (m + 1 + j) u (by
                unfold nums at hj ⊢
                rw [List.getElem?_map, List.getElem?_drop] at hj
                rw [List.getElem?_map]
                exact hj))
              rwa [show lo + (m + 1) + j = lo + (m + 1 + j) by omega]
          have hB0 := Lib.hid (Below.refl S7.heap.size S7)
          have HSK7 : Hid (∀ W W', Hid (Below S7.heap.size S7 W) → Below S7.heap.size W W' → (W'.cell? ⟨BG, 2, none⟩ = some (.slice (some ⟨b3, o3, none⟩) g.prods.length c3) ∧ W'.cell? ⟨b3, o3 + pk * 2 + 1, none⟩ = some (.slice q.addr q.right.length q.cap)) ∧ Hid (Below S7.heap.size S7 W')) := Lib.hid fun W W' h k => HCS.out _ (h.out.trans k)
          have HLE : Hid (∀ W, Hid (Below S7.heap.size S7 W) → S7.heap.size ≤ W.heap.size) := Lib.hid fun W h => h.out.size
          have em1 : (m : Int) + 1 ≤ L.length := by omega
          have em2 : (0 : Int) ≤ m := by omega
          have em3 : (m : Int) ≤ L.length := by omega
          have em4 : (L.length : Int) ≤ lc := by omega
          have em5 : (0 : Int) ≤ (m : Int) + 1 := by omega
          have em6 : (m : Int) ≤ lc := by omega
          have hwm : IntKind.i64.wrap ((m : Int) + 1) = m + 1 := IntWalk.i64_in _ (by omega)
          have htm : (L.take m).length = m := by rw [List.length_take]; omega
          have hdm : (L.drop (m + 1)).length = L.length - (m + 1) := by rw [List.length_drop]
          have HTM := Lib.hid htm
          have HDM := Lib.hid hdm
          obtain ⟨⟨c5, c6⟩, _⟩ := HCS.out _ hB0.out
          have lG7 : BG < S7.heap.size := (HCL.out _ HB37.out).2.1
          have lb7 : b3 < S7.heap.size := Nat.lt_of_lt_of_le HY1.out.2 HB57.out.size
          clear htm hdm
          have hl93 : L.length ≤ 9331 := hln
          go_cut [17] from 75 to 90 (fun v wx => ∃ (va : Option Addr) (vc n : Nat), v = .slice va n vc ∧ Hid (n = (L.take m ++ q.right ++ L.drop (m + 1)).length) ∧ Hid (wx.ownsRow S7.heap.size 3 1 (.slice va n vc) n (nums (L.take m ++ q.right ++ L.drop (m + 1)))) ∧ Hid (Below S7.heap.size S7 wx))
          case first =>
            by_cases hcm : lc = m + 1
            · subst hcm
              have HDR0 : Hid (L.drop (m + 1) = []) := Lib.hid (List.drop_of_length_le (by omega))
              clear em4 em6
              have em6 : (m : Int) ≤ (m : Int) + 1 := by omega
              have em4 : (L.length : Int) ≤ (m : Int) + 1 := by omega
              have em9 : (m : Int) + 1 ≤ (m : Int) + 1 := Int.le_refl _
              go_region_held3 (fun w' => (w'.cell? ⟨BG, 2, none⟩ = some (.slice (some ⟨b3, o3, none⟩) g.prods.length c3) ∧ w'.cell? ⟨b3, o3 + pk * 2 + 1, none⟩ = some (.slice q.addr q.right.length q.cap)) ∧ Hid (Below S7.heap.size S7 w'))
                (first | (exact HCS.out _ hB0.out.drew) | (exact HSK7.out _ _ (And.right (show _ ∧ Hid (Below S7.heap.size S7 _) by assumption)) (by assumption)) | go_keep)
                (first
                  | (refine step_app (by rfl) (.const (.slice none 0 0)) (.tmp 77) (by rfl) S7.heap.size none 0 0 [] (by rfl) (World.ownsRow_nil _ _ _ _) (HLE.out _ (And.right (show _ ∧ Hid (Below S7.heap.size S7 _) by assumption))) (some ⟨lb, lo, none⟩) (L.take m) (m + 1) (by show Value.slice (some ⟨lb, lo, none⟩) m (m + 1) = _; rw [HTM.out]) ((HCLL.out _ (And.right (show _ ∧ Hid (Below S7.heap.size S7 _) by assumption)).out).1) (by rw [HTM.out]; omega) ?_; intro va1 vc1 w11 ho1 hb1)
                  | (refine step_app (by rfl) (.tmp 78) (.tmp 84) (by rfl) S7.heap.size va1 _ vc1 _ (by rfl) ho1 (HLE.out _ (And.right (show _ ∧ Hid (Below S7.heap.size S7 _) by assumption))) q.addr q.right q.cap (by rfl) ((HCLL.out _ (And.right (show _ ∧ Hid (Below S7.heap.size S7 _) by assumption)).out).2.1) (by rw [HTM.out]; omega) ?_; intro va2 vc2 w12 ho2 hb2)
                  | (refine step_app (by rfl) (.tmp 85) (.tmp 89) (by rfl) S7.heap.size va2 _ vc2 _ (by rfl) ho2 (HLE.out _ (And.right (show _ ∧ Hid (Below S7.heap.size S7 _) by assumption))) (some ⟨lb, lo, none⟩) (L.drop (m + 1)) 0 (by show Value.slice (some ⟨lb, lo, none⟩) 0 0 = _; rw [HDR0.out]; rfl) (.inl (by rw [HDR0.out]; rfl)) (by rw [HTM.out, HDM.out]; omega) ?_; intro va3 vc3 w13 ho3 hb3; have HEND : Hid (Below S7.heap.size S7 w13) := Lib.hid ((And.right (show _ ∧ Hid (Below S7.heap.size S7 _) by assumption)).out.trans hb3)))
              go_wp2
              go_meet
              case rel => exact ⟨va3, vc3, _, rfl, Lib.hid (by rw [HDR0.out]; simp), Lib.hid (by have h := ho3; rw [HDR0.out] at h ⊢; simpa using h), HEND⟩
            · have hcm1 : ¬ (lc : Int) = m + 1 := by omega
              have hcm2 : ¬ m + 1 = lc := by omega
              go_region_held3 (fun w' => (w'.cell? ⟨BG, 2, none⟩ = some (.slice (some ⟨b3, o3, none⟩) g.prods.length c3) ∧ w'.cell? ⟨b3, o3 + pk * 2 + 1, none⟩ = some (.slice q.addr q.right.length q.cap)) ∧ Hid (Below S7.heap.size S7 w'))
                (first | (exact HCS.out _ hB0.out.drew) | (exact HSK7.out _ _ (And.right (show _ ∧ Hid (Below S7.heap.size S7 _) by assumption)) (by assumption)) | go_keep)
                (first
                  | (refine step_app (by rfl) (.const (.slice none 0 0)) (.tmp 77) (by rfl) S7.heap.size none 0 0 [] (by rfl) (World.ownsRow_nil _ _ _ _) (HLE.out _ (And.right (show _ ∧ Hid (Below S7.heap.size S7 _) by assumption))) (some ⟨lb, lo, none⟩) (L.take m) lc (by show Value.slice (some ⟨lb, lo, none⟩) m lc = _; rw [HTM.out]) ((HCLL.out _ (And.right (show _ ∧ Hid (Below S7.heap.size S7 _) by assumption)).out).1) (by rw [HTM.out]; omega) ?_; intro va1 vc1 w11 ho1 hb1)
                  | (refine step_app (by rfl) (.tmp 78) (.tmp 84) (by rfl) S7.heap.size va1 _ vc1 _ (by rfl) ho1 (HLE.out _ (And.right (show _ ∧ Hid (Below S7.heap.size S7 _) by assumption))) q.addr q.right q.cap (by rfl) ((HCLL.out _ (And.right (show _ ∧ Hid (Below S7.heap.size S7 _) by assumption)).out).2.1) (by rw [HTM.out]; omega) ?_; intro va2 vc2 w12 ho2 hb2)
                  | (refine step_app (by rfl) (.tmp 85) (.tmp 89) (by rfl) S7.heap.size va2 _ vc2 _ (by rfl) ho2 (HLE.out _ (And.right (show _ ∧ Hid (Below S7.heap.size S7 _) by assumption))) (some ⟨lb, lo + (m + 1), none⟩) (L.drop (m + 1)) (lc - (m + 1)) (by show Value.slice (some ⟨lb, lo + (m + 1), none⟩) (L.length - (m + 1)) (lc - (m + 1)) = _; rw [HDM.out]) ((HCLL.out _ (And.right (show _ ∧ Hid (Below S7.heap.size S7 _) by assumption)).out).2.2) (by rw [HTM.out, HDM.out]; omega) ?_; intro va3 vc3 w13 ho3 hb3; have HEND : Hid (Below S7.heap.size S7 w13) := Lib.hid ((And.right (show _ ∧ Hid (Below S7.heap.size S7 _) by assumption)).out.trans hb3)))
              go_wp2
              go_meet
              case rel => exact ⟨va3, vc3, _, rfl, Lib.hid (by simp [Nat.add_assoc]), Lib.hid (by simpa [Nat.add_assoc] using ho3), HEND⟩
          case rest =>
            obtain ⟨va, vc, n9, rfl, HN9, HWW, HBX⟩ := hcut
            rename World => SX
            clear em1 em2 em3 em4 em5 em6 hwm c5 c6 lG7 lb7
            have HB3X := Lib.hid (HB37.out.trans (HBX.out.mono HB37.out.size))
            have hgrn : GrownT g pk q.right tl.plain ul.plain m 100 := by rw [HPU.out]; exact HNR.out.2
            have hut := check_tinyT HCG.out _ _ hgrn.ck
            have husz : sizeT ul.plain ≤ 9337 := by have h1 := hgrn.sz; have h2 := HSZ.out; omega
            have HSX : Hid (Below S7.heap.size S7 SX) := HBX
            have HLUX := Lib.hid (HLU.out.under HBX.out)
            have HLTX := Lib.hid (HLI.out.under HB3X.out)
            have HGX := Lib.hid (HGT.out.below HB3X.out)
            have hWc := (own_cells HWW.out).1
            have HLVU : leavesT ul.plain = L.take m ++ q.right ++ L.drop (m + 1) := by rw [hgrn.lv, HL.out]
            have HSZE : sizeT ul.plain = sizeT tl.plain + q.right.length := hgrn.sz
            have hne := grown_ne hgrn (by rw [HL.out]; exact hml)
            have hWl : (L.take m ++ q.right ++ L.drop (m + 1)).length ≤ 20000 := by simp; omega
            have HWC := Lib.hid hWc
            have HC1 := Lib.hid fun W (hW : Below SX.heap.size SX W) => tcheck_any ul _ _ g 100 W (HGX.out.below hW) (check_fitsT HCG.out) (HLUX.out.under hW) (tiny_mild _ hut) (by omega)
            rw [hgrn.ck] at HC1
            have HC2 := Lib.hid fun W (hW : Below SX.heap.size SX W) => tleaves_any ul _ W (HLUX.out.under hW) (by omega)
            rw [HLVU] at HC2
            generalize L.take m ++ q.right ++ L.drop (m + 1) = WL at *
            obtain rfl := HN9.out
            have HC3 := Lib.hid fun (a : Option Addr) (ca : Nat) (W : World) (h1 : Cells W a (nums WL)) (hW : Below SX.heap.size SX W) => (keepSame2_any a va ca vc WL WL W h1 (HWC.out.below hW) (by omega) (by omega)).mono fun e w' ⟨he, hw⟩ => (⟨he.trans (by rw [decide_eq_true rfl]), hw⟩ : e = Ending.returned (.bool true) ∧ ∃ n, w' = W.drewN n)
            have HC4 := Lib.hid fun W (hW : Below SX.heap.size SX W) => tsize_any ul _ W (HLUX.out.under hW) (by omega)
            have HC5 := Lib.hid fun W (hW : Below SX.heap.size SX W) => tsize_any tl _ W (HLTX.out.under hW) (by have := HSZ.out; omega)
            have HC6 := Lib.hid fun W (hW : Below SX.heap.size SX W) => tsame_any tl ul _ _ W (HLTX.out.under hW) (HLUX.out.under hW) (by have := HSZ.out; omega) (by omega)
            rw [hne] at HC6
            unfold Tl.v at HC1 HC2 HC4 HC5 HC6
            have HTS := HSZ.out
            have hBT2 := HBT.out
            have HBW := Lib.hid (hBT2.trans (HB3X.out.mono hBT2.size))
            have HQUX := Lib.hid ((HBX.out.block _ (heap_lt HQU.out)).trans HQU.out)
            have HPL2 := HPL.out
            have HCX : Hid (∀ W, Below SX.heap.size SX W → ((W.cell? ⟨BG, 0, none⟩ = some (.slice a1 g.terms.length c1) ∧ W.cell? ⟨BG, 1, none⟩ = some (.slice a2 g.nons.length c2) ∧ W.cell? ⟨BG, 2, none⟩ = some (.slice (some ⟨b3, o3, none⟩) g.prods.length c3) ∧ W.cell? ⟨T, 0, none⟩ = some (.int .i64 tl.sym) ∧ W.cell? ⟨T, 1, none⟩ = some (.int .i64 tl.prod) ∧ W.cell? ⟨T, 2, none⟩ = some (.slice tl.a tl.kids.length tl.c)) ∧ (W.cell? ⟨U, 0, none⟩ = some (.int .i64 ul.sym) ∧ W.cell? ⟨U, 1, none⟩ = some (.int .i64 ul.prod) ∧ W.cell? ⟨U, 2, none⟩ = some (.slice ul.a ul.kids.length ul.c)) ∧ W.cell? ⟨b3, o3 + pk * 2 + 1, none⟩ = some (.slice q.addr q.right.length q.cap)) ∧ Hid (Below SX.heap.size SX W)) := Lib.hid fun W hW => by
              have z1 := (hW.block _ (heap_lt HQUX.out)).trans HQUX.out
              have h0 := HBX.out.trans (hW.mono HBX.out.size)
              exact ⟨⟨(HCL.out W (HB3X.out.trans (hW.mono HB3X.out.size))).1, ⟨(blk_cell z1 rfl).1, (blk_cell z1 rfl).1, (blk_cell z1 rfl).1⟩, (HCS.out W h0).1.2⟩, Lib.hid hW⟩
            have HKX : Hid (∀ W W', Hid (Below SX.heap.size SX W) → Below W.heap.size W W' → ((W'.cell? ⟨BG, 0, none⟩ = some (.slice a1 g.terms.length c1) ∧ W'.cell? ⟨BG, 1, none⟩ = some (.slice a2 g.nons.length c2) ∧ W'.cell? ⟨BG, 2, none⟩ = some (.slice (some ⟨b3, o3, none⟩) g.prods.length c3) ∧ W'.cell? ⟨T, 0, none⟩ = some (.int .i64 tl.sym) ∧ W'.cell? ⟨T, 1, none⟩ = some (.int .i64 tl.prod) ∧ W'.cell? ⟨T, 2, none⟩ = some (.slice tl.a tl.kids.length tl.c)) ∧ (W'.cell? ⟨U, 0, none⟩ = some (.int .i64 ul.sym) ∧ W'.cell? ⟨U, 1, none⟩ = some (.int .i64 ul.prod) ∧ W'.cell? ⟨U, 2, none⟩ = some (.slice ul.a ul.kids.length ul.c)) ∧ W'.cell? ⟨b3, o3 + pk * 2 + 1, none⟩ = some (.slice q.addr q.right.length q.cap)) ∧ Hid (Below SX.heap.size SX W')) := Lib.hid fun W W' h k => HCX.out W' (h.out.trans (k.mono h.out.size))
            have HKD : Hid (∀ W W' n, Hid (Below SX.heap.size SX W) → W' = W.drewN n → Below W.heap.size W W') := Lib.hid fun W W' n h e => by subst e; exact below_drews (Below.refl _ _) _
            have hsz1 : ((sizeT ul.plain : Int) == (sizeT tl.plain : Int) + (q.right.length : Int)) = true := by rw [beq_iff_eq]; omega
            have hB00 := Lib.hid (Below.refl SX.heap.size SX)
            have hwz : IntKind.i64.wrap ((sizeT tl.plain : Int) + (q.right.length : Int)) = (sizeT tl.plain : Int) + (q.right.length : Int) := IntWalk.i64_in _ (by omega)
            have hs1 : (sizeT tl.plain : Int) ≤ 9331 := by omega
            have hs2 : (q.right.length : Int) ≤ 6 := by omega
            generalize sizeT ul.plain = su at *
            generalize sizeT tl.plain = st at *
            obtain ⟨⟨⟨g0, g1, g2, t0, t1, t2⟩, ⟨u0, u1, u2⟩, yb⟩, _⟩ := HCX.out SX hB00.out
            have lG : BG < SX.heap.size := (HCL.out _ HB3X.out).2.1
            have lT : T < SX.heap.size := (HCL.out _ HB3X.out).2.2
            have lU := heap_lt HQUX.out
            have lb7 : b3 < SX.heap.size := Nat.lt_of_lt_of_le (Nat.lt_of_lt_of_le HY1.out.2 HB57.out.size) HBX.out.size
            clear HSZE HSX hut husz hgrn hWc HLVU hne hWl HNR HPU HSZ HPL2 HTS hBT2 HTM HDM HCLL HSK7 HLE HCS
            go_upto_region 20 with fail
            go_region_held3 (fun w' => ((w'.cell? ⟨BG, 0, none⟩ = some (.slice a1 g.terms.length c1) ∧ w'.cell? ⟨BG, 1, none⟩ = some (.slice a2 g.nons.length c2) ∧ w'.cell? ⟨BG, 2, none⟩ = some (.slice (some ⟨b3, o3, none⟩) g.prods.length c3) ∧ w'.cell? ⟨T, 0, none⟩ = some (.int .i64 tl.sym) ∧ w'.cell? ⟨T, 1, none⟩ = some (.int .i64 tl.prod) ∧ w'.cell? ⟨T, 2, none⟩ = some (.slice tl.a tl.kids.length tl.c)) ∧ (w'.cell? ⟨U, 0, none⟩ = some (.int .i64 ul.sym) ∧ w'.cell? ⟨U, 1, none⟩ = some (.int .i64 ul.prod) ∧ w'.cell? ⟨U, 2, none⟩ = some (.slice ul.a ul.kids.length ul.c)) ∧ w'.cell? ⟨b3, o3 + pk * 2 + 1, none⟩ = some (.slice q.addr q.right.length q.cap)) ∧ Hid (Below SX.heap.size SX w'))
              (first | (exact HKX.out _ _ hB00 (Below.refl _ _).drew) | (exact HKX.out _ _ (And.right (show _ ∧ Hid (Below SX.heap.size SX _) by assumption)) (by assumption)) | go_keep)
              (first
                | (go_at_call 46; (with_reducible refine (HC1.out _ (And.right (show _ ∧ Hid (Below SX.heap.size SX _) by assumption)).out).mono ?_); rintro e w14 ⟨rfl, hb14⟩)
                | (go_at_call 48; (with_reducible refine (HC2.out _ (And.right (show _ ∧ Hid (Below SX.heap.size SX _) by assumption)).out).mono ?_); rintro e w15 ⟨hb15, la5, lc5, rfl, ho15⟩; have HO15 := Lib.hid (own_cells ho15).1; clear ho15)
                | (go_at_call 37; (with_reducible refine (HC3.out _ _ _ HO15.out (And.right (show _ ∧ Hid (Below SX.heap.size SX _) by assumption)).out).mono ?_); rintro e w16 ⟨rfl, n16, hw16⟩; have hb16 := HKD.out _ _ _ (And.right (show _ ∧ Hid (Below SX.heap.size SX _) by assumption)) hw16; clear hw16)
                | (go_at_call 49; (with_reducible refine (HC4.out _ (And.right (show _ ∧ Hid (Below SX.heap.size SX _) by assumption)).out).mono ?_); rintro e w17 ⟨rfl, hb17⟩)
                | (go_at_call 49; (with_reducible refine (HC5.out _ (And.right (show _ ∧ Hid (Below SX.heap.size SX _) by assumption)).out).mono ?_); rintro e w18 ⟨rfl, hb18⟩)
                | (go_at_call 50; (with_reducible refine (HC6.out _ (And.right (show _ ∧ Hid (Below SX.heap.size SX _) by assumption)).out).mono ?_); rintro e w19 ⟨rfl, hb19⟩)
                | (go_at_call 51; refine (HWK.out _).mono ?_; rintro e w20 ⟨rfl, hb20⟩))
            all_goals
              go_wp2
              go_ret
              exact ⟨rfl, HBW.out.trans ((And.right (show _ ∧ Hid (Below SX.heap.size SX _) by assumption)).out.mono HBW.out.size)⟩

end Go.Proofs.Ytjlohjkhnjemaaa
