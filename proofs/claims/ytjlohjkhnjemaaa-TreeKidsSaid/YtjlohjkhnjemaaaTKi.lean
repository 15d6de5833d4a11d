/- TreeKids: walked. -/
import Derived.Test.YtjlohjkhnjemaaaTreeM
import Derived.Test.YtjlohjkhnjemaaaTreeG
import Derived.Test.YtjlohjkhnjemaaaTreeD
import Derived.Test.YtjlohjkhnjemaaaPlayH
import Derived.Deep.RegionHeld3
import Derived.Deep.RegionLaw
set_option linter.unusedVariables false
namespace Go.Proofs.Ytjlohjkhnjemaaa
open Go.RowKit
open Doc

theorem check_fitsK {g : Gr} (h : CheckG g) : Fits g := ⟨by have := h.t8; omega, by have := h.n8; omega, by have := h.p24; omega, fun p hp => by have := (h.pv p hp).2.1; omega⟩
theorem leaves_at_leaf (s : Int) (a : Option Addr) (c : Nat) (ks : List Tl) : leavesT (Tl.mk s (-1) a c ks).plain = [s] := by rw [Tl.plain_mk, leavesT, if_pos rfl]
theorem size_at_leaf (s p : Int) (a : Option Addr) (c : Nat) : sizeT (Tl.mk s p a c []).plain = 1 := by rw [size_mk]; rfl

/-- Numbers are appended at a step of a region that draws; what else stands is told. -/
theorem step_appG {ops : Array Oper} {w : World} {o : Oper} {a : Act} {K : Act → World → Prop} {Q : Exit → Act → World → Prop} {E : Prop} (hgd : o.guard = none) (s x : Operand)
    (ho : o.op = .call { callee := .builtin .append, args := #[s, x], argTypes := #[45, 45] })
    (base : Nat) (va : Option Addr) (n vc : Nat) (xs : List Int) (hs : a.eval s = .slice va n vc) (hown : w.ownsRow base 3 1 (.slice va n vc) n (nums xs)) (hb : base ≤ w.heap.size)
    (xa : Option Addr) (l : List Int) (xc : Nat) (hx : a.eval x = .slice xa l.length xc) (hc : Cells w xa (nums l)) (hn : n + l.length ≤ 1000000000000)
    (h : ∀ va' vc' w', w'.ownsRow base 3 1 (.slice va' (n + l.length) vc') (n + l.length) (nums (xs ++ l)) → w.grownBy w' (Value.slice va n vc).ownBlock → K (a.put o.dst (.slice va' (n + l.length) vc')) w') :
    if Region.wanted o (yielded ops a.tmps) = true then Oper.wp Try.prog o a w K Q else E := by
  have hw : Region.wanted o (yielded ops a.tmps) = true := by simp [Region.wanted, hgd]
  rw [if_pos hw]
  obtain ⟨i0, hi0, hz0, hz1, hz2⟩ := info_of infoI
  by_cases hl : l = []
  · subst hl
    have hnc := (own_cells hown).2
    have hr := run_nothing (P := Try.prog) (w := w) 45 o.type 3 i0 Try.underlying45 hi0 va n vc hnc xa xc
    have hx0 : a.eval x = .slice xa 0 xc := hx
    unfold Oper.wp execOp
    simp only [ho, resolve, invoke, builtin, Sem.run_bind, Sem.run_pure, Result.andThen_ok, List.map_toArray, List.map_cons, List.map_nil, hs, hx0, hr]
    have h2 := h va vc w (by simpa using hown) ⟨rfl, rfl, rfl, Nat.le_refl _, fun _ _ _ => rfl⟩
    have h3 : K (a.put o.dst (.slice va n vc)) w := by simpa using h2
    exact h3
  · obtain ⟨g, off, rfl, hn5⟩ := own_news0 (b := 0) hc hl
    have hm1 : 0 < l.length := List.length_pos_iff.2 hl
    refine wp_append_lies w s x 45 ho base 3 i0 (.int .i64 0) 1 8 Try.underlying45 hi0 hz0 hz1 hz2 rfl (by decide) _ n (nums xs) hs hown ⟨g, off, none⟩ l.length xc (nums l) hx (by simp [nums]) hn5 (fun u hu => by obtain ⟨z, _, rfl⟩ := List.mem_map.1 hu; rfl) hm1 (by unfold maxLen; omega) (by omega) hb _ rfl ?_
    intro g4 cap4 w4 hown4 hgrow4 _ _
    exact h _ _ _ (by rw [nums_app]; exact hown4) hgrow4
/-- A kid in its box. -/
structure Kb (S : World) (b : Nat) (kt : Tl) (W : World) : Prop where
  k : Below S.heap.size S W
  t : W.heap[b]? = some (.cells #[.int .i64 kt.sym, .int .i64 kt.prod, .slice kt.a kt.kids.length kt.c] 79)
theorem Kb.below {S : World} {b : Nat} {kt : Tl} {W W' : World} (h : Kb S b kt W) (hb : Below W.heap.size W W') : Kb S b kt W' := ⟨h.k.trans (hb.mono h.k.size), (hb.block _ (heap_lt h.t)).trans h.t⟩
theorem Kb.grow {S : World} {b : Nat} {kt : Tl} {W W' : World} {v : Value} {n : Nat} {xs : List Value} (h : Kb S b kt W) (ho : W.ownsRow S.heap.size 3 1 v n xs) (hg : W.grownBy W' v.ownBlock) : Kb S b kt W' := by
  refine ⟨h.k.trans ((Below.refl _ _).grown hg h.k.size fun k hk => (own_block ho hk).1), (hg.block b (heap_lt h.t) fun e => ?_).trans h.t⟩
  obtain ⟨_, _, cur, hc⟩ := own_block ho e.symm
  have := h.t.symm.trans hc
  simp at this

set_option maxRecDepth 100000 in
set_option maxHeartbeats 8000000 in
theorem treeKids_walk (x : RawX) (a : Option Addr) (len cap : Nat) (zs : List Int) (deep how at_ prod dot place : Int) (w : World) (hx : RawAt w x) (hwd : RawWide x) (hr : IsRow .i64 w a len cap zs) (hcap : cap * 8 ≤ 140737488351232) (hhw : -9223372036854775808 ≤ how ∧ how ≤ 9223372036854775807) (haw : -9223372036854775808 ≤ at_ ∧ at_ ≤ 9223372036854775807) :
    Calls Try.prog 10 #[x.v, .slice a len cap, .int .i64 deep, .int .i64 how, .int .i64 at_, .int .i64 prod, .int .i64 dot, .int .i64 place] w fun e w' => e = .returned (.bool true) ∧ Below w.heap.size w w' := by
  have hln := row_len hr
  have HGR := Lib.hid fun W (h : Below w.heap.size w W) => grammar_0 x.calm W ((calm_at hx).below h) (calm_wide hwd) (by show (0 : Int) % 40 < 28; omega)
  have HZ := Lib.hid (row_cells hr)
  have HZW := Lib.hid (row_wide hr)
  have HZL := Lib.hid hln
  have HCP := Lib.hid hcap
  have HHW := Lib.hid hhw
  have HAW := Lib.hid haw
  have HWK := Lib.hid fun W => wakes8_any W
  obtain ⟨xp, xt, xn, xh, rows, xa, xc, word⟩ := x
  unfold RawX.calm RawX.v at *
  simp only at *
  have hb0 := box_belowT w (.cells #[.int .i64 xp, .int .i64 xt, .int .i64 xn, .int .i64 0, .slice xa rows.length xc, .string word] 24)
  have HG1 := Lib.hid (HGR.out _ hb0)
  have HB1 := Lib.hid hb0
  clear hb0 HGR hx hwd hr hcap hln hhw haw
  go_enter Try.func10, Try.ntmps10
  go_upto_region 3 with (go_at_call 12; (with_reducible refine HG1.out.mono ?_); rintro e w2 ⟨hb2, a1, a2, a3, c1, c2, c3, g, rfl, hg2, hc2⟩)
  obtain ⟨hbG, -, qG⟩ := one_alloc w2 (.cells #[.slice a1 g.terms.length c1, .slice a2 g.nons.length c2, .slice a3 g.prods.length c3] 28)
  have HBG := Lib.hid ((HB1.out.trans (hb2.mono HB1.out.size)).trans (hbG.mono (Nat.le_trans HB1.out.size hb2.size)))
  have HQG := Lib.hid qG
  have HGG := Lib.hid (hg2.below hbG)
  have HCG := Lib.hid hc2
  clear hb2 hg2 hc2 hbG qG HG1 HB1
  generalize w2.alloc (.cells #[.slice a1 g.terms.length c1, .slice a2 g.nons.length c2, .slice a3 g.prods.length c3] 28) = S at *
  generalize w2.heap.size = BG at *
  have HOF := Lib.hid (treeOf2_any g HCG.out a1 a2 a3 c1 c2 c3 a cap (zs.take len) deep how at_ S HGG.out (HZ.out.below HBG.out) (by have := HZL.out; omega) (by have := HCP.out; omega) HZW.out HHW.out HAW.out)
  rw [HZL.out.1] at HOF
  unfold OfEnd2 at HOF
  have g0 := (blk_cell (i := 0) HQG.out rfl).1
  have g1 := (blk_cell (i := 1) HQG.out rfl).1
  have g2 := (blk_cell (i := 2) HQG.out rfl).1
  have lG := heap_lt HQG.out
  go_upto_region 4 with (go_at_call 55; (with_reducible refine HOF.out.mono ?_); rintro e w3 ⟨hb3, tl, rfl, hli, hmi, hsz⟩)
  obtain ⟨s, p, ta, tc, tk⟩ := tl
  simp only [Tl.sym, Tl.prod, Tl.a, Tl.c, Tl.kids] at *
  obtain ⟨hbT, -, qT⟩ := one_alloc w3 (.cells #[.int .i64 s, .int .i64 p, .slice ta tk.length tc] 79)
  have hb3T := hb3.trans (hbT.mono hb3.size)
  have HBT := Lib.hid (HBG.out.trans (hb3T.mono HBG.out.size))
  have HQT := Lib.hid qT
  have HLI := Lib.hid (hli.under hbT)
  have HMI := Lib.hid hmi
  have HSZ := Lib.hid hsz
  have HGT := Lib.hid (HGG.out.below hb3T)
  have HQ2 := Lib.hid ((hb3T.block _ lG).trans HQG.out)
  clear hb3 hbT qT hli hmi hsz hb3T g0 g1 g2 lG HOF HGG HQG HBG
  generalize w3.alloc (.cells #[.int .i64 s, .int .i64 p, .slice ta tk.length tc] 79) = S3 at *
  generalize w3.heap.size = T at *
  have HCL : Hid (∀ W, Below S3.heap.size S3 W → (W.cell? ⟨BG, 0, none⟩ = some (.slice a1 g.terms.length c1) ∧ W.cell? ⟨BG, 1, none⟩ = some (.slice a2 g.nons.length c2) ∧ W.cell? ⟨BG, 2, none⟩ = some (.slice a3 g.prods.length c3) ∧ W.cell? ⟨T, 0, none⟩ = some (.int .i64 s) ∧ W.cell? ⟨T, 1, none⟩ = some (.int .i64 p) ∧ W.cell? ⟨T, 2, none⟩ = some (.slice ta tk.length tc)) ∧ BG < W.heap.size ∧ T < W.heap.size) := Lib.hid fun W hW => by
    have z0 := (hW.block _ (heap_lt HQ2.out)).trans HQ2.out
    have z1 := (hW.block _ (heap_lt HQT.out)).trans HQT.out
    exact ⟨⟨(blk_cell z0 rfl).1, (blk_cell z0 rfl).1, (blk_cell z0 rfl).1, (blk_cell z1 rfl).1, (blk_cell z1 rfl).1, (blk_cell z1 rfl).1⟩, heap_lt z0, heap_lt z1⟩
  have HB0 := Lib.hid (Below.refl S3.heap.size S3)
  have HLV := Lib.hid fun W (hW : Below S3.heap.size S3 W) => tleaves_any (Tl.mk s p ta tc tk) _ W (HLI.out.under hW) (by have := HSZ.out; omega)
  have HSI := Lib.hid fun W (hW : Below S3.heap.size S3 W) => tsize_any (Tl.mk s p ta tc tk) _ W (HLI.out.under hW) (by have := HSZ.out; omega)
  unfold Tl.v at HLV HSI
  simp only [Tl.sym, Tl.prod, Tl.a, Tl.c, Tl.kids] at HLV HSI
  obtain ⟨⟨g0, g1, g2, t0, t1, t2⟩, lG, lT⟩ := HCL.out S3 HB0.out
  by_cases hp : p = -1
  · subst hp
    rw [leaves_at_leaf] at HLV
    have HNEW : Hid (∀ W : World, Cells (W.alloc (.cells #[.int .i64 s] 3)) (some ⟨W.heap.size, 0, none⟩) (nums [s])) := Lib.hid fun W => cells_new W #[.int .i64 s] 3
    have HKS := Lib.hid fun (a b : Option Addr) (ca cb : Nat) (W : World) (h1 : Cells W a (nums [s])) (h2 : Cells W b (nums [s])) => (keepSame2_any a b ca cb [s] [s] W h1 h2 (by simp) (by simp)).mono fun e w' ⟨he, hw⟩ => (⟨he.trans (by rw [decide_eq_true rfl]), hw⟩ : e = Ending.returned (.bool true) ∧ ∃ n, w' = W.drewN n)
    simp only [List.length_cons, List.length_nil, Nat.zero_add] at HLV HKS
    have HKX : Hid (∀ W W', Hid (Below S3.heap.size S3 W) → Below W.heap.size W W' → (W'.cell? ⟨T, 0, none⟩ = some (.int .i64 s) ∧ W'.cell? ⟨T, 1, none⟩ = some (.int .i64 (-1)) ∧ W'.cell? ⟨T, 2, none⟩ = some (.slice ta tk.length tc)) ∧ Hid (Below S3.heap.size S3 W')) := Lib.hid fun W W' h k => by
      have h2 := h.out.trans (k.mono h.out.size)
      obtain ⟨⟨_, _, _, h3, h4, h5⟩, _, _⟩ := HCL.out W' h2
      exact ⟨⟨h3, h4, h5⟩, Lib.hid h2⟩
    have HKD : Hid (∀ W W' n, Hid (Below S3.heap.size S3 W) → W' = W.drewN n → Below W.heap.size W W') := Lib.hid fun W W' n h e => by subst e; exact below_drews (Below.refl _ _) _
    have HBX : Hid (∀ (W : World) (o : Obj), Below W.heap.size W (W.alloc o)) := Lib.hid fun W o => box_belowT W o
    have HOLD : Hid (∀ W, Below (S3.alloc (.cells #[.int .i64 s] 3)).drew.heap.size (S3.alloc (.cells #[.int .i64 s] 3)).drew W → Cells W (some ⟨S3.heap.size, 0, none⟩) (nums [s])) := Lib.hid fun W h => ((HNEW.out S3).below (Below.refl _ _).drew).below h
    cases tk with
    | nil =>
      rw [size_at_leaf, show ((1 : Nat) : Int) = 1 from rfl] at HSI
      simp only [List.length_nil] at *
      go_upto_region 5 with fail
      go_region_held3 (fun w' => (w'.cell? ⟨T, 0, none⟩ = some (.int .i64 s) ∧ w'.cell? ⟨T, 1, none⟩ = some (.int .i64 (-1)) ∧ w'.cell? ⟨T, 2, none⟩ = some (.slice ta 0 tc)) ∧ Hid (Below S3.heap.size S3 w'))
        (first | (exact HKX.out _ _ HB0 (Below.refl _ _).drew) | (exact HKX.out _ _ (And.right (show _ ∧ Hid (Below S3.heap.size S3 _) by assumption)) (HBX.out _ _)) | (exact HKX.out _ _ (And.right (show _ ∧ Hid (Below S3.heap.size S3 _) by assumption)) (by assumption)) | go_keep)
        (first
          | (go_at_call 48; (with_reducible refine (HLV.out _ (And.right (show _ ∧ Hid (Below S3.heap.size S3 _) by assumption)).out).mono ?_); rintro e w5 ⟨hb5, a5, c5, rfl, ho5⟩; have HO5 := Lib.hid (own_cells ho5).1; clear ho5)
          | (go_at_call 37; (with_reducible refine (HKS.out _ _ _ _ _ (HO5.out.below (HBX.out _ _)) (HNEW.out _)).mono ?_); rintro e w6 ⟨rfl, n6, hw6⟩; have hb6 := HKD.out _ _ _ (And.right (show _ ∧ Hid (Below S3.heap.size S3 _) by assumption)) hw6; clear hw6)
          | (go_at_call 37; (with_reducible refine (HKS.out _ _ _ _ _ HO5.out (HOLD.out _ hb5)).mono ?_); rintro e w6 ⟨rfl, n6, hw6⟩; have hb6 := HKD.out _ _ _ (And.right (show _ ∧ Hid (Below S3.heap.size S3 _) by assumption)) hw6; clear hw6)
          | (go_at_call 49; (with_reducible refine (HSI.out _ (And.right (show _ ∧ Hid (Below S3.heap.size S3 _) by assumption)).out).mono ?_); rintro e w7 ⟨rfl, hb7⟩)
          | (go_at_call 51; refine (HWK.out _).mono ?_; rintro e w8 ⟨rfl, hb8⟩))
      all_goals
        go_wp2
        go_ret
        exact ⟨rfl, HBT.out.trans ((And.right (show _ ∧ Hid (Below S3.heap.size S3 _) by assumption)).out.mono HBT.out.size)⟩
    | cons k0 kr =>
      have hk0 : (0 : Int) < (kr.length : Int) + 1 := by omega
      have hk1 : decide ((kr.length : Int) + 1 > 0) = true := decide_eq_true hk0
      have hk2 : 0 < kr.length + 1 := Nat.succ_pos _
      have hk3 : decide (0 < kr.length + 1) = true := decide_eq_true hk2
      simp only [List.length_cons] at *
      go_upto_region 5 with fail
      have HBD : Hid (Below S3.heap.size S3 S3.drew) := Lib.hid (Below.refl _ _).drew
      have HBA : Hid (Below S3.heap.size S3 (S3.alloc (.cells #[.int .i64 s] 3)).drew) := Lib.hid ((Below.refl _ _).alloc (Nat.le_refl _) _).drew
      have HTR : Hid (∀ W W', Below S3.heap.size S3 W → Below W.heap.size W W' → Below S3.heap.size S3 W') := Lib.hid fun W W' h k => h.trans (k.mono h.size)
      first
        | (go_region_law (first
            | (go_simp; go_at_call 48; (with_reducible refine (HLV.out _ HBD.out).mono ?_); rintro e w5 ⟨hb5, a5, c5, rfl, ho5⟩; have HO5 := Lib.hid (own_cells ho5).1; clear ho5; have HB5 := Lib.hid (HTR.out _ _ HBD.out hb5); obtain ⟨⟨g50, g51, g52, t50, t51, t52⟩, lG5, lT5⟩ := HCL.out w5 HB5.out; obtain ⟨⟨g60, g61, g62, t60, t61, t62⟩, lG6, lT6⟩ := HCL.out (w5.alloc (.cells #[.int .i64 s] 3)) (HTR.out _ _ HB5.out (HBX.out _ _)))
            | (go_simp; go_at_call 48; (with_reducible refine (HLV.out _ HBA.out).mono ?_); rintro e w5 ⟨hb5, a5, c5, rfl, ho5⟩; have HO5 := Lib.hid (own_cells ho5).1; clear ho5; have HB5 := Lib.hid (HTR.out _ _ HBA.out hb5); obtain ⟨⟨g50, g51, g52, t50, t51, t52⟩, lG5, lT5⟩ := HCL.out w5 HB5.out)
            | (go_simp; go_at_call 37; (with_reducible refine (HKS.out _ _ _ _ _ (HO5.out.below (HBX.out _ _)) (HNEW.out _)).mono ?_); rintro e w6 ⟨rfl, n6, hw6⟩; have hw7 := HKD.out _ _ _ (Lib.hid (HTR.out _ _ HB5.out (HBX.out _ _))) hw6; have HB6 := Lib.hid (HTR.out _ _ (HTR.out _ _ HB5.out (HBX.out _ _)) hw7); clear hw6 hw7; obtain ⟨⟨g70, g71, g72, t70, t71, t72⟩, lG7, lT7⟩ := HCL.out w6 HB6.out)
            | (go_simp; go_at_call 37; (with_reducible refine (HKS.out _ _ _ _ _ HO5.out (HOLD.out _ hb5)).mono ?_); rintro e w6 ⟨rfl, n6, hw6⟩; have hw7 := HKD.out _ _ _ HB5 hw6; have HB6 := Lib.hid (HTR.out _ _ HB5.out hw7); clear hw6 hw7; obtain ⟨⟨g70, g71, g72, t70, t71, t72⟩, lG7, lT7⟩ := HCL.out w6 HB6.out)
            | (go_simp; go_at_call 51; refine (HWK.out _).mono ?_; rintro e w8 ⟨rfl, hb8⟩; have HB8 := Lib.hid (HTR.out _ _ HB6.out hb8))))
        | fail
      all_goals
        go_wp2
        go_ret
        exact ⟨rfl, HBT.out.trans (HB8.out.mono HBT.out.size)⟩
  · have hpb : (p == -1) = false := beq_eq_false_iff_ne.2 hp
    have hp1 := HCG.out.p1
    have hp24 := HCG.out.p24
    have hkl : tk.length ≤ 9332 := by have := size_len s p ta tc tk; have := HSZ.out; omega
    have HP := Lib.hid hp
    have HCH := Lib.hid (tcheck_any (Tl.mk s p ta tc tk) _ _ g s S3 HGT.out (check_fitsK HCG.out) HLI.out HMI.out (by have := HSZ.out; omega))
    unfold Tl.v at HCH
    simp only [Tl.sym, Tl.prod, Tl.a, Tl.c, Tl.kids] at HCH
    have HKC : Hid (checkT g (Tl.mk s p ta tc tk).plain s = true → ∀ kt ∈ tk, checkT g kt.plain kt.sym = true) := Lib.hid fun h kt hkt => by
      rw [Tl.plain_mk] at h
      rcases (check_cases h).2 with ⟨h1, _⟩ | ⟨_, _, _, h2⟩
      · exact absurd h1 HP.out
      · have := h2 _ (List.mem_map_of_mem hkt)
        rwa [Tl.plain_sym] at this
    have HSE : Hid (sizeT (Tl.mk s p ta tc tk).plain = 1 + sizeK (tk.map Tl.plain)) := Lib.hid (by rw [Tl.plain_mk, sizeT])
    have HLE : Hid (leavesT (Tl.mk s p ta tc tk).plain = leavesK (tk.map Tl.plain)) := Lib.hid (by rw [Tl.plain_mk, leavesT, if_neg hp])
    have HAF : Hid (∀ P D L : Int, atK P D L (tk.map Tl.plain) 0 = true → atT P D L (Tl.mk s p ta tc tk).plain 0 = true) := Lib.hid fun P D L h => by rw [Tl.plain_mk]; exact at_found P D L s p _ HP.out h
    have HAO : Hid (∀ P D L : Int, p ≠ P → atT P D L (Tl.mk s p ta tc tk).plain 0 = atK P D L (tk.map Tl.plain) 0) := Lib.hid fun P D L h => by rw [Tl.plain_mk]; exact at_other P D L s p _ HP.out h
    have HLL : Hid (∀ j, (leavesK ((tk.map Tl.plain).take j)).length ≤ 9332 ∧ sizeK ((tk.map Tl.plain).take j) ≤ 9331) := Lib.hid fun j => by
      have h1 := leavesK_size ((tk.map Tl.plain).take j)
      have h2 := sizeK_take (tk.map Tl.plain) j
      have h3 := HSE.out
      have h4 := HSZ.out
      omega
    obtain ⟨m1, hm1, hl1⟩ : ∃ m : Nat, prod % (g.prods.length : Int) = m ∧ m < 24 := ⟨(prod % (g.prods.length : Int)).toNat, by have := Int.emod_nonneg prod (show (g.prods.length : Int) ≠ 0 by omega); omega, by have := Int.emod_nonneg prod (show (g.prods.length : Int) ≠ 0 by omega); have := Int.emod_lt_of_pos prod (show (0 : Int) < (g.prods.length : Int) by omega); omega⟩
    obtain ⟨m2, hm2, hl2⟩ : ∃ m : Nat, dot % 4 = m ∧ m < 4 := ⟨(dot % 4).toNat, by omega, by omega⟩
    obtain ⟨m3, hm3, hl3⟩ : ∃ m : Nat, place % 9 = m ∧ m < 9 := ⟨(place % 9).toNat, by omega, by omega⟩
    have HW1 := Lib.hid fun W => (within_any prod (g.prods.length : Int) (by omega) (by omega) W).mono fun e w' ⟨he, hw⟩ => (⟨he.trans (by rw [hm1]), hw⟩ : e = Ending.returned (.int .i64 m1) ∧ w' = W)
    have HW2 := Lib.hid fun W => (within_any dot 4 (by omega) (by omega) W).mono fun e w' ⟨he, hw⟩ => (⟨he.trans (by rw [hm2]), hw⟩ : e = Ending.returned (.int .i64 m2) ∧ w' = W)
    have HW3 := Lib.hid fun W => (within_any place 9 (by omega) (by omega) W).mono fun e w' ⟨he, hw⟩ => (⟨he.trans (by rw [hm3]), hw⟩ : e = Ending.returned (.int .i64 m3) ∧ w' = W)
    have hF : Hid (checkT g (Tl.mk s p ta tc tk).plain s = checkT g (Tl.mk s p ta tc tk).plain s) := Lib.hid rfl
    generalize checkT g (Tl.mk s p ta tc tk).plain s = F at *
    have HCLW := Lib.hid HCL.out
    clear hm1 hm2 hm3 hp hp1 hp24 hF
    go_upto_region 10 with (first
      | (go_at_call 46; refine HCH.out.mono ?_; rintro e w4 ⟨rfl, hb4⟩; clear g0 g1 g2 t0 t1 t2 lG lT; obtain ⟨⟨g0, g1, g2, t0, t1, t2⟩, lG, lT⟩ := HCL.out _ hb4)
      | (go_at_call 19; first
        | ((with_reducible refine (HW1.out _).mono ?_); rintro e w5 ⟨rfl, hw5⟩; rw [hw5]; clear hw5)
        | ((with_reducible refine (HW2.out _).mono ?_); rintro e w5 ⟨rfl, hw5⟩; rw [hw5]; clear hw5)
        | ((with_reducible refine (HW3.out _).mono ?_); rintro e w5 ⟨rfl, hw5⟩; rw [hw5]; clear hw5)))
    have HB4 := Lib.hid hb4
    clear hb4
    go_wp2
    clear g0 g1 g2 t0 t1 t2 lG lT
    go_loopw [19, 20, 21, 74] (fun lv sv fv i wr => ∃ (j n z : Nat) (la : Option Addr) (lc : Nat) (b : Bool), j ≤ tk.length ∧ i = .int .i64 j ∧ lv = .slice la n lc ∧ sv = .int .i64 z ∧ fv = .bool b ∧ n ≤ 9332 ∧ z ≤ 9332 ∧ Hid (n = (leavesK ((tk.map Tl.plain).take j)).length) ∧ Hid (z = 1 + sizeK ((tk.map Tl.plain).take j)) ∧ Hid (b = atK m1 m2 m3 ((tk.map Tl.plain).take j) 0) ∧ Hid (Below S3.heap.size S3 wr) ∧ Hid (wr.ownsRow S3.heap.size 3 1 (.slice la n lc) n (nums (leavesK ((tk.map Tl.plain).take j))))) (fun _ _ _ i _ => tk.length - (intOf i).toNat)
    case atStart => exact ⟨0, 0, 1, none, 0, false, Nat.zero_le _, rfl, rfl, rfl, rfl, by omega, by omega, Lib.hid rfl, Lib.hid rfl, Lib.hid rfl, HB4, Lib.hid (World.ownsRow_nil _ _ _ _)⟩
    case round =>
      obtain ⟨j, n, z, la, lc, b, hj, rfl, rfl, rfl, rfl, hn9, hz9, HN, HZZ, HBB, HBE, HOW⟩ := hrel
      by_cases hlt : j < tk.length
      · obtain ⟨kt, hkt⟩ : ∃ kt, tk[j]? = some kt := ⟨_, List.getElem?_eq_getElem hlt⟩
        have hmem := List.mem_of_getElem? hkt
        obtain ⟨bk, off, rfl, hbk, _, x0, x1, x2⟩ := kid_at (HLI.out.under HBE.out) hkt
        have e1 : (j : Int) < tk.length := by omega
        have hpk := map_at hkt
        have HLV2 : Hid (leavesK ((tk.map Tl.plain).take (j + 1)) = leavesK ((tk.map Tl.plain).take j) ++ leavesT kt.plain) := Lib.hid (leavesK_stepK _ _ hpk)
        have HSV2 : Hid (sizeK ((tk.map Tl.plain).take (j + 1)) = sizeK ((tk.map Tl.plain).take j) + sizeT kt.plain) := Lib.hid (sizeK_drop _ _ hpk)
        have HAV2 : Hid (atK m1 m2 m3 ((tk.map Tl.plain).take (j + 1)) 0 = (b || foundB m1 m2 m3 n kt.plain)) := Lib.hid (by rw [found_step m1 m2 m3 _ _ hpk, HBB.out, HN.out])
        have hzk := size_kid (s := s) (p := p) (a := some ⟨bk, off, none⟩) (c := tc) hmem
        have hszk : sizeT kt.plain ≤ 9331 := by have := HSZ.out; omega
        have HLI2 := Lib.hid fun (W : World) (hW : Below S3.heap.size S3 W) => (HLI.out.under hW).kid kt hmem
        have hmk : mildT kt.plain := by have := HMI.out; rw [Tl.plain_mk, mildT] at this; exact mildK_mem this.2.2 _ (List.mem_map_of_mem hmem)
        have HKK : Hid (F = true → checkT g kt.plain kt.sym = true) := Lib.hid fun h => HKC.out h kt hmem
        have HCK := Lib.hid fun (W : World) (hW : Below S3.heap.size S3 W) => tcheck_any kt _ _ g kt.sym W (HGT.out.below hW) (check_fitsK HCG.out) (HLI2.out W hW) hmk (by omega)
        have HLK := Lib.hid fun (W : World) (hW : Below S3.heap.size S3 W) => tleaves_any kt _ W (HLI2.out W hW) (by omega)
        have HSK := Lib.hid fun (W : World) (hW : Below S3.heap.size S3 W) => tsize_any kt _ W (HLI2.out W hW) (by omega)
        have HAK := Lib.hid fun (W : World) (hW : Below S3.heap.size S3 W) => tat_any kt _ m1 m2 (m3 - n) W (HLI2.out W hW) (by omega)
        unfold Tl.v at HCK HLK HSK HAK
        have hn2 := (HLL.out (j + 1)).1
        have hz2 := (HLL.out (j + 1)).2
        rw [HLV2.out, List.length_append, ← HN.out] at hn2
        rw [HSV2.out] at hz2
        have hz3 : z + sizeT kt.plain ≤ 9332 := by have := HZZ.out; omega
        have HKB0 : Hid (Kb S3 wr.heap.size kt (wr.alloc (.cells #[.int .i64 kt.sym, .int .i64 kt.prod, .slice kt.a kt.kids.length kt.c] 79))) := Lib.hid ⟨HBE.out.alloc HBE.out.size _, heap_alloc_new wr _⟩
        have HOW0 : Hid ((wr.alloc (.cells #[.int .i64 kt.sym, .int .i64 kt.prod, .slice kt.a kt.kids.length kt.c] 79)).ownsRow S3.heap.size 3 1 (.slice la n lc) n (nums (leavesK ((tk.map Tl.plain).take j)))) := Lib.hid (own_same HOW.out fun g _ hg => (box_belowT wr _).block g hg)
        clear hkt hmem hpk hzk hz2 hmk
        go_upto_region 13 with fail
        clear x0 x1 x2 hbk
        generalize wr.alloc (.cells #[.int .i64 kt.sym, .int .i64 kt.prod, .slice kt.a kt.kids.length kt.c] 79) = V at *
        generalize wr.heap.size = KBX at *
        have HCV : Hid (∀ W, Kb S3 KBX kt W → (W.cell? ⟨BG, 0, none⟩ = some (.slice a1 g.terms.length c1) ∧ W.cell? ⟨BG, 1, none⟩ = some (.slice a2 g.nons.length c2) ∧ W.cell? ⟨BG, 2, none⟩ = some (.slice a3 g.prods.length c3) ∧ W.cell? ⟨KBX, 0, none⟩ = some (.int .i64 kt.sym) ∧ W.cell? ⟨KBX, 1, none⟩ = some (.int .i64 kt.prod) ∧ W.cell? ⟨KBX, 2, none⟩ = some (.slice kt.a kt.kids.length kt.c)) ∧ BG < W.heap.size ∧ KBX < W.heap.size) := Lib.hid fun W hW => by
          obtain ⟨⟨g0, g1, g2, _, _, _⟩, lG, _⟩ := HCL.out W hW.k
          exact ⟨⟨g0, g1, g2, (blk_cell hW.t rfl).1, (blk_cell hW.t rfl).1, (blk_cell hW.t rfl).1⟩, lG, heap_lt hW.t⟩
        obtain ⟨⟨g0, g1, g2, t0, t1, t2⟩, lG, lK⟩ := HCV.out V HKB0.out
        go_cut [86] from 78 to 85 (fun v W => v = .bool false ∧ Hid (Kb S3 KBX kt W) ∧ Hid (W.ownsRow S3.heap.size 3 1 (.slice la n lc) n (nums (leavesK ((tk.map Tl.plain).take j)))))
        case first =>
          cases F with
          | false =>
            go_wp2_with fail
            go_meet
            case rel => exact ⟨rfl, HKB0, HOW0⟩
          | true =>
            rw [HKK.out rfl] at HCK
            go_wp2_with (go_at_call 46; (with_reducible refine (HCK.out _ HKB0.out.k).mono ?_); rintro e w6 ⟨rfl, hb6⟩)
            go_meet
            case rel => exact ⟨rfl, Lib.hid (HKB0.out.below hb6), Lib.hid (own_same HOW0.out fun g _ hg => hb6.block g hg)⟩
        case rest =>
          obtain ⟨rfl, HKB1, HOW1⟩ := hcut
          rename World => V1
          clear g0 g1 g2 t0 t1 t2 lG lK
          obtain ⟨⟨g0, g1, g2, t0, t1, t2⟩, lG, lK⟩ := HCV.out V1 HKB1.out
          go_upto_region 15 with fail
          go_cut [21] from 87 to 103 (fun v W => v = .bool (b || foundB m1 m2 m3 n kt.plain) ∧ Hid (Kb S3 KBX kt W) ∧ Hid (W.ownsRow S3.heap.size 3 1 (.slice la n lc) n (nums (leavesK ((tk.map Tl.plain).take j)))))
          case first =>
            cases b with
            | true =>
              go_wp2_with fail
              go_meet
              case rel => exact ⟨by simp, HKB1, HOW1⟩
            | false =>
              by_cases hle : (n : Int) ≤ m3
              · have hfd : foundB m1 m2 m3 n kt.plain = atT m1 m2 (m3 - n) kt.plain 0 := by unfold foundB; rw [decide_eq_true hle, Bool.true_and]
                have HFD := Lib.hid hfd
                have hle2 : decide ((m3 : Int) ≥ n) = true := decide_eq_true hle
                have hle3 : n ≤ m3 := by omega
                have hle4 : decide (n ≤ m3) = true := decide_eq_true hle3
                clear hfd
                go_wp2_with (go_at_call 61; (with_reducible refine (HAK.out _ HKB1.out.k).mono ?_); rintro e w6 ⟨rfl, hb6⟩)
                go_meet
                case rel => exact ⟨by rw [HFD.out, Bool.false_or], Lib.hid (HKB1.out.below hb6), Lib.hid (own_same HOW1.out fun g _ hg => hb6.block g hg)⟩
              · have hfd : foundB m1 m2 m3 n kt.plain = false := by unfold foundB; rw [decide_eq_false hle, Bool.false_and]
                have HFD := Lib.hid hfd
                have hle2 : decide ((m3 : Int) ≥ n) = false := decide_eq_false hle
                have hle3 : ¬ n ≤ m3 := by omega
                have hle4 : decide (n ≤ m3) = false := decide_eq_false hle3
                clear hfd hle
                go_wp2_with fail
                go_meet
                case rel => exact ⟨by rw [HFD.out]; rfl, HKB1, HOW1⟩
          case rest =>
            obtain ⟨rfl, HKB2, HOW2⟩ := hcut
            rename World => V2
            clear g0 g1 g2 t0 t1 t2 lG lK
            obtain ⟨⟨g0, g1, g2, t0, t1, t2⟩, lG, lK⟩ := HCV.out V2 HKB2.out
            have HKEEP : Hid (∀ W W', Hid (Kb S3 KBX kt W) → Below W.heap.size W W' → (W'.cell? ⟨KBX, 0, none⟩ = some (.int .i64 kt.sym) ∧ W'.cell? ⟨KBX, 1, none⟩ = some (.int .i64 kt.prod) ∧ W'.cell? ⟨KBX, 2, none⟩ = some (.slice kt.a kt.kids.length kt.c)) ∧ Hid (Kb S3 KBX kt W')) := Lib.hid fun W W' h k => by
              have h2 := h.out.below k
              exact ⟨⟨(blk_cell h2.t rfl).1, (blk_cell h2.t rfl).1, (blk_cell h2.t rfl).1⟩, Lib.hid h2⟩
            have HKEEQ : Hid (∀ W, Hid (Kb S3 KBX kt W) → (W.cell? ⟨KBX, 0, none⟩ = some (.int .i64 kt.sym) ∧ W.cell? ⟨KBX, 1, none⟩ = some (.int .i64 kt.prod) ∧ W.cell? ⟨KBX, 2, none⟩ = some (.slice kt.a kt.kids.length kt.c)) ∧ Hid (Kb S3 KBX kt W)) := Lib.hid fun W h => ⟨⟨(blk_cell h.out.t rfl).1, (blk_cell h.out.t rfl).1, (blk_cell h.out.t rfl).1⟩, h⟩
            have HOWB : Hid (∀ W W', Hid (W.ownsRow S3.heap.size 3 1 (.slice la n lc) n (nums (leavesK ((tk.map Tl.plain).take j)))) → Below W.heap.size W W' → Hid (W'.ownsRow S3.heap.size 3 1 (.slice la n lc) n (nums (leavesK ((tk.map Tl.plain).take j))))) := Lib.hid fun W W' h k => Lib.hid (own_same h.out fun g _ hg => k.block g hg)
            have HOWG : Hid (∀ (W W' : World) (v : Value) (m : Nat) (xs : List Value), Hid (W.ownsRow S3.heap.size 3 1 v m xs) → Below W.heap.size W W' → Hid (W'.ownsRow S3.heap.size 3 1 v m xs)) := Lib.hid fun W W' v m xs h k => Lib.hid (own_same h.out fun g _ hg => k.block g hg)
            have HOWD : Hid (V2.drew.ownsRow S3.heap.size 3 1 (.slice la n lc) n (nums (leavesK ((tk.map Tl.plain).take j)))) := HOW2
            have HKLE : Hid (∀ W, Hid (Kb S3 KBX kt W) → S3.heap.size ≤ W.heap.size) := Lib.hid fun W h => h.out.k.size
            have hzI : (z : Int) ≤ 9332 := by omega
            have hszI : (sizeT kt.plain : Int) ≤ 9331 := by omega
            have hwz : IntKind.i64.wrap ((z : Int) + (sizeT kt.plain : Int)) = (z : Int) + (sizeT kt.plain : Int) := IntWalk.i64_in _ (by omega)
            generalize hLT : leavesT kt.plain = LT at *
            generalize hLK : leavesK ((tk.map Tl.plain).take j) = LK0 at *
            have HLT := Lib.hid hLT
            have HLKq := Lib.hid hLK
            clear hLT hLK
            go_upto_region 16 with fail
            go_region_held3 (fun w' => (w'.cell? ⟨KBX, 0, none⟩ = some (.int .i64 kt.sym) ∧ w'.cell? ⟨KBX, 1, none⟩ = some (.int .i64 kt.prod) ∧ w'.cell? ⟨KBX, 2, none⟩ = some (.slice kt.a kt.kids.length kt.c)) ∧ Hid (Kb S3 KBX kt w'))
              (first | (exact HKEEP.out _ _ HKB2 (Below.refl _ _).drew) | (exact HKEEQ.out _ (by assumption)) | (exact HKEEP.out _ _ (And.right (show _ ∧ Hid (Kb S3 KBX kt _) by assumption)) (by assumption)) | go_keep)
              (first
                | (go_at_call 48; (with_reducible refine (HLK.out _ (And.right (show _ ∧ Hid (Kb S3 KBX kt _) by assumption)).out.k).mono ?_); rintro e w7 ⟨hb7, a7, c7, rfl, ho7⟩; have HR7 := Lib.hid (own_cells ho7).1; (first | (have HOW7 := HOWB.out _ _ HOW8 hb7) | (have HOW7 := HOWB.out _ _ HOWD hb7)); clear ho7)
                | (go_at_call 49; (with_reducible refine (HSK.out _ (And.right (show _ ∧ Hid (Kb S3 KBX kt _) by assumption)).out.k).mono ?_); rintro e w8 ⟨rfl, hb8⟩; (first | (have HOA9 := HOWG.out _ _ _ _ _ HOA hb8) | (have HR8 := Lib.hid (HR7.out.below hb8); have HOW8 := HOWB.out _ _ HOW7 hb8) | (have HOW8 := HOWB.out _ _ HOWD hb8)))
                | (refine step_appG ?_ (.tmp 104) (.tmp 106) ?_ S3.heap.size la n lc LK0 ?_ HOW8.out (HKLE.out _ (And.right (show _ ∧ Hid (Kb S3 KBX kt _) by assumption))) a7 LT c7 ?_ HR8.out ?_ ?_; (rfl); (rfl); (rfl); (rfl); (omega); intro va vc w9 ho9 hg9; have HOA := Lib.hid ho9; have HKA := Lib.hid ((And.right (show _ ∧ Hid (Kb S3 KBX kt _) by assumption)).out.grow HOW8.out hg9); clear ho9 hg9)
                | (refine step_appG ?_ (.tmp 104) (.tmp 106) ?_ S3.heap.size la n lc LK0 ?_ HOW7.out (HKLE.out _ (And.right (show _ ∧ Hid (Kb S3 KBX kt _) by assumption))) a7 LT c7 ?_ HR7.out ?_ ?_; (rfl); (rfl); (rfl); (rfl); (omega); intro va vc w9 ho9 hg9; have HOA := Lib.hid ho9; have HKA := Lib.hid ((And.right (show _ ∧ Hid (Kb S3 KBX kt _) by assumption)).out.grow HOW7.out hg9); clear ho9 hg9))
            all_goals
              have HEND : Hid (Kb S3 KBX kt _) := (And.right (show _ ∧ Hid (Kb S3 KBX kt _) by assumption))
              go_wp2
              first
                | exact ⟨⟨j + 1, n + LT.length, z + sizeT kt.plain, va, vc, _, by omega, by go_num, rfl, by go_num, rfl, hn2, hz3, Lib.hid (by rw [HLV2.out, List.length_append, HN.out]), Lib.hid (by rw [HSV2.out, HZZ.out]; omega), Lib.hid HAV2.out.symm, Lib.hid HEND.out.k, Lib.hid (by rw [HLV2.out]; exact HOA9.out)⟩, by simp [intOf]; omega⟩
                | exact ⟨⟨j + 1, n + LT.length, z + sizeT kt.plain, va, vc, _, by omega, by go_num, rfl, by go_num, rfl, hn2, hz3, Lib.hid (by rw [HLV2.out, List.length_append, HN.out]), Lib.hid (by rw [HSV2.out, HZZ.out]; omega), Lib.hid HAV2.out.symm, Lib.hid HEND.out.k, Lib.hid (by rw [HLV2.out]; exact HOA.out)⟩, by simp [intOf]; omega⟩
      · have e1 : ¬ (j : Int) < tk.length := by omega
        obtain rfl : j = tk.length := by omega
        have htl : (tk.map Tl.plain).take tk.length = tk.map Tl.plain := by rw [List.take_of_length_le (by rw [List.length_map]; exact Nat.le_refl _)]
        rw [htl] at HN HZZ HBB HOW
        rw [HLE.out] at HLV
        rw [HSE.out, ← HZZ.out] at HSI
        rw [← HN.out] at HLV
        have HKS := Lib.hid fun (a : Option Addr) (ca : Nat) (W : World) (h1 : Cells W a (nums (leavesK (tk.map Tl.plain)))) (h2 : Cells W la (nums (leavesK (tk.map Tl.plain)))) => (keepSame2_any a la ca lc (leavesK (tk.map Tl.plain)) (leavesK (tk.map Tl.plain)) W h1 h2 (by have := HN.out; omega) (by have := HN.out; omega)).mono fun e w' ⟨he, hw⟩ => (⟨he.trans (by rw [decide_eq_true rfl]), hw⟩ : e = Ending.returned (.bool true) ∧ ∃ n, w' = W.drewN n)
        rw [← HN.out] at HKS
        have HAT := Lib.hid fun (W : World) (hW : Below S3.heap.size S3 W) => tat_any (Tl.mk s p ta tc tk) _ m1 m2 m3 W (HLI.out.under hW) (by have := HSZ.out; omega)
        unfold Tl.v at HAT
        simp only [Tl.sym, Tl.prod, Tl.a, Tl.c, Tl.kids] at HAT
        have HTR : Hid (∀ W W', Below S3.heap.size S3 W → Below W.heap.size W W' → Below S3.heap.size S3 W') := Lib.hid fun W W' h k => h.trans (k.mono h.size)
        have HOWC := Lib.hid fun (W : World) (hW : Below wr.heap.size wr W) => (own_cells HOW.out).1.below hW
        have HBd : Hid (Below S3.heap.size S3 wr) := HBE
        have HRD : Hid (Below wr.heap.size wr wr) := Lib.hid (Below.refl _ _)
        have HDN : Hid (∀ (W W' : World) n, W' = W.drewN n → Below W.heap.size W W') := Lib.hid fun W W' n h => by subst h; exact below_drews (Below.refl _ _) _
        have hn10 : (n : Int) < 100000 := by omega
        obtain ⟨⟨_, _, _, t0, t1, t2⟩, _, lT⟩ := HCL.out wr HBE.out
        have HAT2 : Hid (b = true → atT m1 m2 m3 (Tl.mk s p ta tc tk).plain 0 = true) := Lib.hid fun h => HAF.out m1 m2 m3 (HBB.out.symm.trans h)
        have HAT3 : Hid (p ≠ m1 → atT m1 m2 m3 (Tl.mk s p ta tc tk).plain 0 = b) := Lib.hid fun h => (HAO.out m1 m2 m3 h).trans HBB.out.symm
        clear HN HZZ htl
        generalize leavesK (tk.map Tl.plain) = LK0 at *
        generalize atT m1 m2 m3 (Tl.mk s p ta tc tk).plain 0 = AT at *
        clear HLL HKC HSE HLE HAF HAO HCH HW1 HW2 HW3
        have hcase : (b = true ∧ AT = true ∧ (p == (m1 : Int)) = true) ∨ (b = true ∧ AT = true ∧ (p == (m1 : Int)) = false) ∨ (b = false ∧ (p == (m1 : Int)) = true) ∨ (b = false ∧ AT = false ∧ (p == (m1 : Int)) = false) := by
          by_cases hpm : p = m1
          · have h1 : (p == (m1 : Int)) = true := by rw [beq_iff_eq]; exact hpm
            cases b with
            | true => exact .inl ⟨rfl, HAT2.out rfl, h1⟩
            | false => exact .inr (.inr (.inl ⟨rfl, h1⟩))
          · have h1 : (p == (m1 : Int)) = false := beq_eq_false_iff_ne.2 hpm
            cases b with
            | true => exact .inr (.inl ⟨rfl, HAT2.out rfl, h1⟩)
            | false => exact .inr (.inr (.inr ⟨rfl, HAT3.out hpm, h1⟩))
        clear HAT2 HAT3 HBB
        rcases hcase with ⟨rfl, rfl, hpm⟩ | ⟨rfl, rfl, hpm⟩ | ⟨rfl, hpm⟩ | ⟨rfl, rfl, hpm⟩
        all_goals
          go_wp2_with (first
            | (go_at_call 48; (with_reducible refine (HLV.out _ HBd.out).mono ?_); rintro e w5 ⟨hb5, a5, c5, rfl, ho5⟩; have HR5 := Lib.hid (own_cells ho5).1; clear ho5; have HRW5 := Lib.hid (HRD.out.trans (hb5.mono HRD.out.size)); have HBN := Lib.hid (HTR.out _ _ HBd.out hb5); obtain ⟨⟨_, _, _, t0, t1, t2⟩, _, lT⟩ := HCL.out _ HBN.out)
            | (go_at_call 37; (with_reducible refine (HKS.out _ _ _ HR5.out (HOWC.out _ HRW5.out)).mono ?_); rintro e w6 ⟨rfl, n6, hw6⟩; have hb6 := HDN.out _ _ _ hw6; clear hw6; have HBN := Lib.hid (HTR.out _ _ (Hid.out (show Hid (Below S3.heap.size S3 _) by assumption)) hb6); obtain ⟨⟨_, _, _, t0, t1, t2⟩, _, lT⟩ := HCL.out _ HBN.out)
            | (go_at_call 49; (with_reducible refine (HSI.out _ (Hid.out (show Hid (Below S3.heap.size S3 _) by assumption))).mono ?_); rintro e w7 ⟨rfl, hb7⟩; have HBN := Lib.hid (HTR.out _ _ (Hid.out (show Hid (Below S3.heap.size S3 _) by assumption)) hb7); obtain ⟨⟨_, _, _, t0, t1, t2⟩, _, lT⟩ := HCL.out _ HBN.out)
            | (go_at_call 61; (with_reducible refine (HAT.out _ (Hid.out (show Hid (Below S3.heap.size S3 _) by assumption))).mono ?_); rintro e w8 ⟨rfl, hb8⟩; have HBN := Lib.hid (HTR.out _ _ (Hid.out (show Hid (Below S3.heap.size S3 _) by assumption)) hb8); obtain ⟨⟨_, _, _, t0, t1, t2⟩, _, lT⟩ := HCL.out _ HBN.out)
            | (go_at_call 51; refine (HWK.out _).mono ?_; rintro e w9 ⟨rfl, hb9⟩; have HBN := Lib.hid (HTR.out _ _ (Hid.out (show Hid (Below S3.heap.size S3 _) by assumption)) hb9)))
          go_ret
          exact ⟨rfl, HBT.out.trans (HBN.out.mono HBT.out.size)⟩

end Go.Proofs.Ytjlohjkhnjemaaa
