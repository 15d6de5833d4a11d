/- Trees: Check, isSymbol of the program, and the document's own CheckTree: contracts over any world. -/
import Derived.Test.YtgfkkbpnphbdgaaTreeA
import Derived.Test.YtgfkkbpnphbdgaaWake
import Derived.StillTailTactics
set_option linter.unusedVariables false
namespace Go.Proofs.Ytgfkkbpnphbdgaa
open Go.RowKit
open Doc

/-- Numbers of no great size. -/
def mildI (s : Int) : Prop := -1000000000 ≤ s ∧ s ≤ 1000000000
mutual
def mildT : Tr → Prop | .mk s p ks => mildI s ∧ mildI p ∧ mildK ks
def mildK : List Tr → Prop | [] => True | t :: l => mildT t ∧ mildK l
end
theorem mildK_mem : ∀ {ks : List Tr}, mildK ks → ∀ k ∈ ks, mildT k
  | t :: l, h, k, hk => by
    simp only [mildK] at h
    rcases List.mem_cons.1 hk with e | e
    · rw [e]; exact h.1
    · exact mildK_mem h.2 k e
theorem mildK_mk : ∀ {ks : List Tr}, (∀ k ∈ ks, mildT k) → mildK ks
  | [], _ => trivial
  | t :: l, h => by
    simp only [mildK]
    exact ⟨h t List.mem_cons_self, mildK_mk fun k hk => h k (List.mem_cons_of_mem _ hk)⟩

set_option maxHeartbeats 1000000 in
theorem isSym_any (v : Value) (g : Gr) (s : Int) (w : World) (hg : GramAt w v g) (hl : g.nons.length ≤ 1000000) (hl2 : g.terms.length ≤ 1000000) (hs : mildI s) :
    Calls Try.prog 73 #[v, .int .i64 s] w fun e w' => e = .returned (.bool (symB g s)) ∧ Below w.heap.size w w' := by
  obtain ⟨a1, a2, a3, c1, c2, c3, ls, rfl, hp, k1, k2, k3, k4, k5, k6, k7⟩ := hg
  obtain ⟨hbS, hsS, q0⟩ := one_alloc w (.cells #[.slice a1 g.terms.length c1, .slice a2 g.nons.length c2, .slice a3 ls.length c3] 25)
  have HB := Lib.hid hbS
  unfold mildI at hs
  clear hp k1 k2 k3 k4 k5 k6 k7
  go_enter Try.func73, Try.ntmps73
  go_upto_region 1 with fail
  generalize w.alloc (.cells #[.slice a1 g.terms.length c1, .slice a2 g.nons.length c2, .slice a3 ls.length c3] 25) = S at *
  have x0 := (blk_cell (i := 0) q0 rfl).1
  have x1 := (blk_cell (i := 1) q0 rfl).1
  have l0 := heap_lt q0
  clear q0 hbS hsS
  have key : ∀ b : Bool, b = symB g s → (Ending.returned (.bool b) = .returned (.bool (symB g s)) ∧ Below w.heap.size w S) := fun b h => ⟨by rw [h], HB.out⟩
  have HK := Lib.hid key
  clear key
  by_cases h1 : 1 ≤ s ∧ s ≤ g.terms.length
  · obtain ⟨h1, h2⟩ := h1
    go_wp2
    go_ret
    exact HK.out _ (by unfold symB; simp [h1, h2])
  · by_cases h3 : 100 ≤ s
    · have h4 : decide (1 ≤ s) = true := decide_eq_true (by omega)
      have h5 : ¬ s ≤ (g.terms.length : Int) := by omega
      by_cases h6 : s < 100 + (g.nons.length : Int)
      · have h7 : s - 100 < (g.nons.length : Int) := by omega
        go_wp2
        go_ret
        exact HK.out _ (by unfold symB nonB; simp; omega)
      · have h7 : ¬ s - 100 < (g.nons.length : Int) := by omega
        go_wp2
        go_ret
        exact HK.out _ (by unfold symB nonB; simp; omega)
    · by_cases h4 : 1 ≤ s
      · have h5 : ¬ s ≤ (g.terms.length : Int) := by omega
        go_wp2
        go_ret
        exact HK.out _ (by unfold symB nonB; simp; omega)
      · go_wp2
        go_ret
        exact HK.out _ (by unfold symB nonB; simp; omega)

theorem check_un (g : Gr) (s p root : Int) (a : Option Addr) (c : Nat) (ks : List Tl) : checkT g (Tl.mk s p a c ks).plain root = if s = root then (if p = -1 then (ks.map Tl.plain).isEmpty && symB g s else if p < 0 then false else
      match g.prods[p.toNat]? with
      | none => false
      | some q => if q.1 = s ∧ q.2.length = (ks.map Tl.plain).length then checkK g (ks.map Tl.plain) q.2 else false) else false := by
  rw [Tl.plain_mk, checkT]
  rfl

theorem checkK_drop (g : Gr) (ks : List Tl) (r : List Int) (k : Nat) {kt : Tl} {x : Int} (h1 : ks[k]? = some kt) (h2 : r[k]? = some x) : checkK g ((ks.map Tl.plain).drop k) (r.drop k) = (checkT g kt.plain x && checkK g ((ks.map Tl.plain).drop (k + 1)) (r.drop (k + 1))) := by
  have l1 := (List.getElem?_eq_some_iff.1 (map_at h1)).1
  have l2 := (List.getElem?_eq_some_iff.1 h2).1
  rw [List.drop_eq_getElem_cons l1, List.drop_eq_getElem_cons l2, checkK, (List.getElem?_eq_some_iff.1 (map_at h1)).2, (List.getElem?_eq_some_iff.1 h2).2]

set_option maxRecDepth 100000 in
set_option maxHeartbeats 4000000 in
theorem tcheck_any (t : Tl) : ∀ (P : Nat → Prop) (v : Value) (g : Gr) (root : Int) (w : World), GramAt w v g → Fits g → Lies P w t → mildT t.plain → sizeT t.plain ≤ 1000000000 →
    Calls Try.prog 62 #[v, t.v, .int .i64 root] w fun e w' => e = .returned (.bool (checkT g t.plain root)) ∧ Below w.heap.size w w' := by
  induction t using Tl.ind with
  | h s p a c ks ih =>
    intro P v g root w hg hf hl hm hz
    have HIH := Lib.hid ih
    have HG0 := Lib.hid hg
    have hkl := size_len s p a c ks
    obtain ⟨a1, a2, a3, c1, c2, c3, ls, rfl, hp, k1, k2, k3, k4, k5, k6, k7⟩ := hg
    have hpl : ls.length = g.prods.length := by rw [← hp, List.length_map]
    have HU := Lib.hid (check_un g s p root a c ks)
    have HM : Hid (mildI s ∧ mildI p ∧ ∀ k ∈ ks, mildT k.plain) := Lib.hid (by
      rw [Tl.plain_mk, mildT] at hm
      exact ⟨hm.1, hm.2.1, fun k hk => mildK_mem hm.2.2 _ (List.mem_map_of_mem hk)⟩)
    have HZ : Hid (∀ k ∈ ks, sizeT k.plain ≤ 1000000000) := Lib.hid fun k hk => by have := size_kid (s := s) (p := p) (a := a) (c := c) hk; omega
    obtain ⟨hbS, hsS, q0, q1⟩ := twin_alloc w (.cells #[.slice a1 g.terms.length c1, .slice a2 g.nons.length c2, .slice a3 ls.length c3] 25) (.cells #[.int .i64 s, .int .i64 p, .slice a ks.length c] 39)
    have HB := Lib.hid hbS
    have HQ0 := Lib.hid q0
    have HQ1 := Lib.hid q1
    have HL := Lib.hid (hl.under hbS)
    have HG := Lib.hid (HG0.out.below hbS)
    have HF := Lib.hid hf
    have HP := Lib.hid hp
    have HK3 := Lib.hid (k3.below hbS)
    have HK4 := Lib.hid fun q hq => (k4 q hq).below hbS
    have hks : ks.length ≤ 1000000000 := by omega
    have hls : ls.length ≤ 1000000 := by have := hf.2.2.1; omega
    have HPL := Lib.hid hpl
    clear ih hz hbS q0 q1 hl hkl hsS k1 k2 k3 k4 k5 k6 k7 hp hf hm hpl
    show Calls _ _ #[.agg #[.slice a1 g.terms.length c1, .slice a2 g.nons.length c2, .slice a3 ls.length c3], .agg #[.int .i64 s, .int .i64 p, .slice a ks.length c], .int .i64 root] _ _
    go_enter Try.func62, Try.ntmps62
    go_upto_region 1 with fail
    generalize (w.alloc (.cells #[.slice a1 g.terms.length c1, .slice a2 g.nons.length c2, .slice a3 ls.length c3] 25)).alloc (.cells #[.int .i64 s, .int .i64 p, .slice a ks.length c] 39) = S at *
    have g0 := (blk_cell (i := 0) HQ0.out rfl).1
    have g1 := (blk_cell (i := 1) HQ0.out rfl).1
    have g2 := (blk_cell (i := 2) HQ0.out rfl).1
    have t0 := (blk_cell (i := 0) HQ1.out rfl).1
    have t1 := (blk_cell (i := 1) HQ1.out rfl).1
    have t2 := (blk_cell (i := 2) HQ1.out rfl).1
    have l0 := heap_lt HQ0.out
    have l1 := heap_lt HQ1.out
    have hmI := HM.out
    unfold mildI at hmI
    obtain ⟨⟨m1, m2⟩, ⟨m3, m4⟩, _⟩ := hmI
    by_cases hr : s = root
    · subst hr
      by_cases hp1 : p = -1
      · subst hp1
        have hu : checkT g (Tl.mk s (-1) a c ks).plain s = ((ks.map Tl.plain).isEmpty && symB g s) := by rw [HU.out]; simp
        have HU2 := Lib.hid hu
        clear hu HU
        cases ks with
        | nil =>
          have HSY := Lib.hid (isSym_any _ g s S HG.out HF.out.2.1 HF.out.1 HM.out.1)
          go_wp2_with (go_at_call 73; refine HSY.out.mono ?_; rintro e w2 ⟨rfl, hb2⟩)
          go_ret
          exact ⟨by rw [HU2.out]; rfl, HB.out.trans (hb2.mono HB.out.size)⟩
        | cons kt kl =>
          have e1 : (((kt :: kl).length : Int) == 0) = false := by simp only [List.length_cons, beq_eq_false_iff_ne, ne_eq]; omega
          generalize (kt :: kl).length = nk at *
          go_wp2
          go_ret
          exact ⟨by rw [HU2.out]; rfl, HB.out⟩
      · have e0 : (p == -1) = false := beq_eq_false_iff_ne.2 hp1
        by_cases hneg : p < 0
        · have HU2 := Lib.hid (show checkT g (Tl.mk s p a c ks).plain s = false by rw [HU.out]; simp [hp1, hneg])
          clear HU hp1
          go_wp2
          go_ret
          exact ⟨by rw [HU2.out]; rfl, HB.out⟩
        · obtain ⟨n, rfl⟩ : ∃ n : Nat, p = n := ⟨p.toNat, by omega⟩
          by_cases hge : ls.length ≤ n
          · have e2 : (ls.length : Int) ≤ n := by omega
            have HU2 := Lib.hid (show checkT g (Tl.mk s n a c ks).plain s = false by
              rw [HU.out, if_pos rfl, if_neg hp1, if_neg hneg, show ((n : Int)).toNat = n by omega, List.getElem?_eq_none (by have := HPL.out; omega)])
            clear HU hp1 hge
            go_wp2
            go_ret
            exact ⟨by rw [HU2.out]; rfl, HB.out⟩
          · obtain ⟨q, hq⟩ : ∃ q, ls[n]? = some q := ⟨_, List.getElem?_eq_getElem (by omega)⟩
            have hqg : g.prods[n]? = some q.plain := by rw [← HP.out, List.getElem?_map, hq]; rfl
            have e2 : ¬ (ls.length : Int) ≤ n := by omega
            have e3 : (n : Int) < ls.length := by omega
            have hqm := List.mem_of_getElem? hq
            have hql := HF.out.2.2.2 _ (List.mem_of_getElem? hqg)
            have HUQ := Lib.hid (show checkT g (Tl.mk s n a c ks).plain s = if q.left = s ∧ q.right.length = ks.length then checkK g (ks.map Tl.plain) q.right else false by
              rw [HU.out, if_pos rfl, if_neg hp1, if_neg hneg, show ((n : Int)).toNat = n by omega, hqg]
              simp only [List.length_map]
              rfl)
            have HC4 := Lib.hid (HK4.out q hqm)
            obtain ⟨b3, o3, rfl, hb3, hc3⟩ := HK3.out.get (by intro e; have := (lays_at ls n _ hq).1; rw [e] at this; simp at this)
            have y0 := hc3 _ _ (lays_at ls n _ hq).1
            have y1 := hc3 _ _ (lays_at ls n _ hq).2
            rw [← Nat.add_assoc] at y1
            obtain ⟨pl, pr, pa, pc⟩ := q
            simp only [Lay.plain] at hql
            simp only at y0 y1
            clear HU hp1 hge hc3 hq hqg hqm HK4 HK3 HP
            by_cases hle : pl = s
            · subst hle
              by_cases hlen : pr.length = ks.length
              · have HU2 := Lib.hid (HUQ.out.trans (if_pos ⟨rfl, hlen⟩))
                have e4 : ((pr.length : Int) != (ks.length : Int)) = false := by rw [hlen]; simp
                have HLEN := Lib.hid hlen
                obtain ⟨hbP, hsP, r0⟩ := one_alloc S (.cells #[.int .i64 pl, .slice pa pr.length pc] 63)
                have HBP := Lib.hid hbP
                have HR0 := Lib.hid r0
                clear hlen HUQ hbP hsP r0
                go_upto_region 10 with fail
                generalize S.alloc (.cells #[.int .i64 pl, .slice pa pr.length pc] 63) = S3 at *
                have HCL : Hid (∀ W, Below S3.heap.size S3 W → (W.cell? ⟨w.heap.size, 0, none⟩ = some (.slice a1 g.terms.length c1) ∧ W.cell? ⟨w.heap.size, 1, none⟩ = some (.slice a2 g.nons.length c2) ∧ W.cell? ⟨w.heap.size, 2, none⟩ = some (.slice (some ⟨b3, o3, none⟩) ls.length c3) ∧ W.cell? ⟨S.heap.size, 1, none⟩ = some (.slice pa pr.length pc)) ∧ w.heap.size < W.heap.size ∧ S.heap.size < W.heap.size) := Lib.hid fun W hW => by
                  have z0 := ((HBP.out.trans (hW.mono HBP.out.size)).block _ (heap_lt HQ0.out)).trans HQ0.out
                  have z1 := (hW.block _ (heap_lt HR0.out)).trans HR0.out
                  exact ⟨⟨(blk_cell z0 rfl).1, (blk_cell z0 rfl).1, (blk_cell z0 rfl).1, (blk_cell z1 rfl).1⟩, heap_lt z0, heap_lt z1⟩
                have u2 := (blk_cell (i := 2) ((HBP.out.block _ (heap_lt HQ1.out)).trans HQ1.out) rfl).1
                have l3 : w.heap.size + 1 < S3.heap.size := Nat.lt_of_lt_of_le (heap_lt HQ1.out) HBP.out.size
                clear g0 g1 g2 t0 t1 t2 y0 y1
                have HCR := Lib.hid fun (W : World) (hW : Below S3.heap.size S3 W) => HC4.out.below (HBP.out.trans (hW.mono HBP.out.size))
                have HGR := Lib.hid fun (W : World) (hW : Below S3.heap.size S3 W) => HG.out.below (HBP.out.trans (hW.mono HBP.out.size))
                have HLR := Lib.hid fun (W : World) (hW : Below S3.heap.size S3 W) => HL.out.under (HBP.out.trans (hW.mono HBP.out.size))
                clear HC4
                go_wp2
                go_loopw [61] (fun i wr => ∃ k : Nat, k ≤ ks.length ∧ i = .int .i64 k ∧ Below S3.heap.size S3 wr ∧ Hid (checkK g (ks.map Tl.plain) pr = checkK g ((ks.map Tl.plain).drop k) (pr.drop k))) (fun i _ => ks.length - (intOf i).toNat)
                case atStart => exact ⟨0, Nat.zero_le _, rfl, Below.refl _ _, Lib.hid rfl⟩
                case round =>
                  obtain ⟨k, hk, rfl, hbe, HR⟩ := hrel
                  by_cases hlt : k < ks.length
                  · obtain ⟨kt, hkt⟩ : ∃ kt, ks[k]? = some kt := ⟨_, List.getElem?_eq_getElem hlt⟩
                    obtain ⟨x, hx⟩ : ∃ x, pr[k]? = some x := ⟨_, List.getElem?_eq_getElem (by have := HLEN.out; omega)⟩
                    have hmem := List.mem_of_getElem? hkt
                    obtain ⟨b, off, rfl, hb, _, x0, x1, x2⟩ := kid_at (HLR.out wr hbe) hkt
                    have hstep := checkK_drop g ks pr k hkt hx
                    have e1 : (k : Int) < ks.length := by omega
                    have e5 : (k : Int) < pr.length := by have := HLEN.out; omega
                    obtain ⟨hbA, hsA, rA⟩ := one_alloc wr (.cells #[.int .i64 kt.sym, .int .i64 kt.prod, .slice kt.a kt.kids.length kt.c] 39)
                    have hbeA := hbe.trans (hbA.mono hbe.size)
                    have hlk := ((HLR.out wr hbe).under hbA).kid kt hmem
                    have HC := Lib.hid fun W (hW : Below (wr.alloc (.cells #[.int .i64 kt.sym, .int .i64 kt.prod, .slice kt.a kt.kids.length kt.c] 39)).heap.size (wr.alloc (.cells #[.int .i64 kt.sym, .int .i64 kt.prod, .slice kt.a kt.kids.length kt.c] 39)) W) => (HIH.out kt hmem P _ g x W ((HGR.out _ hbeA).below hW) HF.out (hlk.under hW) (HM.out.2.2 kt hmem) (HZ.out kt hmem)).mono fun e w' ⟨he, hb⟩ => (⟨he, hW.trans (hb.mono hW.size)⟩ : e = Ending.returned (.bool (checkT g kt.plain x)) ∧ Below (wr.alloc (.cells #[.int .i64 kt.sym, .int .i64 kt.prod, .slice kt.a kt.kids.length kt.c] 39)).heap.size (wr.alloc (.cells #[.int .i64 kt.sym, .int .i64 kt.prod, .slice kt.a kt.kids.length kt.c] 39)) w')
                    obtain ⟨b5, o5, rfl, hb5, hc5⟩ := (HCR.out _ hbeA).get (by unfold nums; intro e; rw [List.map_eq_nil_iff] at e; rw [e, List.length_nil] at e5; omega)
                    have z5 := hc5 k _ (nums_at hx)
                    obtain ⟨⟨v0, v1, v2, v3⟩, l5, l6⟩ := HCL.out _ hbeA
                    have s0 := (blk_cell (i := 0) rA rfl).1
                    have s1 := (blk_cell (i := 1) rA rfl).1
                    have s2 := (blk_cell (i := 2) rA rfl).1
                    have l7 := heap_lt rA
                    have HBE := Lib.hid hbeA
                    have HST := Lib.hid (HR.out.trans hstep)
                    unfold Tl.v at HC
                    clear hmem hbe hbA hbeA hlk hkt hx hstep hc5 rA hsA HR hb5
                    obtain ⟨ksy, kp, ka, kc, kk⟩ := kt
                    simp only [Tl.sym, Tl.prod, Tl.a, Tl.c, Tl.kids] at *
                    go_upto_region 13 with fail
                    generalize wr.alloc (.cells #[.int .i64 ksy, .int .i64 kp, .slice ka kk.length kc] 39) = SA at *
                    cases hv : checkT g (Tl.mk ksy kp ka kc kk).plain x with
                    | true =>
                      rw [hv] at HC
                      have HN := Lib.hid (HST.out.trans (by rw [hv, Bool.true_and]))
                      clear hv HST
                      go_still_tail 7, (by kernel_rfl)
                      change wpList _ _ _ _ _ SA.drew
                      have hbd : Below SA.heap.size SA SA.drew := (Below.refl _ _).drew
                      generalize SA.drew = SD at *
                      go_wp2_with (go_at_call 62; refine (HC.out _ hbd).mono ?_; rintro e w4 ⟨rfl, hb4⟩)
                      exact ⟨⟨k + 1, by omega, by go_num, HBE.out.trans (hb4.mono HBE.out.size), HN⟩, by simp [intOf]; omega⟩
                    | false =>
                      rw [hv] at HC
                      have HN := Lib.hid (HST.out.trans (by rw [hv, Bool.false_and]))
                      clear hv HST
                      go_still_tail 7, (by kernel_rfl)
                      change wpList _ _ _ _ _ SA.drew
                      have hbd : Below SA.heap.size SA SA.drew := (Below.refl _ _).drew
                      generalize SA.drew = SD at *
                      go_wp2_with (go_at_call 62; refine (HC.out _ hbd).mono ?_; rintro e w4 ⟨rfl, hb4⟩)
                      go_ret
                      exact ⟨by rw [HU2.out, HN.out]; rfl, HB.out.trans ((HBP.out.trans ((HBE.out.trans (hb4.mono HBE.out.size)).mono HBP.out.size)).mono HB.out.size)⟩
                  · have e1 : ¬ (k : Int) < ks.length := by omega
                    obtain rfl : k = ks.length := by omega
                    have HE := Lib.hid (HR.out.trans (by rw [List.drop_of_length_le (by simp)]; rfl : checkK g ((ks.map Tl.plain).drop ks.length) (pr.drop ks.length) = true))
                    have HBE := Lib.hid (HB.out.trans ((HBP.out.trans (hbe.mono HBP.out.size)).mono HB.out.size))
                    clear hbe HR
                    go_wp2
                    go_ret
                    exact ⟨by rw [HU2.out, HE.out]; rfl, HBE.out⟩
              · have HU2 := Lib.hid (HUQ.out.trans (if_neg (fun h => hlen h.2)))
                have e4 : ((pr.length : Int) != (ks.length : Int)) = true := by simp only [bne_iff_ne, ne_eq]; omega
                obtain ⟨hbP, hsP, r0⟩ := one_alloc S (.cells #[.int .i64 pl, .slice pa pr.length pc] 63)
                have HBP := Lib.hid hbP
                clear hlen HUQ hbP hsP r0
                go_wp2
                go_ret
                exact ⟨by rw [HU2.out]; rfl, HB.out.trans (HBP.out.mono HB.out.size)⟩
            · have HU2 := Lib.hid (HUQ.out.trans (if_neg (fun h => hle h.1)))
              have e4 : (pl != s) = true := bne_iff_ne.2 hle
              obtain ⟨hbP, hsP, r0⟩ := one_alloc S (.cells #[.int .i64 pl, .slice pa pr.length pc] 63)
              have HBP := Lib.hid hbP
              clear hle HUQ hbP hsP r0
              go_wp2
              go_ret
              exact ⟨by rw [HU2.out]; rfl, HB.out.trans (HBP.out.mono HB.out.size)⟩
    · have HU2 := Lib.hid (show checkT g (Tl.mk s p a c ks).plain root = false by rw [HU.out, if_neg hr])
      have e1 : (s != root) = true := bne_iff_ne.2 hr
      clear HU hr
      go_wp2
      go_ret
      exact ⟨by rw [HU2.out]; rfl, HB.out⟩

end Go.Proofs.Ytgfkkbpnphbdgaa
