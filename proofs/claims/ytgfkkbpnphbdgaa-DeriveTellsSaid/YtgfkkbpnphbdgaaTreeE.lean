/- Trees: Same of the program, and the document's own SameTree: contracts over any world. -/
import Derived.Test.YtgfkkbpnphbdgaaTreeB
set_option linter.unusedVariables false
namespace Go.Proofs.Ytgfkkbpnphbdgaa
open Go.RowKit
open Doc

def sameL (a b : List Tr) : Bool := decide (a.length = b.length) && sameK a b
theorem same_un (s p s' p' : Int) (a a' : Option Addr) (c c' : Nat) (ks ms : List Tl) : sameT (Tl.mk s p a c ks).plain (Tl.mk s' p' a' c' ms).plain = (decide (s = s') && (decide (p = p') && sameL (ks.map Tl.plain) (ms.map Tl.plain))) := by
  rw [Tl.plain_mk, Tl.plain_mk, sameT]
  unfold sameL
  by_cases h1 : s = s' <;> by_cases h2 : p = p' <;> by_cases h3 : (ks.map Tl.plain).length = (ms.map Tl.plain).length <;> simp [h1, h2, h3]
theorem sameK_drop (ks ms : List Tl) (k : Nat) {kt mt : Tl} (h1 : ks[k]? = some kt) (h2 : ms[k]? = some mt) : sameK ((ks.map Tl.plain).drop k) ((ms.map Tl.plain).drop k) = (sameT kt.plain mt.plain && sameK ((ks.map Tl.plain).drop (k + 1)) ((ms.map Tl.plain).drop (k + 1))) := by
  have l1 := (List.getElem?_eq_some_iff.1 (map_at h1)).1
  have l2 := (List.getElem?_eq_some_iff.1 (map_at h2)).1
  rw [List.drop_eq_getElem_cons l1, List.drop_eq_getElem_cons l2, sameK, (List.getElem?_eq_some_iff.1 (map_at h1)).2, (List.getElem?_eq_some_iff.1 (map_at h2)).2]

set_option maxRecDepth 100000 in
set_option maxHeartbeats 2000000 in
theorem rsame_any (t : Tl) : ∀ (u : Tl) (P Q : Nat → Prop) (w : World), Lies P w t → Lies Q w u → sizeT t.plain ≤ 1000000000 → sizeT u.plain ≤ 1000000000 →
    Calls Try.prog 21 #[t.v, u.v] w fun e w' => e = .returned (.bool (sameT t.plain u.plain)) ∧ Below w.heap.size w w' := by
  induction t using Tl.ind with
  | h s p a c ks ih =>
    intro u P Q w hl hm hz hy
    obtain ⟨s', p', a', c', ms⟩ := u
    have HIH := Lib.hid ih
    have HU := Lib.hid (same_un s p s' p' a a' c c' ks ms)
    have hkl := size_len s p a c ks
    have hml := size_len s' p' a' c' ms
    have hks : ks.length ≤ 1000000000 := by omega
    have hms : ms.length ≤ 1000000000 := by omega
    have HZ : Hid (∀ k ∈ ks, sizeT k.plain ≤ 1000000000) := Lib.hid fun k hk => by have := size_kid (s := s) (p := p) (a := a) (c := c) hk; omega
    have HY : Hid (∀ k ∈ ms, sizeT k.plain ≤ 1000000000) := Lib.hid fun k hk => by have := size_kid (s := s') (p := p') (a := a') (c := c') hk; omega
    obtain ⟨hbS, hsS, q0, q1⟩ := twin_alloc w (.cells #[.int .i64 s, .int .i64 p, .slice a ks.length c] 39) (.cells #[.int .i64 s', .int .i64 p', .slice a' ms.length c'] 39)
    have HL := Lib.hid (hl.under hbS)
    have HM := Lib.hid (hm.under hbS)
    have HB := Lib.hid hbS
    have HQ0 := Lib.hid q0
    have HQ1 := Lib.hid q1
    clear ih hl hm hz hy hbS q0 q1 hsS hkl hml
    show Calls _ _ #[.agg #[.int .i64 s, .int .i64 p, .slice a ks.length c], .agg #[.int .i64 s', .int .i64 p', .slice a' ms.length c']] _ _
    go_enter Try.func21, Try.ntmps21
    go_upto_region 1 with fail
    generalize (w.alloc (.cells #[.int .i64 s, .int .i64 p, .slice a ks.length c] 39)).alloc (.cells #[.int .i64 s', .int .i64 p', .slice a' ms.length c'] 39) = S at *
    have g0 := (blk_cell (i := 0) HQ0.out rfl).1
    have g1 := (blk_cell (i := 1) HQ0.out rfl).1
    have g2 := (blk_cell (i := 2) HQ0.out rfl).1
    have t0 := (blk_cell (i := 0) HQ1.out rfl).1
    have t1 := (blk_cell (i := 1) HQ1.out rfl).1
    have t2 := (blk_cell (i := 2) HQ1.out rfl).1
    have l0 := heap_lt HQ0.out
    have l1 := heap_lt HQ1.out
    by_cases h1 : s = s'
    · subst h1
      by_cases h2 : p = p'
      · subst h2
        have HU2 := Lib.hid (HU.out.trans (by simp : _ = sameL (ks.map Tl.plain) (ms.map Tl.plain)))
        clear HU
        by_cases hlen : ks.length = ms.length
        · have hlb : ((ks.length : Int) != (ms.length : Int)) = false := by simp [hlen]
          have HLE := Lib.hid hlen
          have HU3 : Hid (sameL (ks.map Tl.plain) (ms.map Tl.plain) = sameK (ks.map Tl.plain) (ms.map Tl.plain)) := Lib.hid (by unfold sameL; rw [List.length_map, List.length_map, hlen]; simp)
          have HCL : Hid (∀ W, Below S.heap.size S W → (W.cell? ⟨w.heap.size, 2, none⟩ = some (.slice a ks.length c) ∧ W.cell? ⟨w.heap.size + 1, 2, none⟩ = some (.slice a' ms.length c')) ∧ w.heap.size < W.heap.size ∧ w.heap.size + 1 < W.heap.size) := Lib.hid fun W hW => by
            have z0 := (hW.block _ (heap_lt HQ0.out)).trans HQ0.out
            have z1 := (hW.block _ (heap_lt HQ1.out)).trans HQ1.out
            exact ⟨⟨(blk_cell z0 rfl).1, (blk_cell z1 rfl).1⟩, heap_lt z0, heap_lt z1⟩
          clear hlen
          go_wp2
          clear g0 g1 g2 t0 t1 t2 l0 l1
          go_loopw [30] (fun i wr => ∃ k : Nat, k ≤ ks.length ∧ i = .int .i64 k ∧ Below S.heap.size S wr ∧ Hid (sameK (ks.map Tl.plain) (ms.map Tl.plain) = sameK ((ks.map Tl.plain).drop k) ((ms.map Tl.plain).drop k))) (fun i _ => ks.length - (intOf i).toNat)
          case atStart => exact ⟨0, Nat.zero_le _, rfl, Below.refl _ _, Lib.hid rfl⟩
          case round =>
            obtain ⟨k, hk, rfl, hbe, HR⟩ := hrel
            by_cases hlt : k < ks.length
            · obtain ⟨kt, hkt⟩ : ∃ kt, ks[k]? = some kt := ⟨_, List.getElem?_eq_getElem hlt⟩
              obtain ⟨mt, hmt⟩ : ∃ mt, ms[k]? = some mt := ⟨_, List.getElem?_eq_getElem (by have := HLE.out; omega)⟩
              have hkm := List.mem_of_getElem? hkt
              have hmm := List.mem_of_getElem? hmt
              have hlw := HL.out.under hbe
              have hmw := HM.out.under hbe
              obtain ⟨b1, o1, rfl, hb1, _, x0, x1, x2⟩ := kid_at hlw hkt
              obtain ⟨b2, o2, rfl, hb2, _, y0, y1, y2⟩ := kid_at hmw hmt
              have hstep := sameK_drop ks ms k hkt hmt
              have e1 : (k : Int) < ks.length := by omega
              have e2 : (k : Int) < ms.length := by have := HLE.out; omega
              have HC := Lib.hid fun W (hW : Below wr.heap.size wr W) => (HIH.out kt hkm mt P Q W ((hlw.kid kt hkm).under hW) ((hmw.kid mt hmm).under hW) (HZ.out kt hkm) (HY.out mt hmm)).mono fun e w' ⟨he, hb⟩ => (⟨he, hW.trans (hb.mono hW.size)⟩ : e = Ending.returned (.bool (sameT kt.plain mt.plain)) ∧ Below wr.heap.size wr w')
              obtain ⟨⟨v0, v1⟩, l2, l3⟩ := HCL.out _ hbe
              have HBE := Lib.hid hbe
              have HST := Lib.hid (HR.out.trans hstep)
              unfold Tl.v at HC
              clear hkm hmm hstep hbe HR hkt hmt hlw hmw
              obtain ⟨ksy, kp, ka, kc, kk⟩ := kt
              obtain ⟨msy, mp, ma, mc, mk⟩ := mt
              simp only [Tl.sym, Tl.prod, Tl.a, Tl.c, Tl.kids] at *
              go_upto_region 6 with fail
              cases hv : sameT (Tl.mk ksy kp ka kc kk).plain (Tl.mk msy mp ma mc mk).plain with
              | true =>
                rw [hv] at HC
                have HN := Lib.hid (HST.out.trans (by rw [hv, Bool.true_and]))
                clear hv HST
                go_still_tail 10, (by kernel_rfl)
                change wpList _ _ _ _ _ wr.drew
                have hbd : Below wr.heap.size wr wr.drew := (Below.refl _ _).drew
                generalize wr.drew = SD at *
                go_wp2_with (go_at_call 21; refine (HC.out _ hbd).mono ?_; rintro e w4 ⟨rfl, hb4⟩)
                exact ⟨⟨k + 1, by omega, by go_num, HBE.out.trans (hb4.mono HBE.out.size), HN⟩, by simp [intOf]; omega⟩
              | false =>
                rw [hv] at HC
                have HN := Lib.hid (HST.out.trans (by rw [hv, Bool.false_and]))
                clear hv HST
                go_still_tail 10, (by kernel_rfl)
                change wpList _ _ _ _ _ wr.drew
                have hbd : Below wr.heap.size wr wr.drew := (Below.refl _ _).drew
                generalize wr.drew = SD at *
                go_wp2_with (go_at_call 21; refine (HC.out _ hbd).mono ?_; rintro e w4 ⟨rfl, hb4⟩)
                go_ret
                exact ⟨ret_bool (HU2.out.trans (HU3.out.trans HN.out)).symm, HB.out.trans ((HBE.out.trans (hb4.mono HBE.out.size)).mono HB.out.size)⟩
            · have e1 : ¬ (k : Int) < ks.length := by omega
              obtain rfl : k = ks.length := by omega
              have HN := Lib.hid (HR.out.trans (by rw [List.drop_of_length_le (by simp)]; rfl : sameK ((ks.map Tl.plain).drop ks.length) ((ms.map Tl.plain).drop ks.length) = true))
              have HBE := Lib.hid (HB.out.trans (hbe.mono HB.out.size))
              clear hbe HR
              go_wp2
              go_ret
              exact ⟨ret_bool (HU2.out.trans (HU3.out.trans HN.out)).symm, HBE.out⟩
        · have hlb : ((ks.length : Int) != (ms.length : Int)) = true := by simp; omega
          have HU3 : Hid (sameL (ks.map Tl.plain) (ms.map Tl.plain) = false) := Lib.hid (by unfold sameL; rw [List.length_map, List.length_map]; simp [hlen])
          clear hlen
          go_wp2
          go_ret
          exact ⟨ret_bool (HU2.out.trans HU3.out).symm, HB.out⟩
      · have e2 : (p != p') = true := bne_iff_ne.2 h2
        have HU2 := Lib.hid (HU.out.trans (by simp [h2] : _ = false))
        clear HU h2
        go_wp2
        go_ret
        exact ⟨ret_bool HU2.out.symm, HB.out⟩
    · have e1 : (s != s') = true := bne_iff_ne.2 h1
      have HU2 := Lib.hid (HU.out.trans (by simp [h1] : _ = false))
      clear HU h1
      go_wp2
      go_ret
      exact ⟨ret_bool HU2.out.symm, HB.out⟩

end Go.Proofs.Ytgfkkbpnphbdgaa
