/- Trees: Same of the program, and the document's own SameTree: contracts over any world. -/
import Derived.Test.YtflfmcikfiaoiaaTreeB
set_option linter.unusedVariables false
namespace Go.Proofs.Ytflfmcikfiaoiaa
open Go.RowKit
open Doc

def sameL (a b : List Tr) : Bool := decide (a.length = b.length) && sameK a b
theorem same_un (s p s' p' : Int) (a a' : Option Addr) (c c' : Nat) (ks ms : List Tl) : sameT (Tl.mk s p a c ks).plain (Tl.mk s' p' a' c' ms).plain = (decide (s = s') && (decide (p = p') && sameL (ks.map Tl.plain) (ms.map Tl.plain))) := by
  rw [Tl.plain_mk, Tl.plain_mk, sameT]
  unfold sameL
  by_cases h1 : s = s' <;> by_cases h2 : p = p' <;> by_cases h3 : (ks.map Tl.plain).length = (ms.map Tl.plain).length <;> simp [h1, h2, h3]
theorem sameK_drop (ks ms : List Tl) (k : Nat) {kt mt : Tl} (h1 : ks[k]? = some kt) (h2 : ms[k]? = some mt) : sameK ((ks.map Tl.plain).drop k) ((ms.map Tl.plain).drop k) = (sameT kt.plain mt.plain && sameK ((ks.map Tl.plain).drop (k + 1)) ((ms.map Tl.plain).drop (k + 1))) := by
  have l1 := (List.getElem?_eq_some_iff.1 (map_at h1)).1
  have l2 := (List.getElem?_eq_some_iff.1 (map_at h2)).1
  rw [List.drop_eq_getElem_cons l1, List.drop_eq_getElem_cons l2, sameK, (List.getElem?_eq_some_iff.1 (map_at h1)).2, (List.getElem?_eq_some_iff.1 (map_at h2)).2]

/-- What Same owes of one tree. -/
def SameOwes (t : Tl) : Prop := ∀ (u : Tl) (P Q : Nat → Prop) (w : World), Lies P w t → Lies Q w u → sizeT t.plain ≤ 1000000 → sizeT u.plain ≤ 1000000 →
    Calls Try.prog 43 #[t.v, u.v] w fun e w' => e = .returned (.bool (sameT t.plain u.plain)) ∧ Below w.heap.size w w'

set_option maxRecDepth 100000 in
set_option maxHeartbeats 1000000 in
theorem equalT_any (s p s' p' : Int) (a b : Option Addr) (ca cb : Nat) (ks ms : List Tl) (hih : ∀ k ∈ ks, SameOwes k) (P Q : Nat → Prop) (w : World) (hl : Lies P w (.mk s p a ca ks)) (hm : Lies Q w (.mk s' p' b cb ms)) (hz : sizeT (Tl.mk s p a ca ks).plain ≤ 1000000) (hy : sizeT (Tl.mk s' p' b cb ms).plain ≤ 1000000) :
    Calls Try.prog 86 #[.slice a ks.length ca, .slice b ms.length cb, .func (.func 43) #[] #[]] w fun e w' => e = .returned (.bool (sameL (ks.map Tl.plain) (ms.map Tl.plain))) ∧ Below w.heap.size w w' := by
  have HIH := Lib.hid hih
  have HL := Lib.hid hl
  have HM := Lib.hid hm
  have hkl := size_len s p a ca ks
  have hml := size_len s' p' b cb ms
  have hks : ks.length ≤ 1000000 := by omega
  have hms : ms.length ≤ 1000000 := by omega
  have HZ : Hid (∀ k ∈ ks, sizeT k.plain ≤ 1000000) := Lib.hid fun k hk => by have := size_kid (s := s) (p := p) (a := a) (c := ca) hk; omega
  have HY : Hid (∀ k ∈ ms, sizeT k.plain ≤ 1000000) := Lib.hid fun k hk => by have := size_kid (s := s') (p := p') (a := b) (c := cb) hk; omega
  clear hih hl hm hz hy hkl hml
  by_cases hlen : ks.length = ms.length
  · have hlb : ((ks.length : Int) != (ms.length : Int)) = false := by simp [hlen]
    have HLE := Lib.hid hlen
    have HU : Hid (sameL (ks.map Tl.plain) (ms.map Tl.plain) = sameK (ks.map Tl.plain) (ms.map Tl.plain)) := Lib.hid (by unfold sameL; rw [List.length_map, List.length_map, hlen]; simp)
    clear hlen
    go_enter Try.func86, Try.ntmps86
    go_wp2
    go_loopw [17] (fun i wr => ∃ k : Nat, k ≤ ks.length ∧ i = .int .i64 k ∧ Below w.heap.size w wr ∧ Hid (sameK (ks.map Tl.plain) (ms.map Tl.plain) = sameK ((ks.map Tl.plain).drop k) ((ms.map Tl.plain).drop k))) (fun i _ => ks.length - (intOf i).toNat)
    case atStart => exact ⟨0, Nat.zero_le _, rfl, Below.refl _ _, Lib.hid rfl⟩
    case round =>
      obtain ⟨k, hk, rfl, hbe, HR⟩ := hrel
      by_cases hlt : k < ks.length
      · obtain ⟨kt, hkt⟩ : ∃ kt, ks[k]? = some kt := ⟨_, List.getElem?_eq_getElem hlt⟩
        obtain ⟨mt, hmt⟩ : ∃ mt, ms[k]? = some mt := ⟨_, List.getElem?_eq_getElem (by have := HLE.out; omega)⟩
        have hkm := List.mem_of_getElem? hkt
        have hmm := List.mem_of_getElem? hmt
        obtain ⟨b1, o1, rfl, hb1, _, c0, c1, c2⟩ := kid_at (HL.out.under hbe) hkt
        obtain ⟨b2, o2, rfl, hb2, _, d0, d1, d2⟩ := kid_at (HM.out.under hbe) hmt
        have hstep := sameK_drop ks ms k hkt hmt
        have e1 : (k : Int) < ks.length := by omega
        have e2 : (k : Int) < ms.length := by have := HLE.out; omega
        have hS : ∀ o o', Below wr.heap.size wr ((wr.alloc o).alloc o') := fun o o' => ((Below.refl _ _).alloc (Nat.le_refl _) _).alloc (by simp) _
        have HC := Lib.hid fun o o' => HIH.out kt hkm mt P Q _ (((HL.out.under hbe).kid kt hkm).under (hS o o')) (((HM.out.under hbe).kid mt hmm).under (hS o o')) (HZ.out kt hkm) (HY.out mt hmm)
        have HS := Lib.hid hS
        have HBE := Lib.hid hbe
        have HST := Lib.hid (HR.out.trans hstep)
        unfold Tl.v at HC
        clear hkm hmm hstep hS hbe HR hkt hmt
        obtain ⟨ksy, kp, ka, kc, kk⟩ := kt
        obtain ⟨msy, mp, ma, mc, mk⟩ := mt
        simp only [Tl.sym, Tl.prod, Tl.a, Tl.c, Tl.kids] at *
        cases hv : sameT (Tl.mk ksy kp ka kc kk).plain (Tl.mk msy mp ma mc mk).plain with
        | true =>
          rw [hv] at HC
          have HN := Lib.hid (HST.out.trans (by rw [hv, Bool.true_and]))
          clear hv HST
          go_wp2_with (go_at_call 43; refine (HC.out _ _).mono ?_; rintro e w2 ⟨rfl, hb2⟩)
          go_roundw
          case rel => exact ⟨k + 1, by omega, by go_num, HBE.out.trans (((HS.out _ _).trans (hb2.mono (HS.out _ _).size)).mono HBE.out.size), HN⟩
          case measure => simp [intOf]; omega
        | false =>
          rw [hv] at HC
          have HN := Lib.hid (HST.out.trans (by rw [hv, Bool.false_and]))
          clear hv HST
          go_wp2_with (go_at_call 43; refine (HC.out _ _).mono ?_; rintro e w2 ⟨rfl, hb2⟩)
          go_ret
          exact ⟨ret_bool (by rw [HU.out, HN.out]), HBE.out.trans (((HS.out _ _).trans (hb2.mono (HS.out _ _).size)).mono HBE.out.size)⟩
      · have e1 : ¬ (k : Int) < ks.length := by omega
        obtain rfl : k = ks.length := by omega
        have HN := Lib.hid (HR.out.trans (by rw [List.drop_of_length_le (by simp)]; rfl : sameK ((ks.map Tl.plain).drop ks.length) ((ms.map Tl.plain).drop ks.length) = true))
        clear HR
        go_wp2
        go_ret
        exact ⟨ret_bool (by rw [HU.out, HN.out]), hbe⟩
  · have hlb : ((ks.length : Int) != (ms.length : Int)) = true := by simp; omega
    have HN : Hid (sameL (ks.map Tl.plain) (ms.map Tl.plain) = false) := Lib.hid (by unfold sameL; rw [List.length_map, List.length_map]; simp [hlen])
    clear hlen
    go_enter Try.func86, Try.ntmps86
    go_wp2
    go_ret
    exact ⟨ret_bool HN.out.symm, Below.refl _ _⟩

set_option maxHeartbeats 1000000 in
theorem tsame_owes (t : Tl) : SameOwes t := by
  induction t using Tl.ind with
  | h s p a c ks ih =>
    intro u P Q w hl hm hz hy
    obtain ⟨s', p', a', c', ms⟩ := u
    have HU := Lib.hid (same_un s p s' p' a a' c c' ks ms)
    obtain ⟨hbS, hsS, q0, q1⟩ := twin_alloc w (.cells #[.int .i64 s, .int .i64 p, .slice a ks.length c] 71) (.cells #[.int .i64 s', .int .i64 p', .slice a' ms.length c'] 71)
    have HE := Lib.hid (equalT_any s p s' p' a a' c c' ks ms ih P Q _ (hl.under hbS) (hm.under hbS) hz hy)
    have HB := Lib.hid hbS
    have HQ0 := Lib.hid q0
    have HQ1 := Lib.hid q1
    clear ih hl hm hz hy hbS q0 q1 hsS
    show Calls _ _ #[.agg #[.int .i64 s, .int .i64 p, .slice a ks.length c], .agg #[.int .i64 s', .int .i64 p', .slice a' ms.length c']] _ _
    go_enter Try.func43, Try.ntmps43
    go_upto_region 1 with fail
    generalize (w.alloc (.cells #[.int .i64 s, .int .i64 p, .slice a ks.length c] 71)).alloc (.cells #[.int .i64 s', .int .i64 p', .slice a' ms.length c'] 71) = S at *
    have g0 := (blk_cell (i := 0) HQ0.out rfl).1
    have g1 := (blk_cell (i := 1) HQ0.out rfl).1
    have g2 := (blk_cell (i := 2) HQ0.out rfl).1
    have t0 := (blk_cell (i := 0) HQ1.out rfl).1
    have t1 := (blk_cell (i := 1) HQ1.out rfl).1
    have t2 := (blk_cell (i := 2) HQ1.out rfl).1
    have l0 := heap_lt HQ0.out
    have l1 := heap_lt HQ1.out
    by_cases h1 : s = s'
    · subst h1
      by_cases h2 : p = p'
      · subst h2
        have HU2 := Lib.hid (HU.out.trans (by simp : _ = sameL (ks.map Tl.plain) (ms.map Tl.plain)))
        clear HU
        go_wp2_with (go_at_call 86; refine HE.out.mono ?_; rintro e w2 ⟨rfl, hb2⟩)
        go_ret
        exact ⟨ret_bool HU2.out.symm, HB.out.trans (hb2.mono HB.out.size)⟩
      · have e2 : (p == p') = false := beq_eq_false_iff_ne.2 h2
        have HU2 := Lib.hid (HU.out.trans (by simp [h2] : _ = false))
        clear HU h2
        go_wp2
        go_ret
        exact ⟨ret_bool HU2.out.symm, HB.out⟩
    · have e1 : (s == s') = false := beq_eq_false_iff_ne.2 h1
      have HU2 := Lib.hid (HU.out.trans (by simp [h1] : _ = false))
      clear HU h1
      go_wp2
      go_ret
      exact ⟨ret_bool HU2.out.symm, HB.out⟩

theorem tsame_any (t u : Tl) (P Q : Nat → Prop) (w : World) (hl : Lies P w t) (hm : Lies Q w u) (hz : sizeT t.plain ≤ 1000000) (hy : sizeT u.plain ≤ 1000000) :
    Calls Try.prog 43 #[t.v, u.v] w fun e w' => e = .returned (.bool (sameT t.plain u.plain)) ∧ Below w.heap.size w w' := tsame_owes t u P Q w hl hm hz hy

end Go.Proofs.Ytflfmcikfiaoiaa
