/- Trees: Leaves and Same of the program, and the document's own Leaves and SameTree: contracts over any world. -/
import Derived.Test.YtgfkkbpnphbdgaaTreeB
import Derived.Test.YtgfkkbpnphbdgaaAppAll
import Derived.Test.YtgfkkbpnphbdgaaRaw
set_option linter.unusedVariables false
namespace Go.Proofs.Ytgfkkbpnphbdgaa
open Go.RowKit
open Doc

theorem leaves_un (s p : Int) (a : Option Addr) (c : Nat) (ks : List Tl) : leavesT (Tl.mk s p a c ks).plain = if p = -1 then [s] else leavesK (ks.map Tl.plain) := by
  rw [Tl.plain_mk, leavesT]
theorem leavesK_step (ks : List Tl) (j : Nat) {k : Tl} (hj : ks[j]? = some k) : leavesK ((ks.map Tl.plain).take (j + 1)) = leavesK ((ks.map Tl.plain).take j) ++ leavesT k.plain := by
  rw [List.take_add_one, map_at hj, leavesK_app]
  simp [leavesK]

set_option maxRecDepth 100000 in
set_option maxHeartbeats 4000000 in
theorem rleaves_any (t : Tl) : ∀ (P : Nat → Prop) (w : World), Lies P w t → sizeT t.plain ≤ 1000000000 →
    Calls Try.prog 26 #[t.v] w fun e w' => Below w.heap.size w w' ∧ ∃ a' c', e = .returned (.slice a' (leavesT t.plain).length c') ∧ w'.ownsRow w.heap.size 3 1 (.slice a' (leavesT t.plain).length c') (leavesT t.plain).length (nums (leavesT t.plain)) := by
  induction t using Tl.ind with
  | h s p a c ks ih =>
    intro P w hl hz
    have HIH := Lib.hid ih
    have HU := Lib.hid (leaves_un s p a c ks)
    have hkl := size_len s p a c ks
    have HZ := Lib.hid hz
    have HSZ := Lib.hid (show sizeT (Tl.mk s p a c ks).plain = 1 + sizeK (ks.map Tl.plain) by rw [Tl.plain_mk, sizeT])
    obtain ⟨hbS, hsS, q0⟩ := one_alloc w (.cells #[.int .i64 s, .int .i64 p, .slice a ks.length c] 39)
    have HB := Lib.hid hbS
    have HQ := Lib.hid q0
    have HL := Lib.hid (hl.under hbS)
    have hks : ks.length ≤ 1000000000 := by omega
    clear ih hz hbS q0 hl hkl hsS
    show Calls _ _ #[.agg #[.int .i64 s, .int .i64 p, .slice a ks.length c]] _ _
    go_enter Try.func26, Try.ntmps26
    go_upto_region 1 with fail
    generalize w.alloc (.cells #[.int .i64 s, .int .i64 p, .slice a ks.length c] 39) = S at *
    have t0 := (blk_cell (i := 0) HQ.out rfl).1
    have t1 := (blk_cell (i := 1) HQ.out rfl).1
    have t2 := (blk_cell (i := 2) HQ.out rfl).1
    have l0 := heap_lt HQ.out
    by_cases hp : p = -1
    · subst hp
      have HU2 := Lib.hid (HU.out.trans (if_pos rfl))
      clear HU
      go_wp2
      go_ret
      refine ⟨HB.out.alloc HB.out.size _, some ⟨S.heap.size, 0, none⟩, 1, ?_, ?_⟩
      · rw [HU2.out]; rfl
      · rw [HU2.out]
        exact ⟨rfl, .inr ⟨S.heap.size, 1, #[.int .i64 s], rfl, HB.out.size, heap_alloc_new _ _, Nat.le_refl _, by unfold maxLen; omega, rfl, rfl⟩⟩
    · have e0 : (p == -1) = false := beq_eq_false_iff_ne.2 hp
      have HU2 := Lib.hid (HU.out.trans (if_neg hp))
      clear HU hp
      go_wp2
      go_loopw [3, 15] (fun v i wr => ∃ (k : Nat) (a' : Option Addr) (c' : Nat), k ≤ ks.length ∧ i = .int .i64 k ∧ v = .slice a' (leavesK ((ks.map Tl.plain).take k)).length c' ∧ Below S.heap.size S wr ∧ Hid (wr.ownsRow S.heap.size 3 1 (.slice a' (leavesK ((ks.map Tl.plain).take k)).length c') (leavesK ((ks.map Tl.plain).take k)).length (nums (leavesK ((ks.map Tl.plain).take k))))) (fun _ i _ => ks.length - (intOf i).toNat)
      case atStart => exact ⟨0, none, 0, Nat.zero_le _, rfl, by simp [leavesK], Below.refl _ _, Lib.hid (by simpa [leavesK, nums] using World.ownsRow_nil _ _ _ _)⟩
      case round =>
        obtain ⟨k, a', c', hk, rfl, rfl, hbe, HOW⟩ := hrel
        by_cases hlt : k < ks.length
        · obtain ⟨kt, hkt⟩ : ∃ kt, ks[k]? = some kt := ⟨_, List.getElem?_eq_getElem hlt⟩
          have hmem := List.mem_of_getElem? hkt
          have hLr := HL.out.under hbe
          obtain ⟨b, off, rfl, hb, _, x0, x1, x2⟩ := kid_at hLr hkt
          have hlk := hLr.kid kt hmem
          have hstep := leavesK_step ks k hkt
          have hlen2 := leavesK_size ((ks.map Tl.plain).take k)
          have htake2 := sizeK_take (ks.map Tl.plain) k
          have hlk2 := leaves_size kt.plain
          have hzk := size_kid (s := s) (p := p) (a := some ⟨b, off, none⟩) (c := c) hmem
          have hz1 := HZ.out
          have hz2 := HSZ.out
          have e1 : (k : Int) < ks.length := by omega
          have hbA := box_belowT wr (.cells #[.int .i64 kt.sym, .int .i64 kt.prod, .slice kt.a kt.kids.length kt.c] 39)
          have HC := Lib.hid (HIH.out kt hmem P _ (hlk.under hbA) (by omega))
          have HBE := Lib.hid (hbe.trans (hbA.mono hbe.size))
          have HOA := Lib.hid (own_same HOW.out (fun g _ hg => hbA.block g hg))
          have HST := Lib.hid hstep
          have hkl2 : (leavesT kt.plain).length ≤ 1000000000 := by omega
          have hkl3 : (leavesK ((ks.map Tl.plain).take k)).length ≤ 1000000000 := by omega
          have hBA : S.heap.size ≤ (wr.alloc (.cells #[.int .i64 kt.sym, .int .i64 kt.prod, .slice kt.a kt.kids.length kt.c] 39)).heap.size := Nat.le_trans hbe.size hbA.size
          unfold Tl.v at HC
          clear hmem hlk hbA hbe hkt hLr hstep hlen2 htake2 hlk2 hzk hz1 hz2 HOW
          generalize leavesK ((ks.map Tl.plain).take k) = L at *
          generalize leavesT kt.plain = M at *
          obtain ⟨ksy, kp, ka, kc, kk⟩ := kt
          simp only [Tl.sym, Tl.prod, Tl.a, Tl.c, Tl.kids] at *
          go_wp2_with (first
            | (go_at_call 26; refine HC.out.mono ?_; rintro e w4 ⟨hb4, a4, c4, rfl, ho4⟩; have HO4 := Lib.hid (own_same HOA.out (fun g _ hg => hb4.block g hg)); have HB4 := Lib.hid hb4; have HC4 := Lib.hid (own_cells ho4).1; have hBB : S.heap.size ≤ w4.heap.size := Nat.le_trans hBA hb4.size; clear hb4 ho4)
            | (at_builtin; refine wpList_app rfl (.tmp 19) (.tmp 21) rfl S.heap.size a' L.length c' L rfl HO4.out hBB a4 M c4 rfl HC4.out (by omega) ?_; intro va vc w5 ho5 hg5))
          have hb5 := (HBE.out.trans (HB4.out.mono HBE.out.size)).grown hg5 (Nat.le_trans HBE.out.size HB4.out.size) (fun x hx => (own_block HO4.out hx).1)
          exact ⟨⟨k + 1, va, vc, by omega, by go_num, by rw [HST.out]; simp, hb5, Lib.hid (by rw [HST.out]; simpa using ho5)⟩, by simp [intOf]; omega⟩
        · have e1 : ¬ (k : Int) < ks.length := by omega
          obtain rfl : k = ks.length := by omega
          have HT := Lib.hid (show leavesK ((ks.map Tl.plain).take ks.length) = leavesT (Tl.mk s p a c ks).plain by rw [HU2.out, List.take_of_length_le (by simp)])
          rw [HT.out] at HOW ⊢
          go_wp2
          go_ret
          exact ⟨HB.out.trans (hbe.mono HB.out.size), a', c', rfl, own_base' HOW.out HB.out.size⟩

end Go.Proofs.Ytgfkkbpnphbdgaa
