/- Trees: Leaves and Same of the program, and the document's own Leaves and SameTree: contracts over any world. -/
import Derived.Test.YtflfmcikfiaoiaaTreeB
import Derived.Test.YtflfmcikfiaoiaaAppAll
import Derived.Test.YtflfmcikfiaoiaaRaw
set_option linter.unusedVariables false
namespace Go.Proofs.Ytflfmcikfiaoiaa
open Go.RowKit
open Doc

theorem leaves_un (s p : Int) (a : Option Addr) (c : Nat) (ks : List Tl) : leavesT (Tl.mk s p a c ks).plain = if p = -1 then [s] else leavesK (ks.map Tl.plain) := by
  rw [Tl.plain_mk, leavesT]
theorem leavesK_step (ks : List Tl) (j : Nat) {k : Tl} (hj : ks[j]? = some k) : leavesK ((ks.map Tl.plain).take (j + 1)) = leavesK ((ks.map Tl.plain).take j) ++ leavesT k.plain := by
  rw [List.take_add_one, map_at hj, leavesK_app]
  simp [leavesK]

set_option maxRecDepth 100000 in
set_option maxHeartbeats 4000000 in
theorem addLeaves_any (t : Tl) : ∀ (B : Nat) (l : List Int) (a0 : Option Addr) (c0 : Nat) (w : World), B ≤ w.heap.size → Lies (· < B) w t → l.length + sizeT t.plain ≤ 1000000 → w.ownsRow B 3 1 (.slice a0 l.length c0) l.length (nums l) →
    Calls Try.prog 119 #[.slice a0 l.length c0, t.v] w fun e w' => Below B w w' ∧ ∃ a' c', e = .returned (.slice a' (l ++ leavesT t.plain).length c') ∧ w'.ownsRow B 3 1 (.slice a' (l ++ leavesT t.plain).length c') (l ++ leavesT t.plain).length (nums (l ++ leavesT t.plain)) := by
  induction t using Tl.ind with
  | h s p a c ks ih =>
    intro B l a0 c0 w hB hl hz ho
    obtain ⟨i0, hi0, hz0, hz1, hz2⟩ := info_of infoI
    have HIH := Lib.hid ih
    have HU := Lib.hid (leaves_un s p a c ks)
    have hkl := size_len s p a c ks
    have HZ := Lib.hid hz
    have HSZ := Lib.hid (show sizeT (Tl.mk s p a c ks).plain = 1 + sizeK (ks.map Tl.plain) by rw [Tl.plain_mk, sizeT])
    obtain ⟨hbS, hsS, q0⟩ := one_alloc w (.cells #[.int .i64 s, .int .i64 p, .slice a ks.length c] 71)
    have HB := Lib.hid (hbS.mono hB)
    have HQ := Lib.hid q0
    have HL := Lib.hid (hl.under hbS)
    have HO := Lib.hid (own_same ho (fun g _ hg => hbS.block g hg))
    have HBS := Lib.hid (Nat.le_trans hB hbS.size)
    have hks : ks.length ≤ 1000000 := by omega
    have hll : l.length ≤ 1000000 := by omega
    clear ih hz hbS q0 hl hkl hsS ho
    show Calls _ _ #[.slice a0 l.length c0, .agg #[.int .i64 s, .int .i64 p, .slice a ks.length c]] _ _
    go_enter Try.func119, Try.ntmps119
    go_upto_region 1 with fail
    generalize w.alloc (.cells #[.int .i64 s, .int .i64 p, .slice a ks.length c] 71) = S at *
    have t0 := (blk_cell (i := 0) HQ.out rfl).1
    have t1 := (blk_cell (i := 1) HQ.out rfl).1
    have t2 := (blk_cell (i := 2) HQ.out rfl).1
    have l0 := heap_lt HQ.out
    by_cases hp : p = -1
    · subst hp
      have HU2 := Lib.hid (HU.out.trans (if_pos rfl))
      clear HU
      go_wp2_with (at_builtin; refine wpList_append_lies _ rfl (.tmp 10) (.tmp 13) 34 rfl B 3 i0 (.int .i64 0) 1 8 Try.underlying34 hi0 hz0 hz1 hz2 rfl (by decide) _ l.length (nums l) rfl (HO.out.alloc _) ⟨S.heap.size, 0, none⟩ 1 1 [.int .i64 s] rfl rfl (World.news_of_block (cs := #[.int .i64 s]) (t := 3) (fr := (0, 0)) (heap_alloc_new S _)) (by simp [Value.oneCell']) (by decide) (by unfold maxLen; omega) (by omega) (by have := HBS.out; simp; omega) S.heap.size.succ (by simp) ?_; intro g5 cap5 w5 hown5 hgrow5 hat5 hlt5)
      go_ret
      refine ⟨?_, some ⟨g5, 0, none⟩, cap5, ?_, ?_⟩
      · exact (HB.out.alloc HBS.out _).grown hgrow5 (by have := HBS.out; simp; omega) (fun x hx => (own_block HO.out hx).1)
      · rw [HU2.out]; simp
      · rw [HU2.out]; simpa [nums] using hown5
    · have e0 : (p == -1) = false := beq_eq_false_iff_ne.2 hp
      have HU2 := Lib.hid (HU.out.trans (if_neg hp))
      clear HU hp
      go_wp2
      go_loopw [0, 18] (fun v i wr => ∃ (k : Nat) (a' : Option Addr) (c' : Nat), k ≤ ks.length ∧ i = .int .i64 k ∧ v = .slice a' (l ++ leavesK ((ks.map Tl.plain).take k)).length c' ∧ Below B S wr ∧ S.heap.size ≤ wr.heap.size ∧ Hid (wr.ownsRow B 3 1 (.slice a' (l ++ leavesK ((ks.map Tl.plain).take k)).length c') (l ++ leavesK ((ks.map Tl.plain).take k)).length (nums (l ++ leavesK ((ks.map Tl.plain).take k))))) (fun _ i _ => ks.length - (intOf i).toNat)
      case atStart => exact ⟨0, a0, c0, Nat.zero_le _, rfl, by simp [leavesK], Below.refl _ _, Nat.le_refl _, Lib.hid (by simpa [leavesK] using HO.out)⟩
      case round =>
        obtain ⟨k, a', c', hk, rfl, rfl, hbe, hsz, HOW⟩ := hrel
        by_cases hlt : k < ks.length
        · obtain ⟨kt, hkt⟩ : ∃ kt, ks[k]? = some kt := ⟨_, List.getElem?_eq_getElem hlt⟩
          have hmem := List.mem_of_getElem? hkt
          have hLr : Lies (· < B) wr (Tl.mk s p a c ks) := HL.out.keep hsz (fun b hb _ => hbe.block b hb) (fun _ h _ => h)
          obtain ⟨b, off, rfl, hb, _, x0, x1, x2⟩ := kid_at hLr hkt
          have hlk := hLr.kid kt hmem
          have hstep := leavesK_step ks k hkt
          have hlen := leavesK_size ((ks.map Tl.plain).take (k + 1))
          have htake := sizeK_take (ks.map Tl.plain) (k + 1)
          have hzs := sizeK_drop (ks.map Tl.plain) k (map_at hkt)
          have hlen2 := leavesK_size ((ks.map Tl.plain).take k)
          have hz1 := HZ.out
          have hz2 := HSZ.out
          have e1 : (k : Int) < ks.length := by omega
          have hbA := box_belowT wr (.cells #[.int .i64 kt.sym, .int .i64 kt.prod, .slice kt.a kt.kids.length kt.c] 71)
          have hBw : B ≤ wr.heap.size := Nat.le_trans HBS.out hsz
          have HC := Lib.hid (HIH.out kt hmem B (l ++ leavesK ((ks.map Tl.plain).take k)) a' c' _ (Nat.le_trans hBw hbA.size) (hlk.under hbA) (by rw [List.length_append]; omega) (own_same HOW.out (fun g _ hg => hbA.block g hg)))
          have HBE := Lib.hid (hbe.trans (hbA.mono hBw))
          have HSZ2 := Lib.hid (Nat.le_trans hsz hbA.size)
          have HST := Lib.hid (show (l ++ leavesK ((ks.map Tl.plain).take k)) ++ leavesT kt.plain = l ++ leavesK ((ks.map Tl.plain).take (k + 1)) by rw [hstep, List.append_assoc])
          rw [HST.out] at HC
          unfold Tl.v at HC
          have hllen : (l ++ leavesK ((ks.map Tl.plain).take k)).length ≤ 1000000 := by rw [List.length_append]; omega
          clear hmem hlk hbA hbe hkt hLr hstep hlen htake hzs hlen2 hz1 hz2 HST HOW
          generalize l ++ leavesK ((ks.map Tl.plain).take k) = L at *
          obtain ⟨ksy, kp, ka, kc, kk⟩ := kt
          simp only [Tl.sym, Tl.prod, Tl.a, Tl.c, Tl.kids] at *
          go_wp2_with (go_at_call 119; refine HC.out.mono ?_; rintro e w4 ⟨hb4, a4, c4, rfl, ho4⟩)
          exact ⟨⟨k + 1, a4, c4, by omega, by go_num, by simp, HBE.out.trans hb4, Nat.le_trans HSZ2.out hb4.size, Lib.hid (by simpa using ho4)⟩, by simp [intOf]; omega⟩
        · have e1 : ¬ (k : Int) < ks.length := by omega
          obtain rfl : k = ks.length := by omega
          have HT := Lib.hid (show leavesK ((ks.map Tl.plain).take ks.length) = leavesT (Tl.mk s p a c ks).plain by rw [HU2.out, List.take_of_length_le (by simp)])
          rw [HT.out] at HOW ⊢
          go_wp2
          go_ret
          exact ⟨HB.out.trans hbe, a', c', by simp, by simpa using HOW.out⟩

set_option maxHeartbeats 1000000 in
theorem tleaves_any (t : Tl) (P : Nat → Prop) (w : World) (hl : Lies P w t) (hz : sizeT t.plain ≤ 1000000) :
    Calls Try.prog 89 #[t.v] w fun e w' => Below w.heap.size w w' ∧ ∃ a' c', e = .returned (.slice a' (leavesT t.plain).length c') ∧ w'.ownsRow w.heap.size 3 1 (.slice a' (leavesT t.plain).length c') (leavesT t.plain).length (nums (leavesT t.plain)) := by
  obtain ⟨hbS, hsS, q0⟩ := one_alloc w (.cells #[.int .i64 t.sym, .int .i64 t.prod, .slice t.a t.kids.length t.c] 71)
  have HC := Lib.hid (addLeaves_any t w.heap.size [] none 0 _ hbS.size ((hl.weak (Q := (· < w.heap.size)) (fun b _ h => h)).under hbS) (by simpa using hz) (World.ownsRow_nil _ _ _ _))
  unfold Tl.v at HC ⊢
  have c0 := (blk_cell (i := 0) q0 rfl).1
  have c1 := (blk_cell (i := 1) q0 rfl).1
  have c2 := (blk_cell (i := 2) q0 rfl).1
  have HB := Lib.hid hbS
  have l0 := heap_lt q0
  clear hl hz q0 hbS hsS
  obtain ⟨s, p, a, c, ks⟩ := t
  simp only [Tl.sym, Tl.prod, Tl.a, Tl.c, Tl.kids, List.nil_append, List.length_nil] at *
  go_enter Try.func89, Try.ntmps89
  go_wp2_with (go_at_call 119; refine HC.out.mono ?_; rintro e w4 ⟨hb4, a4, c4, rfl, ho4⟩)
  go_ret
  exact ⟨HB.out.trans hb4, a4, c4, rfl, ho4⟩

end Go.Proofs.Ytflfmcikfiaoiaa
