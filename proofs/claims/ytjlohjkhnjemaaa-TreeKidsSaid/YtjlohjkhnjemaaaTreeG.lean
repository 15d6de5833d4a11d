/- Trees: At of the program, and the document's own At: contracts over any world. -/
import Derived.Test.YtjlohjkhnjemaaaTreeD
import Derived.Deep.QuietTactic
import Derived.BigQuiet
set_option linter.unusedVariables false
namespace Go.Proofs.Ytjlohjkhnjemaaa
open Go.RowKit
open Doc

theorem wi_un (prod dot place s p : Int) (a : Option Addr) (c : Nat) (ks : List Tl) (fr : Int) : wiT prod dot place (Tl.mk s p a c ks).plain fr = if p = -1 then false else wiK prod dot place p (ks.map Tl.plain) 0 fr := by
  rw [Tl.plain_mk, wiT]
theorem at_un (prod dot place s p : Int) (a : Option Addr) (c : Nat) (ks : List Tl) (fr : Int) : atT prod dot place (Tl.mk s p a c ks).plain fr = if p = -1 then false else (atHere prod dot place p (ks.map Tl.plain) fr || atK prod dot place (ks.map Tl.plain) fr) := by
  rw [Tl.plain_mk, atT]
theorem wiK_drop (prod dot place p : Int) (ks : List Tl) (k : Nat) (fr : Int) {kt : Tl} (h1 : ks[k]? = some kt) : wiK prod dot place p ((ks.map Tl.plain).drop k) k fr = (isAtB prod dot place p k fr || wiT prod dot place kt.plain fr || wiK prod dot place p ((ks.map Tl.plain).drop (k + 1)) (k + 1 : Nat) (fr + ((leavesT kt.plain).length : Int))) := by
  have l1 := (List.getElem?_eq_some_iff.1 (map_at h1)).1
  rw [List.drop_eq_getElem_cons l1, wiK, (List.getElem?_eq_some_iff.1 (map_at h1)).2]
  push_cast
  rfl
theorem atK_drop (prod dot place : Int) (ks : List Tl) (k : Nat) (fr : Int) {kt : Tl} (h1 : ks[k]? = some kt) : atK prod dot place ((ks.map Tl.plain).drop k) fr = (atT prod dot place kt.plain fr || atK prod dot place ((ks.map Tl.plain).drop (k + 1)) (fr + ((leavesT kt.plain).length : Int))) := by
  have l1 := (List.getElem?_eq_some_iff.1 (map_at h1)).1
  rw [List.drop_eq_getElem_cons l1, atK, (List.getElem?_eq_some_iff.1 (map_at h1)).2]
theorem at_neg {prod : Int} (hp : prod < 0) (dot place : Int) (t : Tr) : ∀ fr, atT prod dot place t fr = false := by
  induction t using Tr.ind with
  | h s p ks ih =>
    intro fr
    have aux : ∀ (l : List Tr), (∀ k ∈ l, ∀ fr, atT prod dot place k fr = false) → ∀ fr, atK prod dot place l fr = false := by
      intro l
      induction l with
      | nil => intro _ fr; rfl
      | cons t l ih2 => intro h fr; rw [atK, h t List.mem_cons_self, ih2 (fun k hk => h k (List.mem_cons_of_mem _ hk))]; rfl
    rw [atT, aux ks ih]
    unfold atHere
    have : ¬ 0 ≤ prod := by omega
    simp [this]

set_option maxRecDepth 100000 in
set_option maxHeartbeats 2000000 in
theorem isAt_any (F : Nat) (prod dot place n s p i : Int) (a : Option Addr) (len c : Nat) (w : World) (hF : w.heap[F]? = some (.cells #[.int .i64 prod, .int .i64 dot, .int .i64 place, .int .i64 n] 154)) :
    Calls Try.prog 136 #[.pointer (some ⟨F, 0, none⟩), .agg #[.int .i64 s, .int .i64 p, .slice a len c], .int .i64 i] w fun e w' => e = .returned (.bool (isAtB prod dot place p i n)) ∧ Below w.heap.size w w' := by
  obtain ⟨hbS, hsS, q0⟩ := one_alloc w (.cells #[.int .i64 s, .int .i64 p, .slice a len c] 79)
  have HB := Lib.hid hbS
  have hF2 := (hbS.block _ (heap_lt hF)).trans hF
  go_enter Try.func136, Try.ntmps136
  go_upto_region 1 with fail
  generalize w.alloc (.cells #[.int .i64 s, .int .i64 p, .slice a len c] 79) = S at *
  have x0 := (blk_cell (i := 1) q0 rfl).1
  have y0 := (blk_cell (i := 0) hF2 rfl).1
  have y1 := (blk_cell (i := 1) hF2 rfl).1
  have y2 := (blk_cell (i := 2) hF2 rfl).1
  have y3 := (blk_cell (i := 3) hF2 rfl).1
  have l0 := heap_lt q0
  have l1 := heap_lt hF2
  have key : ∀ (b : Bool) (m : Nat), b = isAtB prod dot place p i n → (Ending.returned (.bool b) = .returned (.bool (isAtB prod dot place p i n)) ∧ Below w.heap.size w (S.drewN m)) := fun b m h => ⟨by rw [h], below_drews HB.out m⟩
  have HK := Lib.hid key
  clear key hbS hsS q0 hF hF2
  by_cases h1 : p = prod
  · have g1 : (p == prod) = true := beq_iff_eq.2 h1
    by_cases h2 : i = dot
    · have g2 : (i == dot) = true := beq_iff_eq.2 h2
      by_cases h3 : n = place
      · have g3 : (n == place) = true := beq_iff_eq.2 h3
        have HR : Hid (isAtB prod dot place p i n = true) := Lib.hid (by unfold isAtB; simp [h1, h2, h3])
        clear h1 h2 h3
        go_quiet (fail)
        go_wp2
        go_ret
        exact HK.out _ _ HR.out.symm
      · have g3 : (n == place) = false := beq_eq_false_iff_ne.2 h3
        have HR : Hid (isAtB prod dot place p i n = false) := Lib.hid (by unfold isAtB; simp [h3])
        clear h1 h2 h3
        go_quiet (fail)
        go_wp2
        go_ret
        exact HK.out _ _ HR.out.symm
    · have g2 : (i == dot) = false := beq_eq_false_iff_ne.2 h2
      have HR : Hid (isAtB prod dot place p i n = false) := Lib.hid (by unfold isAtB; simp [h2])
      clear h1 h2
      go_quiet (fail)
      go_wp2
      go_ret
      exact HK.out _ _ HR.out.symm
  · have g1 : (p == prod) = false := beq_eq_false_iff_ne.2 h1
    have HR : Hid (isAtB prod dot place p i n = false) := Lib.hid (by unfold isAtB; simp [h1])
    clear h1
    go_quiet (fail)
    go_wp2
    go_ret
    exact HK.out _ _ HR.out.symm

/-- How within ends: what it says, how many leaves are passed if it says no. -/
def FinderEnd (F : Nat) (prod dot place : Int) (t : Tr) (n : Nat) (w : World) (e : Ending) (w' : World) : Prop :=
  ∃ n' : Nat, e = .returned (.bool (wiT prod dot place t n)) ∧ (wiT prod dot place t n = false → n' = n + (leavesT t).length) ∧ w'.heap[F]? = some (.cells #[.int .i64 prod, .int .i64 dot, .int .i64 place, .int .i64 n'] 154) ∧
    Below F w w' ∧ w.heap.size ≤ w'.heap.size ∧ Stays [154] w w'

set_option maxRecDepth 100000 in
set_option maxHeartbeats 4000000 in
theorem finder_any (t : Tl) : ∀ (F : Nat) (prod dot place : Int) (n : Nat) (w : World), Lies (· < F) w t → w.heap[F]? = some (.cells #[.int .i64 prod, .int .i64 dot, .int .i64 place, .int .i64 n] 154) → n + sizeT t.plain ≤ 1000000 →
    Calls Try.prog 107 #[.pointer (some ⟨F, 0, none⟩), t.v] w (FinderEnd F prod dot place t.plain n w) := by
  induction t using Tl.ind with
  | h s p a c ks ih =>
    intro F prod dot place n w hl hF hz
    have HIH := Lib.hid ih
    have HU := Lib.hid (wi_un prod dot place s p a c ks n)
    have HLV := Lib.hid (leaves_un s p a c ks)
    have hkl := size_len s p a c ks
    have HZ := Lib.hid hz
    have HSZ := Lib.hid (show sizeT (Tl.mk s p a c ks).plain = 1 + sizeK (ks.map Tl.plain) by rw [Tl.plain_mk, sizeT])
    obtain ⟨hbS, hsS, q0⟩ := one_alloc w (.cells #[.int .i64 s, .int .i64 p, .slice a ks.length c] 79)
    have lF := heap_lt hF
    have HB := Lib.hid (hbS.mono (Nat.le_of_lt lF))
    have HSZ0 := Lib.hid hbS.size
    have HST0 : Hid (Stays [154] w (w.alloc (.cells #[.int .i64 s, .int .i64 p, .slice a ks.length c] 79))) := Lib.hid (Stays.of_below _ hbS)
    have HQ := Lib.hid q0
    have HL := Lib.hid (hl.under hbS)
    have HF := Lib.hid ((hbS.block _ lF).trans hF)
    have hks : ks.length ≤ 1000000 := by omega
    have hn : n ≤ 1000000 := by omega
    clear ih hz hbS q0 hl hkl hsS hF
    show Calls _ _ #[.pointer (some ⟨F, 0, none⟩), .agg #[.int .i64 s, .int .i64 p, .slice a ks.length c]] _ _
    go_enter Try.func107, Try.ntmps107
    go_upto_region 1 with fail
    generalize w.alloc (.cells #[.int .i64 s, .int .i64 p, .slice a ks.length c] 79) = S at *
    have t0 := (blk_cell (i := 0) HQ.out rfl).1
    have t1 := (blk_cell (i := 1) HQ.out rfl).1
    have t2 := (blk_cell (i := 2) HQ.out rfl).1
    have l0 := heap_lt HQ.out
    have l1 := heap_lt HF.out
    by_cases hp : p = -1
    · subst hp
      have HU2 := Lib.hid (HU.out.trans (if_pos rfl))
      have HL2 := Lib.hid (HLV.out.trans (if_pos rfl))
      clear HU HLV
      obtain ⟨y3, z3⟩ := blk_cell (i := 3) HF.out rfl
      go_wp2
      go_ret
      refine ⟨n + 1, ret_bool HU2.out.symm, (fun _ => by rw [HL2.out]; rfl), ?_, ?_, ?_, ?_⟩
      · rw [heap_set S F 3 _ _ _ HF.out (by simp)]
        simp
      · exact HB.out.setCell (p := ⟨F, 3, none⟩) (Nat.le_refl _) _
      · simpa using HSZ0.out
      · exact HST0.out.trans (Stays.set HF.out (by simp))
    · have e0 : (p == -1) = false := beq_eq_false_iff_ne.2 hp
      have HU2 := Lib.hid (HU.out.trans (if_neg hp))
      have HL2 := Lib.hid (HLV.out.trans (if_neg hp))
      clear HU HLV hp
      go_wp2
      clear t0 t1 t2 l0 l1
      go_loopw [20] (fun i wr => ∃ (k n2 : Nat), k ≤ ks.length ∧ i = .int .i64 k ∧ Hid (wr.heap[F]? = some (.cells #[.int .i64 prod, .int .i64 dot, .int .i64 place, .int .i64 n2] 154)) ∧ Below F S wr ∧ S.heap.size ≤ wr.heap.size ∧ Stays [154] S wr ∧ Hid (n2 = n + (leavesK ((ks.map Tl.plain).take k)).length) ∧ Hid (wiK prod dot place p (ks.map Tl.plain) 0 n = wiK prod dot place p ((ks.map Tl.plain).drop k) k n2)) (fun i _ => ks.length - (intOf i).toNat)
      case atStart => exact ⟨0, n, Nat.zero_le _, rfl, HF, Below.refl _ _, Nat.le_refl _, fun _ _ _ _ h _ => h, Lib.hid (by simp [leavesK]), Lib.hid rfl⟩
      case round =>
        obtain ⟨k, n2, hk, rfl, HFR, hbe, hsz, hst, HN2, HR⟩ := hrel
        have hQr := hst _ _ _ _ HQ.out (by decide)
        have t0 := (blk_cell (i := 0) hQr rfl).1
        have t1 := (blk_cell (i := 1) hQr rfl).1
        have t2 := (blk_cell (i := 2) hQr rfl).1
        have l0 := heap_lt hQr
        by_cases hlt : k < ks.length
        · obtain ⟨kt, hkt⟩ : ∃ kt, ks[k]? = some kt := ⟨_, List.getElem?_eq_getElem hlt⟩
          have hmem := List.mem_of_getElem? hkt
          have hLr : Lies (· < F) wr (Tl.mk s p a c ks) := HL.out.keep hsz (fun b hb _ => hbe.block b hb) (fun _ h _ => h)
          obtain ⟨b, off, rfl, hb, _, x0, x1, x2⟩ := kid_at hLr hkt
          have hlk := hLr.kid kt hmem
          have hzk := size_kid (s := s) (p := p) (a := some ⟨b, off, none⟩) (c := c) hmem
          have hstep := sizeK_drop (ks.map Tl.plain) k (map_at hkt)
          have htake := sizeK_take (ks.map Tl.plain) (k + 1)
          have hlv := leavesK_size ((ks.map Tl.plain).take k)
          have hls := leavesK_step ks k hkt
          have hw := HR.out.trans (wiK_drop prod dot place p ks k n2 hkt)
          have hz1 := HZ.out
          have hz2 := HSZ.out
          have hn2 := HN2.out
          have e1 : (k : Int) < ks.length := by omega
          obtain ⟨hbA, hsA, rA⟩ := one_alloc wr (.cells #[.int .i64 kt.sym, .int .i64 kt.prod, .slice kt.a kt.kids.length kt.c] 79)
          have hfA := (hbA.block _ (heap_lt HFR.out)).trans HFR.out
          have hFle : F ≤ wr.heap.size := Nat.le_of_lt (heap_lt HFR.out)
          have HIA := Lib.hid (isAt_any F prod dot place n2 s p k (some ⟨b, off, none⟩) ks.length c _ hfA)
          have HC := Lib.hid fun (W : World) (hW : Below (wr.alloc (.cells #[.int .i64 kt.sym, .int .i64 kt.prod, .slice kt.a kt.kids.length kt.c] 79)).heap.size (wr.alloc (.cells #[.int .i64 kt.sym, .int .i64 kt.prod, .slice kt.a kt.kids.length kt.c] 79)) W) => HIH.out kt hmem F prod dot place n2 W ((hlk.under hbA).under hW) ((hW.block _ (heap_lt hfA)).trans hfA) (by omega)
          have HFA := Lib.hid hfA
          have HRA := Lib.hid rA
          have HQA := Lib.hid ((hbA.block _ l0).trans hQr)
          have HBA := Lib.hid (hbe.trans (hbA.mono hFle))
          have HZA := Lib.hid (Nat.le_trans hsz hbA.size)
          have HSA := Lib.hid (hst.trans (Stays.of_below [154] hbA))
          have HFL := Lib.hid (Nat.le_trans hFle hbA.size)
          have HW := Lib.hid hw
          have HNN := Lib.hid (show n2 + (leavesT kt.plain).length = n + (leavesK ((ks.map Tl.plain).take (k + 1))).length by rw [hls, List.length_append]; omega)
          unfold Tl.v at HC
          clear hmem hLr hlk hzk hstep htake hlv hls hw hz1 hz2 hn2 hbA rA hfA hFle hQr hbe hsz hst HFR HN2 HR hkt hsA
          obtain ⟨ksy, kp, ka, kc, kk⟩ := kt
          simp only [Tl.sym, Tl.prod, Tl.a, Tl.c, Tl.kids] at *
          go_upto_region 7 with fail
          generalize wr.alloc (.cells #[.int .i64 ksy, .int .i64 kp, .slice ka kk.length kc] 79) = SA at *
          generalize wr.heap.size = BA at *
          clear t0 t1 t2 l0 x0 x1 x2
          have t0 := (blk_cell (i := 0) HQA.out rfl).1
          have t1 := (blk_cell (i := 1) HQA.out rfl).1
          have t2 := (blk_cell (i := 2) HQA.out rfl).1
          have l0 := heap_lt HQA.out
          have HCL : Hid (∀ W, Below SA.heap.size SA W → (W.cell? ⟨BA, 0, none⟩ = some (.int .i64 ksy) ∧ W.cell? ⟨BA, 1, none⟩ = some (.int .i64 kp) ∧ W.cell? ⟨BA, 2, none⟩ = some (.slice ka kk.length kc)) ∧ BA < W.heap.size) := Lib.hid fun W hW => by
            have z0 := (hW.block _ (heap_lt HRA.out)).trans HRA.out
            exact ⟨⟨(blk_cell z0 rfl).1, (blk_cell z0 rfl).1, (blk_cell z0 rfl).1⟩, heap_lt z0⟩
          cases hi : isAtB prod dot place p k n2 with
          | true =>
            rw [hi] at HIA HW
            have HWT := Lib.hid (HW.out.trans (by rw [Bool.true_or, Bool.true_or]))
            clear HW hi
            go_wp2_with (go_at_call 136; refine HIA.out.mono ?_; rintro e w2 ⟨rfl, hb2⟩)
            go_ret
            exact ⟨n2, ret_bool (HU2.out.trans HWT.out).symm, (fun h => absurd (h.symm.trans (HU2.out.trans HWT.out)) (by decide)), (hb2.block _ (heap_lt HFA.out)).trans HFA.out, (HB.out.trans HBA.out).trans (hb2.mono HFL.out), Nat.le_trans HSZ0.out (Nat.le_trans HZA.out hb2.size), (HST0.out.trans HSA.out).trans (Stays.of_below _ hb2)⟩
          | false =>
            rw [hi] at HIA HW
            have HWF := Lib.hid (HW.out.trans (by rw [Bool.false_or]))
            clear HW hi
            cases hv : wiT prod dot place (Tl.mk ksy kp ka kc kk).plain n2 with
            | true =>
              have HWT := Lib.hid (HWF.out.trans (by rw [hv, Bool.true_or]))
              clear HWF
              have HVV := Lib.hid hv
              clear hv
              go_wp2_with (first
                | (go_at_call 136; refine HIA.out.mono ?_; rintro e w2 ⟨rfl, hb2⟩; obtain ⟨⟨u0, u1, u2⟩, lu⟩ := HCL.out _ hb2)
                | (go_at_call 107; refine (HC.out _ hb2).mono ?_; rintro e w3 ⟨n3, rfl, _, hf3, hb3, hz3, hst3⟩; rw [HVV.out]))
              go_ret
              exact ⟨n3, ret_bool (HU2.out.trans HWT.out).symm, (fun h => absurd (h.symm.trans (HU2.out.trans HWT.out)) (by decide)), hf3, ((HB.out.trans HBA.out).trans (hb2.mono HFL.out)).trans hb3, Nat.le_trans HSZ0.out (Nat.le_trans HZA.out (Nat.le_trans hb2.size hz3)), ((HST0.out.trans HSA.out).trans (Stays.of_below _ hb2)).trans hst3⟩
            | false =>
              have HWT := Lib.hid (HWF.out.trans (by rw [hv, Bool.false_or]))
              clear HWF
              have HVV := Lib.hid hv
              clear hv
              go_wp2_with (first
                | (go_at_call 136; refine HIA.out.mono ?_; rintro e w2 ⟨rfl, hb2⟩; obtain ⟨⟨u0, u1, u2⟩, lu⟩ := HCL.out _ hb2)
                | (go_at_call 107; refine (HC.out _ hb2).mono ?_; rintro e w3 ⟨n3, rfl, hn3, hf3, hb3, hz3, hst3⟩; rw [HVV.out]))
              have hn4 := hn3 HVV.out
              exact ⟨⟨k + 1, n3, by omega, by go_num, Lib.hid hf3, (HBA.out.trans (hb2.mono HFL.out)).trans hb3, Nat.le_trans HZA.out (Nat.le_trans hb2.size hz3), (HSA.out.trans (Stays.of_below _ hb2)).trans hst3, Lib.hid (by rw [hn4, HNN.out]), Lib.hid (by rw [HWT.out, hn4]; push_cast; rfl)⟩, by simp [intOf]; omega⟩
        · have e1 : ¬ (k : Int) < ks.length := by omega
          obtain rfl : k = ks.length := by omega
          have HIA := Lib.hid (isAt_any F prod dot place n2 s p ks.length a ks.length c wr HFR.out)
          have HW := Lib.hid (HR.out.trans (by rw [List.drop_of_length_le (by simp)]; rfl : _ = isAtB prod dot place p ks.length n2))
          have HNN := Lib.hid (HN2.out.trans (by rw [List.take_of_length_le (by simp)] : _ = n + (leavesK (ks.map Tl.plain)).length))
          have HBE := Lib.hid hbe
          have HZE := Lib.hid hsz
          have HSE := Lib.hid hst
          clear HR HN2 hbe hsz hst hQr
          go_wp2_with (go_at_call 136; refine HIA.out.mono ?_; rintro e w2 ⟨rfl, hb2⟩)
          go_ret
          exact ⟨n2, ret_bool (HU2.out.trans HW.out).symm, (fun _ => by rw [HNN.out, HL2.out]), (hb2.block _ (heap_lt HFR.out)).trans HFR.out, (HB.out.trans HBE.out).trans (hb2.mono (Nat.le_of_lt (heap_lt HFR.out))), Nat.le_trans HSZ0.out (Nat.le_trans HZE.out hb2.size), (HST0.out.trans HSE.out).trans (Stays.of_below _ hb2)⟩

set_option maxHeartbeats 2000000 in
theorem tat_any (t : Tl) (P : Nat → Prop) (prod dot place : Int) (w : World) (hl : Lies P w t) (hz : sizeT t.plain ≤ 1000000) :
    Calls Try.prog 61 #[t.v, .int .i64 prod, .int .i64 dot, .int .i64 place] w fun e w' => e = .returned (.bool (atT prod dot place t.plain 0)) ∧ Below w.heap.size w w' := by
  obtain ⟨hbS, hsS, q0⟩ := one_alloc w (.cells #[.int .i64 t.sym, .int .i64 t.prod, .slice t.a t.kids.length t.c] 79)
  obtain ⟨hbT, hsT, r0, r1⟩ := twin_alloc w (.cells #[.int .i64 t.sym, .int .i64 t.prod, .slice t.a t.kids.length t.c] 79) (.cells #[.int .i64 prod, .int .i64 dot, .int .i64 place, .int .i64 0] 154)
  have HB := Lib.hid hbS
  have HBT := Lib.hid hbT
  have HR0 := Lib.hid r0
  have HC := Lib.hid (finder_any t (w.heap.size + 1) prod dot place 0 _ ((hl.weak (Q := (· < w.heap.size + 1)) (fun b _ h => by omega)).under hbT) r1 (by omega))
  by_cases h0 : prod < 0
  · have HN := Lib.hid (at_neg h0 dot place t.plain 0)
    clear hl hz hbS q0 hbT r0 r1 HC
    unfold Tl.v
    obtain ⟨s, p, a, c, ks⟩ := t
    simp only [Tl.sym, Tl.prod, Tl.a, Tl.c, Tl.kids] at *
    go_enter Try.func61, Try.ntmps61
    go_wp2
    go_ret
    exact ⟨ret_bool HN.out.symm, HB.out⟩
  · have HWA := Lib.hid (wi_at prod dot place (by omega) t.plain 0)
    clear hl hz hbS q0 hbT r0 r1
    unfold Tl.v at HC ⊢
    have c0 := (blk_cell (i := 0) HR0.out rfl).1
    have c1 := (blk_cell (i := 1) HR0.out rfl).1
    have c2 := (blk_cell (i := 2) HR0.out rfl).1
    have l0 := heap_lt HR0.out
    obtain ⟨s, p, a, c, ks⟩ := t
    simp only [Tl.sym, Tl.prod, Tl.a, Tl.c, Tl.kids] at *
    go_enter Try.func61, Try.ntmps61
    go_wp2_with (go_at_call 107; refine HC.out.mono ?_; rintro e w3 ⟨n3, rfl, _, hf3, hb3, hz3, hst3⟩)
    go_ret
    exact ⟨ret_bool HWA.out, HBT.out.trans (hb3.mono (Nat.le_succ _))⟩

end Go.Proofs.Ytjlohjkhnjemaaa
