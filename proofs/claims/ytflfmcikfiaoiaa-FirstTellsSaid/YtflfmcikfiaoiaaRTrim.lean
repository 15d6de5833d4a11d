/- The document's own Trim, and a row of truths as a set: walked. -/
import Derived.Test.YtflfmcikfiaoiaaRReach
import Derived.Test.YtflfmcikfiaoiaaAppAll
set_option linter.unusedVariables false
namespace Go.Proofs.Ytflfmcikfiaoiaa
open Go.RowKit
open Doc

/-- The first n digits of S alone. -/
def asN (S : Nat) : Nat → Nat
  | 0 => 0
  | k + 1 => if S.testBit k then asN S k ||| sdig (k : Int) else asN S k
theorem asN_lt (S : Nat) : ∀ n, asN S n < 18446744073709551616
  | 0 => by unfold asN; omega
  | k + 1 => by
    unfold asN
    split
    · exact or_lt _ _ (asN_lt S k) (dig_lt _)
    · exact asN_lt S k
theorem asN_bit (S : Nat) : ∀ n i, n ≤ 64 → (asN S n).testBit i = (decide (i < n) && S.testBit i)
  | 0, i, _ => by simp [asN]
  | k + 1, i, h => by
    unfold asN
    have hk := asN_bit S k i (by omega)
    by_cases hi : i = k
    · subst hi
      cases hb : S.testBit i
      · simp [hk, hb]
      · simp [Nat.testBit_or, bit_dig]; omega
    · have h1 : decide (i < k + 1) = decide (i < k) := decide_eq_decide.2 (by omega)
      rw [h1, ← hk]
      split
      · rw [Nat.testBit_or, bit_dig, decide_eq_false (by omega)]; simp
      · rfl
theorem asN_self {S n : Nat} (hn : n ≤ 64) (h : ∀ i, S.testBit i = true → i < n) : asN S n = S := Nat.eq_of_testBit_eq fun i => by
  rw [asN_bit S n i hn]
  cases hb : S.testBit i
  · simp
  · simp [h i hb]

theorem one_get {z u : Value} {j : Nat} (h : [z][j]? = some u) : j = 0 ∧ u = z := by
  cases j with
  | zero => simp at h; exact ⟨rfl, h.symm⟩
  | succ j => simp at h

/-- What the document's Trim tells. -/
def rtrimL (g : Gr) : List Int := if (iterG (gsF bearI g.prods) 0 g.nons.length).testBit 0 = true then trimF (iterG (gsF bearI g.prods) 0 g.nons.length) g.prods 0 else []

set_option maxRecDepth 100000 in
set_option maxHeartbeats 8000000 in
theorem rtrim_any (v : Value) (g : Gr) (w : World) (hg : GramAt w v g) (hck : CheckG g) :
    Calls Try.prog 22 #[v] w fun e w' => Below w.heap.size w w' ∧ ∃ a c, e = .returned (.slice a (rtrimL g).length c) ∧ w'.ownsRow w.heap.size 3 1 (.slice a (rtrimL g).length c) (rtrimL g).length (nums (rtrimL g)) := by
  obtain ⟨i0, hi0, hz0, hz1, hz2⟩ := info_of infoI
  have hg0 := hg
  obtain ⟨a1, a2, a3, c1, c2, c3, ls, rfl, hp, k1, k2, k3, k4, k5, k6, k7⟩ := hg
  have hS := box_below w (.cells #[.slice a1 g.terms.length c1, .slice a2 g.nons.length c2, .slice a3 ls.length c3] 28)
  have q0 := heap_alloc_new w (.cells #[.slice a1 g.terms.length c1, .slice a2 g.nons.length c2, .slice a3 ls.length c3] 28)
  have HFU := Lib.hid (rfru_any _ g _ (hg0.below hS) hck)
  have hFI := rfru_is hck
  have H3 := Lib.hid (k3.below hS)
  have H4 := Lib.hid (fun p hp => (k4 p hp).below hS)
  have HQ := Lib.hid q0
  have HP := Lib.hid hp
  have HS := Lib.hid hS
  have HCK := Lib.hid hck
  have hn8 := hck.n8
  have ht8 := hck.t8
  have hn1 := hck.n1
  have hp24 := hck.p24
  have hl0 := heap_lt q0
  have hll : ls.length ≤ 24 := by have : ls.length = g.prods.length := by rw [← hp, List.length_map]
                                  omega
  have HTL : Hid (rtrimL g = if (iterG (gsF bearI g.prods) 0 g.nons.length).testBit 0 = true then trimF (iterG (gsF bearI g.prods) 0 g.nons.length) g.prods 0 else []) := Lib.hid rfl
  generalize rtrimL g = TL at *
  generalize iterG (gsF bearI g.prods) 0 g.nons.length = F at *
  have HFI := Lib.hid hFI
  clear hp k1 k2 k3 k4 hS q0 hck hp24 hg0 hFI
  obtain ⟨B0, hB0⟩ : ∃ B, B = w.heap.size := ⟨_, rfl⟩
  have HB0 := Lib.hid hB0
  clear hB0
  go_enter Try.func22, Try.ntmps22
  go_upto_region 1 with fail
  generalize hS1 : w.alloc (.cells #[.slice a1 g.terms.length c1, .slice a2 g.nons.length c2, .slice a3 ls.length c3] 28) = S1 at *
  clear hS1
  have y1 := (blk_cell (i := 0) (u := .slice a1 g.terms.length c1) HQ.out rfl).1
  have y2 := (blk_cell (i := 1) (u := .slice a2 g.nons.length c2) HQ.out rfl).1
  have y3 := (blk_cell (i := 2) (u := .slice a3 ls.length c3) HQ.out rfl).1
  go_upto_region 2 with (go_at_call 69; refine HFU.out.mono ?_; rintro e w2 ⟨b, rfl, hBA, hb2, hbb⟩)
  have HB2 := Lib.hid hb2
  have HBA := Lib.hid hBA
  have q3 := (hb2.block _ hl0).trans HQ.out
  have l3 := heap_lt q3
  have x3 := (blk_cell (i := 2) (u := .slice a3 ls.length c3) q3 rfl).1
  have hbw2 := HS.out.trans (hb2.mono HS.out.size)
  have HBW2 := Lib.hid hbw2
  have HC3 := Lib.hid (H3.out.below hb2)
  have HC4 := Lib.hid (fun p hp => (H4.out p hp).below hb2)
  have hB2 : B0 ≤ w2.heap.size := by rw [HB0.out]; exact hbw2.size
  clear y1 y2 y3 q3 hbw2 hb2 hBA H3 H4 HFU hbb
  go_wp2
  go_loopw [4, 12] (fun v i wr => ∃ (k : Nat) (a : Option Addr) (c : Nat), k ≤ ls.length ∧ i = .int .i64 k ∧ v = .slice a (if F.testBit 0 = true then trimF F ((ls.take k).map Lay.plain) 0 else []).length c ∧ Hid (wr.ownsRow w2.heap.size 3 1 (.slice a (if F.testBit 0 = true then trimF F ((ls.take k).map Lay.plain) 0 else []).length c) (if F.testBit 0 = true then trimF F ((ls.take k).map Lay.plain) 0 else []).length (nums (if F.testBit 0 = true then trimF F ((ls.take k).map Lay.plain) 0 else []))) ∧ Below w2.heap.size w2 wr) (fun _ i _ => ls.length - (intOf i).toNat)
  case atStart => exact ⟨0, none, 0, by omega, rfl, by simp [trimF], Lib.hid (by simpa [trimF, nums] using World.ownsRow_nil _ _ _ _), Below.refl _ _⟩
  case round =>
    obtain ⟨k, a, c, hk, rfl, rfl, HO, hbe⟩ := hrel
    by_cases hlt : k < ls.length
    · obtain ⟨p, hp⟩ : ∃ p, ls[k]? = some p := ⟨_, List.getElem?_eq_getElem hlt⟩
      obtain ⟨pl, pr, pa, pc⟩ := p
      obtain ⟨b3, o3, rfl, hb3, hc3⟩ := (HC3.out.below hbe).get (by intro e; have := (lays_at ls k _ hp).1; rw [e] at this; simp at this)
      have x0 := hc3 _ _ (lays_at ls k _ hp).1
      have x1 := hc3 _ _ (lays_at ls k _ hp).2
      rw [← Nat.add_assoc] at x1
      simp only at x0 x1
      have e1 : (k : Int) < ls.length := by omega
      have hpm := List.mem_of_getElem? hp
      have hpp : (pl, pr) ∈ g.prods := by rw [← HP.out]; exact List.mem_map_of_mem (f := Lay.plain) hpm
      have hpv := HCK.out.pv _ hpp
      obtain ⟨⟨hpl1, hpl2⟩, hpr6, hps⟩ := hpv
      simp only at hpl1 hpl2 hpr6 hps
      have HPS := Lib.hid hps
      have hbA := box_below wr (.cells #[.int .i64 pl, .slice pa pr.length pc] 94)
      have qA := heap_alloc_new wr (.cells #[.int .i64 pl, .slice pa pr.length pc] 94)
      have HPR := Lib.hid ((show Cells wr pa (nums pr) from (HC4.out _ hpm).below hbe).below hbA)
      have hBw : BsAt wr b g.nons.length F := (hbe.block b (heap_lt HBA.out)).trans HBA.out
      have hBA2 : BsAt (wr.alloc (.cells #[.int .i64 pl, .slice pa pr.length pc] 94)) b g.nons.length F := (hbA.block b (heap_lt hBw)).trans hBw
      have HFR := Lib.hid (rfruit_any b g.nons.length F pl pa pc pr _ hBA2 HPR.out (by omega) (fun s hs => by
            have := HPS.out s hs
            unfold symOk at this; omega) (by omega))
      have HST := Lib.hid (trimF_step (F := F) hp)
      have htl := trimF_len F ((ls.take k).map Lay.plain) 0
      rw [List.length_map, List.length_take] at htl
      obtain ⟨i, hi⟩ := Int.eq_ofNat_of_zero_le (show 0 ≤ pl - 100 by omega)
      have hin : i < g.nons.length := by omega
      have e4 : (i : Int) < g.nons.length := by omega
      have e5 : (0 : Int) < g.nons.length := by omega
      have hx := (hBA2.cell hin).1
      have hx0 := (hBA2.cell (i := 0) (by omega)).1
      have hbl2 := heap_lt hBA2
      have z0 := (blk_cell (i := 0) (u := .int .i64 pl) qA rfl).1
      have z1 := (blk_cell (i := 1) (u := .slice pa pr.length pc) qA rfl).1
      have z2 := heap_lt qA
      have HBE := Lib.hid hbe
      have HBAA := Lib.hid hbA
      have hsz := hbe.size
      have HLB : Hid (bearI pr F = true → F.testBit i = true) := Lib.hid fun hv => by
        have h1 := bear_has (nums_of_check HCK.out) HFI.out hpp hv
        simp only at h1
        rwa [hi, shas_bit _ _ (by omega)] at h1
      clear hc3 hp hpm hbA hbe hpp hps hBw hBA2 qA
      generalize trimF F ((ls.take k).map Lay.plain) 0 = T at *
      have htl6 : T.length ≤ 1000000 := by omega
      cases h0 : F.testBit 0 with
      | false =>
        rw [h0] at HO hx0
        simp only [Bool.false_eq_true, if_false] at HO ⊢
        go_wp2
        exact ⟨⟨k + 1, a, c, by omega, by go_num, rfl, Lib.hid (own_same HO.out (fun g _ hl => HBAA.out.block g hl)), HBE.out.trans (HBAA.out.mono HBE.out.size)⟩, by simp [intOf]; omega⟩
      | true =>
        rw [h0] at HO hx0
        simp only [if_true] at HO ⊢
        cases hbi : F.testBit i with
        | false =>
          have hbv : bearI pr F = false := by
            rw [Bool.eq_false_iff]; intro h; have := HLB.out h; rw [hbi] at this; cases this
          have hN := Lib.hid (show trimF F ((ls.take (k + 1)).map Lay.plain) 0 = T by rw [HST.out]; rw [if_neg (by show ¬ bearI pr F = true; rw [hbv]; decide)]; simp)
          rw [hbi] at hx
          clear hbi HLB HFR hbv
          go_wp2
          exact ⟨⟨k + 1, a, c, by omega, by go_num, by rw [hN.out], Lib.hid (by rw [hN.out]; exact own_same HO.out (fun g _ hl => HBAA.out.block g hl)), HBE.out.trans (HBAA.out.mono HBE.out.size)⟩, by simp [intOf]; omega⟩
        | true =>
          rw [hbi] at hx
          clear HLB
          cases hbv : bearI pr F with
          | true =>
            have hN := Lib.hid (show trimF F ((ls.take (k + 1)).map Lay.plain) 0 = T ++ [(k : Int)] by rw [HST.out]; congr 1; exact if_pos hbv)
            rw [hbv] at HFR
            clear hbv hbi
            go_wp2_with (first
              | (go_at_call 70; refine HFR.out.mono ?_; rintro e w4 ⟨rfl, hb4⟩; have ho4 := own_same HO.out (fun g _ hl => (hb4.block g (Nat.lt_of_lt_of_le hl HBAA.out.size)).trans (HBAA.out.block g hl)); have HO4 := Lib.hid ho4; clear ho4; have hz4 : w2.heap.size ≤ w4.heap.size := Nat.le_trans hsz (Nat.le_trans HBAA.out.size hb4.size))
              | (at_builtin; refine wpList_append_lies _ rfl (.tmp 33) (.tmp 35) 34 rfl w2.heap.size 3 i0 (.int .i64 0) 1 8 Try.underlying34 hi0 hz0 hz1 hz2 rfl (by decide) _ T.length (nums T) rfl (HO4.out.alloc _) ⟨w4.heap.size, 0, none⟩ 1 1 [.int .i64 (k : Int)] rfl rfl (World.news_of_block (cs := #[.int .i64 (k : Int)]) (t := 3) (fr := (0, 0)) (heap_alloc_new w4 _)) (by simp [Value.oneCell']) (by decide) (by unfold maxLen; omega) (by omega) (by simp; omega) w4.heap.size.succ (by simp) ?_; intro g5 cap5 w5 hown5 hgrow5 hat5 hlt5; have HO5 := Lib.hid hown5; have HG5 := Lib.hid hgrow5; clear hown5 hgrow5))
            exact ⟨⟨k + 1, some ⟨g5, 0, none⟩, cap5, by omega, by go_num, by rw [hN.out]; simp, Lib.hid (by rw [hN.out]; simpa [nums] using HO5.out), ((HBE.out.trans ((HBAA.out.trans (hb4.mono HBAA.out.size)).mono HBE.out.size)).alloc hz4 _).grown HG5.out (by simp; omega) (fun x hx => (own_block HO4.out hx).1)⟩, by simp [intOf]; omega⟩
          | false =>
            have hN := Lib.hid (show trimF F ((ls.take (k + 1)).map Lay.plain) 0 = T by rw [HST.out]; rw [if_neg (by show ¬ bearI pr F = true; rw [hbv]; decide)]; simp)
            rw [hbv] at HFR
            clear hbv hbi
            go_wp2_with (go_at_call 70; refine HFR.out.mono ?_; rintro e w4 ⟨rfl, hb4⟩)
            exact ⟨⟨k + 1, a, c, by omega, by go_num, by rw [hN.out], Lib.hid (by rw [hN.out]; exact own_same HO.out (fun g _ hl => (hb4.block g (Nat.lt_of_lt_of_le hl HBAA.out.size)).trans (HBAA.out.block g hl))), HBE.out.trans ((HBAA.out.trans (hb4.mono HBAA.out.size)).mono HBE.out.size)⟩, by simp [intOf]; omega⟩
    · have e1 : ¬ (k : Int) < ls.length := by omega
      have hN := Lib.hid (show (if F.testBit 0 = true then trimF F ((ls.take k).map Lay.plain) 0 else []) = TL by rw [HTL.out, List.take_of_length_le (by omega), HP.out])
      rw [hN.out] at HO ⊢
      have HBE := Lib.hid hbe
      clear hbe
      go_wp2
      go_ret
      exact ⟨HBW2.out.trans (HBE.out.mono HBW2.out.size), a, c, rfl, own_base' HO.out (by rw [← HB0.out]; exact hB2)⟩

end Go.Proofs.Ytflfmcikfiaoiaa
