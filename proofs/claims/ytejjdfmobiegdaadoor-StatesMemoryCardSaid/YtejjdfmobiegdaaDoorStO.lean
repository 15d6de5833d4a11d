/- states: lead: walked. -/
import Derived.Test.YtejjdfmobiegdaaDoorStN
import Derived.Test.YtejjdfmobiegdaaDoorStQ
set_option linter.unusedVariables false
namespace Go.Proofs.YtejjdfmobiegdaaDoor
open Go.RowKit
open Doc
open Go.MapKept Go.ChangeMaps

def lnkL (x : StL) (sym : Int) (t : Nat) : StL := { x with s := { x.s with over := (sym, t) :: x.s.over } }
theorem mapF_link (x : StL) (sym : Int) (t : Nat) (q : Int) : mapF (lnkL x sym t).s q = if q = sym then some (.int .i64 (t : Int)) else mapF x.s q := by
  unfold mapF lnkL
  simp only
  rw [to_link]
  split <;> rfl
theorem stV_link {ss : List StL} {k : Nat} {x : StL} (hx : ss[k]? = some x) (sym : Int) (t : Nat) : stV (ss.set k (lnkL x sym t)) = stV ss := by
  have e : ∀ (l : List StL) (i : Nat), l[i]? = some x → stV (l.set i (lnkL x sym t)) = stV l := by
    intro l
    induction l with
    | nil => intro i h; simp at h
    | cons y l ih =>
      intro i h
      cases i with
      | zero => cases h; rfl
      | succ i => rw [List.set_cons_succ]; show stC y ++ stV (l.set i _) = stC y ++ stV l; rw [ih i (by simpa using h)]
  exact e ss k hx
theorem plS_link {ss : List StL} {k : Nat} {x : StL} (hx : ss[k]? = some x) (sym : Int) (t : Nat) : plS (ss.set k (lnkL x sym t)) = linkS k sym t (plS ss) := by
  apply List.ext_getElem?
  intro i
  rw [link_at]
  unfold plS
  rw [List.getElem?_map, List.getElem?_map, List.getElem?_set]
  by_cases e : k = i
  · subst e
    rw [if_pos rfl, if_pos (List.getElem?_eq_some_iff.1 hx).1, hx]
    simp [lnkL]
  · rw [if_neg e]
    cases ss[i]? with
    | none => rfl
    | some y => simp [e]
theorem nodup_idx {α β : Type} {f : α → β} {l : List α} (h : (l.map f).Nodup) {i j : Nat} {a b : α} (hi : l[i]? = some a) (hj : l[j]? = some b) (e : f a = f b) : i = j := by
  obtain ⟨h1, e1⟩ := List.getElem?_eq_some_iff.1 hi
  obtain ⟨h2, e2⟩ := List.getElem?_eq_some_iff.1 hj
  have hp := List.pairwise_iff_getElem.1 h
  rcases Nat.lt_trichotomy i j with h3 | h3 | h3
  · have := hp i j (by simpa using h1) (by simpa using h2) h3
    simp only [List.getElem_map, e1, e2] at this
    exact absurd e this
  · exact h3
  · have := hp j i (by simpa using h2) (by simpa using h1) h3
    simp only [List.getElem_map, e1, e2] at this
    exact absurd e.symm this
/-- One more link. -/
theorem MacAt.link {w : World} {B base : Nat} {g : Gr} {G : GrL} {sa : Option Addr} {sc : Nat} {ss : List StL} (h : MacAt w B base g G sa sc ss) {k : Nat} {x : StL} (hx : ss[k]? = some x) (sym : Int) (h1 : -1000 ≤ sym) (h2 : sym ≤ 1000) (t : Nat) :
    ∃ w', (Instr.mapUpdate 115 (.map (some x.mb)) (.int .i64 sym) (.int .i64 (t : Int))).run Tryd.prog w = .ok () w' ∧ MacAt w' B base g G sa sc (ss.set k (lnkL x sym t)) ∧ Below base w w' ∧ Stays TM w w' := by
  have hxm := List.mem_of_getElem? hx
  obtain ⟨hb, hm⟩ := h.all.map x hxm
  obtain ⟨l, hl⟩ := codeI_key (a := sym) (by omega) (by omega)
  obtain ⟨w', hr, hm', hg⟩ := hm.store key_int codeI_inj Tryd.underlying115 hl (.int .i64 (t : Int))
  have hcell : ∀ (i : Nat) (c : Array Value) (e : TypeId) (fr : Nat × Nat), w.heap[i]? = some (.cells c e fr) → w'.heap[i]? = some (.cells c e fr) := fun i c e fr hi => by
    refine (hg.block i (heap_lt hi) fun e2 => ?_).trans hi
    obtain ⟨es, cl, hh, _⟩ := hm
    injection e2 with e2
    rw [e2, hh] at hi
    cases hi
  have hst : Stays TM w w' := fun i c e fr hi _ => hcell i c e fr hi
  have hst0 : Stays [] w w' := fun i c e fr hi _ => hcell i c e fr hi
  have hbz : base ≤ w.heap.size := Nat.le_trans h.lo (Nat.le_of_lt (heap_lt h.q))
  refine ⟨w', hr, ⟨?_, h.lo, h.gr.stays hst0 (by simp) (by simp) (by simp), ?_, fun y hy => ?_, fun y hy => ?_, ?_⟩, (Below.refl _ _).grown hg hbz (fun i hi => by cases hi; exact hb), hst⟩
  · rw [hcell _ _ _ _ h.q, List.length_set]
  · rw [List.length_set, stV_link hx]
    exact own_stays hst0 h.all.own (by simp)
  · rcases List.mem_or_eq_of_mem_set hy with h3 | rfl
    · exact ⟨⟨own_stays hst0 (h.all.its y h3).1.own (by simp)⟩, (h.all.its y h3).2⟩
    · exact ⟨⟨own_stays hst0 (h.all.its x hxm).1.own (by simp)⟩, (h.all.its x hxm).2⟩
  · rcases List.mem_or_eq_of_mem_set hy with h3 | rfl
    · by_cases e : y.mb = x.mb
      · obtain ⟨i, hi, ei⟩ := List.mem_iff_getElem.1 h3
        have hik := nodup_idx h.all.far (List.getElem?_eq_getElem hi) hx (by rw [ei]; exact e)
        subst hik
        rw [List.getElem?_eq_getElem hi, ei] at hx
        obtain rfl := Option.some.inj hx
        -- it was linked, and stands in the list as it was: then it is no other than what it became
        obtain ⟨i2, hi2, ei2⟩ := List.mem_iff_getElem.1 hy
        rw [List.length_set] at hi2
        rw [List.getElem_set] at ei2
        split at ei2
        · refine ⟨hb, hm'.congr fun q => ?_⟩
          have h4 := mapF_link y sym t q
          rw [ei2] at h4
          exact h4.symm
        · rename_i hne
          exact absurd (nodup_idx h.all.far (List.getElem?_eq_getElem hi) (List.getElem?_eq_getElem hi2) (by rw [ei, ei2])) hne
      · have hm2 := (h.all.map y h3).2
        exact ⟨(h.all.map y h3).1, hm2.at (hg.block _ hm2.lt fun e2 => e (by injection e2))⟩
    · exact ⟨hb, hm'.congr fun q => (mapF_link x sym t q).symm⟩
  · rw [List.map_set, show (lnkL x sym t).mb = x.mb from rfl]
    have : (ss.map (·.mb))[k]? = some x.mb := by rw [List.getElem?_map, hx]; rfl
    rw [show (ss.map (·.mb)).set k x.mb = ss.map (·.mb) from by
      apply List.ext_getElem?
      intro i
      rw [List.getElem?_set]
      split
      · rename_i e
        rw [← e, this, if_pos (List.getElem?_eq_some_iff.1 this).1]
      · rfl]
    exact h.all.far
def LeadTo (B base : Nat) (g : Gr) (G : GrL) (K : MkP) (k : Nat) (all : List StP) (w : World) (e : Ending) (w' : World) : Prop := e = .returned (.tuple #[]) ∧ Below base w w' ∧ ∃ sa sc ss', MacAt w' B base g G sa sc ss' ∧ plS ss' = leadAll (goC K) (symsG g) k all
theorem itemsS_at {ss : List StL} {k : Nat} {x : StL} (hx : ss[k]? = some x) : itemsS (plS ss) k = x.s.items := by
  unfold itemsS plS; rw [List.getElem?_map, hx]; rfl
set_option maxRecDepth 100000 in
set_option maxHeartbeats 16000000 in
theorem lead_any (B BM BT bt : Nat) (M : MakR) (F : List Nat) (g : Gr) (G : GrL) (sa : Option Addr) (sc : Nat) (ss : List StL) (k : Nat) (w0 w : World) (hm : MakT w0 BM M BT bt F) (HT : Sl.Tab w0) (h0 : Below w0.heap.size w0 w) (h : MacAt w B w0.heap.size g G sa sc ss) (hk : k < ss.length) (hsl : ss.length ≤ 100000) (ht : g.terms.length ≤ 8) (hn : g.nons.length ≤ 8) :
    Calls Tryd.prog 67 #[.pointer (some ⟨B, 0, none⟩), .pointer (some ⟨BM, 0, none⟩), .int .i64 k] w (LeadTo B w0.heap.size g G (mkP M F) k (plS ss) w) := by
  have hsy := msyms_any B w0.heap.size g G sa sc ss w h (by omega) (by omega)
  have HSY := Lib.hid hsy
  have HMK := Lib.hid hm
  have HTT := Lib.hid HT
  have H0 := Lib.hid h0
  have HM := Lib.hid h
  have HOK := Lib.hid (mkOk_of hm.ok)
  have HSL := Lib.hid (symsG_len g)
  clear hm HT h0 h hsy
  go_enter Tryd.func67, Tryd.ntmps67
  go_wp2_with (go_at_call 91; (with_reducible refine HSY.out.mono ?_); rintro e w2 ⟨a, c, rfl, ho2, hb2⟩)
  have HO2 := Lib.hid ho2
  have HM2 := Lib.hid (HM.out.below hb2)
  have HB2 := Lib.hid (hb2.mono H0.out.size)
  have hl16 : (symsG g).length ≤ 16 := by rw [HSL.out]; omega
  clear ho2 hb2 HSY HM
  go_loopw [13] (fun i wr => ∃ (j : Nat) (sa : Option Addr) (sc : Nat) (ss1 : List StL), j ≤ (symsG g).length ∧ i = .int .i64 j ∧ Hid (MacAt wr B w0.heap.size g G sa sc ss1) ∧ Hid (plS ss1 = leadAll (goC (mkP M F)) ((symsG g).take j) k (plS ss)) ∧ Hid (Below w0.heap.size w wr) ∧ Hid (wr.ownsRow w.heap.size 3 1 (.slice a (symsG g).length c) (symsG g).length (nums (symsG g)))) (fun i _ => (symsG g).length - (intOf i).toNat)
  case atStart => exact ⟨0, sa, sc, ss, Nat.zero_le _, rfl, HM2, Lib.hid (by rw [List.take_zero]; rfl), HB2, HO2⟩
  case round =>
    clear HO2 HM2 HB2
    obtain ⟨j, sa, sc, ss1, hj, rfl, HM, HP, HB, HO⟩ := hrel
    rename World => w3
    by_cases hlt : j < (symsG g).length
    · have hlt' : (j : Int) < (symsG g).length := by omega
      obtain ⟨sym, hsym⟩ : ∃ sym, (symsG g)[j]? = some sym := ⟨_, List.getElem?_eq_getElem hlt⟩
      have hsr := mem_symsG.1 (List.mem_of_getElem? hsym)
      have hs1 : -1000 ≤ sym := by omega
      have hs2 : sym ≤ 1000 := by omega
      have HST := Lib.hid (show leadAll (goC (mkP M F)) ((symsG g).take (j + 1)) k (plS ss) = leadS (goC (mkP M F)) k (plS ss1) sym from by
        unfold leadAll
        rw [foldl_take _ _ hsym]
        rw [show plS ss1 = _ from HP.out]; rfl)
      have hll := leadAll_len (goC (mkP M F)) k ((symsG g).take j) (plS ss)
      rw [← HP.out] at hll
      have hps : (plS ss).length = ss.length := by simp [plS]
      have hp1 : (plS ss1).length = ss1.length := by simp [plS]
      have htk : ((symsG g).take j).length ≤ 16 := by rw [List.length_take]; omega
      have hkl : k < ss1.length := by omega
      have hsl1 : ss1.length ≤ 100020 := by omega
      obtain ⟨x, hx⟩ : ∃ x, ss1[k]? = some x := ⟨_, List.getElem?_eq_getElem hkl⟩
      have hit := itemsS_at hx
      have HX := Lib.hid hx
      have HIT := Lib.hid hit
      have hxi := HM.out.all.its x (List.mem_of_getElem? hx)
      obtain ⟨b1, o1, rfl, hb1, hc1⟩ := (own_cells HO.out).1.get (by intro e; unfold nums at e; rw [List.map_eq_nil_iff] at e; rw [e] at hlt; simp at hlt)
      have c0 := hc1 j _ (nums_at hsym)
      obtain ⟨b2, o2, rfl, hb2, hc2⟩ := (own_cells HM.out.all.own).1.get (by intro e; have := (st_at hx).1; rw [e] at this; simp at this)
      have c1 := hc2 _ _ (st_at hx).1
      have x0 := (blk_cell (i := 3) HM.out.q rfl).1
      have x1 := heap_lt HM.out.q
      have hkl' : (k : Int) < ss1.length := by omega
      have HGO := Lib.hid (igo_any BM BT bt M F x.ia x.ic x.s.items sym w3 (HMK.out.below (H0.out.trans HB.out)) (HTT.out.below (H0.out.trans HB.out)) hxi.1.its (by have := hxi.2; omega))
      unfold CloseTo at HGO
      have HLC := Lib.hid hsym
      clear hc1 hc2 hx hit hxi hsym hll hps hp1 htk hsr
      go_upto_region 4 with (go_at_call 39; (with_reducible refine HGO.out.mono ?_); rintro e w4 ⟨L, ia, ic, rfl, hL, hLl, hLo, hb4⟩)
      have hLg : L = goC (mkP M F) x.s.items sym := hL.uniq (closeC_is HOK.out _)
      have HLG := Lib.hid hLg
      have HM4 := Lib.hid (HM.out.below hb4)
      have HO4 := Lib.hid (own_same HO.out fun q _ hq => hb4.block q hq)
      have hbz : w0.heap.size ≤ w3.heap.size := Nat.le_trans H0.out.size HB.out.size
      have HB4 := Lib.hid (HB.out.trans (hb4.mono hbz))
      have HLO := Lib.hid (hLo.base hbz)
      have HBZ := Lib.hid hbz
      clear hL hLo hb4 c0 c1 x0 x1 HGO HM HO HB hb1 hb2 hLg hbz
      by_cases hL0 : L = []
      · subst hL0
        have HP4 := Lib.hid (show plS ss1 = leadAll (goC (mkP M F)) ((symsG g).take (j + 1)) k (plS ss) from by
          rw [HST.out]
          unfold leadS
          rw [HIT.out, ← HLG.out, if_pos rfl])
        go_wp2
        go_roundw
        case rel => exact ⟨j + 1, _, _, ss1, by omega, by go_num, HM4, HP4, HB4, HO4⟩
        case measure => simp [intOf]; omega
      · have hlen : 0 < L.length := List.length_pos_iff.2 hL0
        have hn0 : ((L.length : Int) == 0) = false := by simp; omega
        have HST2 := Lib.hid (show leadAll (goC (mkP M F)) ((symsG g).take (j + 1)) k (plS ss) = linkS k sym (toS (plS ss1) L sym) (nextS (plS ss1) L sym) from by
          rw [HST.out]
          unfold leadS
          rw [HIT.out, ← HLG.out, if_neg hL0])
        have hps : (plS ss1).length = ss1.length := by simp [plS]
        have HFD := mfind_any B w0.heap.size g G (some ⟨b2, o2, none⟩) sc ss1 ia ic L sym w4 HM4.out HLO.out.its (by omega) (by omega)
        have HPS := Lib.hid hps
        clear hps HST HLG hL0
        by_cases ht0 : toS (plS ss1) L sym < (plS ss1).length
        · rw [if_pos ht0] at HFD
          have HFD := Lib.hid HFD
          have HNX := Lib.hid (show nextS (plS ss1) L sym = plS ss1 by unfold nextS; rw [if_pos ht0])
          have htl : toS (plS ss1) L sym ≤ 100020 := by rw [HPS.out] at ht0; omega
          clear ht0
          generalize toS (plS ss1) L sym = t at *
          have htn : ((t : Int) == -1) = false := by rw [beq_eq_false_iff_ne]; omega
          go_upto_region 6 with (go_at_call 92; (with_reducible refine HFD.out.mono ?_); rintro e w5 ⟨rfl, hb5⟩)
          have HM5 := Lib.hid (HM4.out.below hb5)
          have HO5 := Lib.hid (own_same HO4.out fun q _ hq => hb5.block q hq)
          have HB5 := Lib.hid (HB4.out.trans (hb5.mono (Nat.le_trans H0.out.size HB4.out.size)))
          clear hb5 HM4 HO4 HB4 HFD
          obtain ⟨w6, hr, hM6, hb6, hs6⟩ := HM5.out.link HX.out sym hs1 hs2 t
          have HM6 := Lib.hid hM6
          have HB6 := Lib.hid (HB5.out.trans hb6)
          have HO6 := Lib.hid (own_stays hs6 HO5.out (by decide))
          have hc2 := (own_cells HM5.out.all.own).1
          obtain ⟨_, _, e0, hb2, hc2⟩ := hc2.get (by intro e; have := (st_at HX.out).1; rw [e] at this; simp at this)
          cases e0
          have c1 := hc2 _ _ (st_at HX.out).2.2
          rw [← Nat.add_assoc] at c1
          have x0 := (blk_cell (i := 3) HM5.out.q rfl).1
          have x1 := heap_lt HM5.out.q
          have HP6 := Lib.hid (show plS (ss1.set k (lnkL x sym t)) = leadAll (goC (mkP M F)) ((symsG g).take (j + 1)) k (plS ss) from by rw [HST2.out, HNX.out, plS_link HX.out])
          clear hM6 hb6 hs6 hc2
          go_wp2
          go_roundw
          case rel => exact ⟨j + 1, _, _, _, by omega, by go_num, HM6, HP6, HB6, HO6⟩
          case measure => simp [intOf]; omega
        · rw [if_neg ht0] at HFD
          have HFD := Lib.hid HFD
          have HNX := Lib.hid (show nextS (plS ss1) L sym = plS ss1 ++ [⟨L, sym, []⟩] by unfold nextS; rw [if_neg ht0])
          have HTE := Lib.hid (show toS (plS ss1) L sym = ss1.length by have := toS_le (plS ss1) L sym; rw [HPS.out] at this ht0; omega)
          rw [HTE.out] at HST2
          clear ht0 HTE
          go_upto_region 6 with (go_at_call 92; (with_reducible refine HFD.out.mono ?_); rintro e w5 ⟨rfl, hb5⟩)
          have HM5 := Lib.hid (HM4.out.below hb5)
          have HO5 := Lib.hid (own_same HO4.out fun q _ hq => hb5.block q hq)
          have HB5 := Lib.hid (HB4.out.trans (hb5.mono (Nat.le_trans H0.out.size HB4.out.size)))
          have HLO5 := Lib.hid (HLO.out.below hb5)
          clear hb5 HM4 HO4 HB4 HFD HLO
          have HAD := Lib.hid (madd_any B w0.heap.size g G (some ⟨b2, o2, none⟩) sc ss1 ia ic L sym w5 HM5.out HLO5.out (by omega) (by omega))
          unfold AddTo at HAD
          go_upto_region 8 with (go_at_call 66; (with_reducible refine HAD.out.mono ?_); rintro e w6 ⟨rfl, hb6, hs6, sa6, sc6, mb6, hM6⟩)
          have HO6 := Lib.hid (own_stays hs6 HO5.out (by decide))
          have HB6 := Lib.hid (HB5.out.trans hb6)
          have hx6 : (ss1 ++ [(⟨ia, ic, mb6, ⟨L, sym, []⟩⟩ : StL)])[k]? = some x := by rw [List.getElem?_append_left hkl]; exact HX.out
          obtain ⟨w7, hr, hM7, hb7, hs7⟩ := hM6.link hx6 sym hs1 hs2 ss1.length
          have HM7 := Lib.hid hM7
          have HB7 := Lib.hid (HB6.out.trans hb7)
          have HO7 := Lib.hid (own_stays hs7 HO6.out (by decide))
          obtain ⟨b6, o6, rfl, hb6, hc2⟩ := (own_cells hM6.all.own).1.get (by intro e; have := (st_at hx6).1; rw [e] at this; simp at this)
          have c1 := hc2 _ _ (st_at hx6).2.2
          rw [← Nat.add_assoc] at c1
          have x0 := (blk_cell (i := 3) hM6.q rfl).1
          have x1 := heap_lt hM6.q
          have hl6 : (ss1 ++ [(⟨ia, ic, mb6, ⟨L, sym, []⟩⟩ : StL)]).length = ss1.length + 1 := by simp
          rw [hl6] at x0
          have hk6 : (k : Int) < ((ss1.length + 1 : Nat) : Int) := by omega
          have hk7 : (k : Int) < (ss1.length : Int) + 1 := by omega
          have HP7 := Lib.hid (show plS ((ss1 ++ [(⟨ia, ic, mb6, ⟨L, sym, []⟩⟩ : StL)]).set k (lnkL x sym ss1.length)) = leadAll (goC (mkP M F)) ((symsG g).take (j + 1)) k (plS ss) from by
            rw [HST2.out, HNX.out, plS_link hx6]
            rw [show plS (ss1 ++ [(⟨ia, ic, mb6, ⟨L, sym, []⟩⟩ : StL)]) = plS ss1 ++ [⟨L, sym, []⟩] from by simp [plS]])
          clear hM7 hb7 hs7 hc2 hM6 hs6 hx6 hl6 HAD HO5 HB5 HM5
          go_wp2
          go_roundw
          case rel => exact ⟨j + 1, _, _, _, by omega, by go_num, HM7, HP7, HB7, HO7⟩
          case measure => simp [intOf]; omega
    · have hge : ¬ (j : Int) < (symsG g).length := by omega
      have hjl : j = (symsG g).length := by omega
      have HE := Lib.hid (show LeadTo B w0.heap.size g G (mkP M F) k (plS ss) w (.returned (.tuple #[])) w3 from ⟨rfl, HB.out, sa, sc, ss1, HM.out, by rw [HP.out, hjl, List.take_length]⟩)
      clear HM HP HB HO hjl
      go_wp2
      go_end0
      exact HE.out
end Go.Proofs.YtejjdfmobiegdaaDoor
