/- states: New: walked. -/
import Derived.Test.YtejjdfmobiegdaaDoorStO
import Derived.Test.YtejjdfmobiegdaaDoorStC
set_option linter.unusedVariables false
namespace Go.Proofs.YtejjdfmobiegdaaDoor
open Go.RowKit
open Doc

theorem MacAt.base {w : World} {B b b' : Nat} {g : Gr} {G : GrL} {sa : Option Addr} {sc : Nat} {ss : List StL} (h : MacAt w B b g G sa sc ss) (hb : b' ≤ b) : MacAt w B b' g G sa sc ss :=
  ⟨h.q, Nat.le_trans hb h.lo, h.gr.base hb, own_baseI h.all.own hb, fun x hx => ⟨(h.all.its x hx).1.base hb, (h.all.its x hx).2⟩, fun x hx => ⟨Nat.le_trans hb (h.all.map x hx).1, (h.all.map x hx).2⟩, h.all.far⟩
theorem runS_bound {go : List It → Int → List It} {syms : List Int} {b : Nat} : ∀ {n k : Nat} {all r : List StP}, runS go syms b n k all = some r → all.length ≤ b → r.length ≤ b
  | 0, _, _, _, h, _ => by cases h
  | n + 1, k, all, r, h, hl => by
    unfold runS at h
    split at h
    · split at h
      · cases h
      · exact runS_bound h (by omega)
    · cases h; exact hl
theorem mach_bound {K : MkP} {g : Gr} {b : Nat} {r : List StP} (h : machS K g b = some r) (h1 : 1 ≤ b) : r.length ≤ b := runS_bound h (by simp [firstS]; omega)
/-- What New answers, of a grammar that may be. -/
def StTo (g : Gr) (b : Int) (w : World) (e : Ending) (w' : World) : Prop := Below w.heap.size w w' ∧
  ((¬ Fru g 100 ∧ e = .returned (.tuple #[.pointer none, .int .i64 6])) ∨ (Fru g 100 ∧ ¬ (1 ≤ b ∧ b ≤ 600) ∧ e = .returned (.tuple #[.pointer none, .int .i64 1])) ∨
   (Fru g 100 ∧ (1 ≤ b ∧ b ≤ 600) ∧ ∃ K, MkOf g K ∧ ((machS K g b.toNat = none ∧ e = .returned (.tuple #[.pointer none, .int .i64 7])) ∨
     ∃ (B : Nat) (G : GrL) (sa : Option Addr) (sc : Nat) (ss : List StL), machS K g b.toNat = some (plS ss) ∧ e = .returned (.tuple #[.pointer (some ⟨B, 0, none⟩), .int .i64 0]) ∧ MacAt w' B w.heap.size g G sa sc ss)))
set_option maxRecDepth 100000 in
set_option maxHeartbeats 16000000 in
theorem snew_any (v : Value) (g : Gr) (b : Int) (w : World) (hg : GramAt w v g) (hck : CheckG g) (HT : Sl.Tab w) :
    Calls Tryd.prog 26 #[v, .int .i64 b] w (StTo g b w) := by
  have hg0 := hg
  obtain ⟨a1, a2, a3, c1, c2, c3, ls, rfl, hp, k1, k2, k3, k4, k5, k6, k7⟩ := hg
  have hS : Below w.heap.size w (w.alloc (.cells #[.slice a1 g.terms.length c1, .slice a2 g.nons.length c2, .slice a3 ls.length c3] 29)) := (Below.refl _ _).alloc (Nat.le_refl _) _
  have hQ := heap_alloc_new w (.cells #[.slice a1 g.terms.length c1, .slice a2 g.nons.length c2, .slice a3 ls.length c3] 29)
  have HNW := Lib.hid (inew_any _ g _ (hg0.below hS) hck)
  unfold NewTo at HNW
  have HG := Lib.hid (hg0.below hS)
  have HS := Lib.hid hS
  have HQ := Lib.hid hQ
  have HTT := Lib.hid HT
  have HCK := Lib.hid hck
  have x0 := (blk_cell (i := 0) (u := .slice a1 g.terms.length c1) hQ rfl).1
  have x1 := (blk_cell (i := 1) (u := .slice a2 g.nons.length c2) hQ rfl).1
  have x2 := (blk_cell (i := 2) (u := .slice a3 ls.length c3) hQ rfl).1
  have xl := heap_lt hQ
  clear hg0 hp k1 k2 k3 k4 k5 k6 k7 hS hQ HT hck
  go_enter Tryd.func26, Tryd.ntmps26
  go_upto_region 1 with fail
  generalize w.alloc (.cells #[.slice a1 g.terms.length c1, .slice a2 g.nons.length c2, .slice a3 ls.length c3] 29) = S at *
  generalize hB0 : w.heap.size = B0 at *
  have HB0 := Lib.hid hB0
  clear hB0
  by_cases hf : Fru g 100
  · have HNF := Lib.hid (HNW.out.mono fun e w' ⟨hb, hh⟩ => (by
      rcases hh with ⟨_, BM, BT, bt, M, F, he, hM, hF, hm⟩ | ⟨hn, _⟩
      · exact ⟨hb, BM, BT, bt, M, F, he, hM, hF, hm⟩
      · exact absurd hf hn : Below S.heap.size S w' ∧ ∃ (BM BT bt : Nat) (M : MakR) (F : List Nat), e = Ending.returned (.tuple #[.pointer (some ⟨BM, 0, none⟩), .int .i64 0]) ∧ MakG g M ∧ FirstIs g F ∧ MakT w' BM M BT bt F))
    have HFR := Lib.hid hf
    clear hf HNW
    go_upto_region 2 with (go_at_call 36; (with_reducible refine HNF.out.mono ?_); rintro e w2 ⟨hb2, BM, BT, bt, M, F, rfl, hM, hF, hm⟩)
    have HMG := Lib.hid hM
    have HFI := Lib.hid hF
    have HMT := Lib.hid hm
    have HQ2 := Lib.hid ((hb2.block _ xl).trans HQ.out)
    have HG2 := Lib.hid (HG.out.below hb2)
    have HB2 := Lib.hid (HS.out.trans (hb2.mono (Nat.le_of_lt xl)))
    have y0 := (blk_cell (i := 0) HQ2.out rfl).1
    have y1 := (blk_cell (i := 1) HQ2.out rfl).1
    have y2 := (blk_cell (i := 2) HQ2.out rfl).1
    have yl := heap_lt HQ2.out
    clear hM hF hm hb2 x0 x1 x2 xl HQ HG HS HNF
    by_cases hbr : 1 ≤ b ∧ b ≤ 600
    · obtain ⟨hb1, hb6⟩ := hbr
      have hnl : ¬ b < 1 := by omega
      have hng : ¬ b > 600 := by omega
      obtain ⟨bn, hbn⟩ : ∃ bn : Nat, b = (bn : Int) := ⟨b.toNat, by omega⟩
      subst hbn
      have HCP := Lib.hid (copied_any _ g w2 HG2.out ⟨by have := HCK.out.t8; omega, by have := HCK.out.n8; omega, by have := HCK.out.p24; omega, fun p hp => by have := (HCK.out.pv p hp).2.1; omega⟩)
      unfold CopyTo at HCP
      go_upto_region 7 with (go_at_call 65; (with_reducible refine HCP.out.mono ?_); rintro e w3 ⟨hb3, d1, d2, d3, e1, e2, e3, ls3, rfl, hG3⟩)
      have hA : Below w3.heap.size w3 (w3.alloc (.cells #[.slice d1 g.terms.length e1, .slice d2 g.nons.length e2, .slice d3 g.prods.length e3, .slice none 0 0] 111)) := (Below.refl _ _).alloc (Nat.le_refl _) _
      have HM0 := Lib.hid (show MacAt (w3.alloc (.cells #[.slice d1 g.terms.length e1, .slice d2 g.nons.length e2, .slice d3 g.prods.length e3, .slice none 0 0] 111)) w3.heap.size w2.heap.size g ⟨d1, d2, d3, e1, e2, e3, ls3⟩ none 0 [] from
        ⟨heap_alloc_new w3 _, hb3.size, hG3.below hA, ⟨World.ownsRow_nil _ _ _ _, fun x hx => (by cases hx), fun x hx => (by cases hx), List.nodup_nil⟩⟩)
      have HB4 := Lib.hid (hb3.trans (hA.mono hb3.size))
      clear hA hG3 hb3 HCP y0 y1 y2 yl
      generalize (⟨d1, d2, d3, e1, e2, e3, ls3⟩ : GrL) = G at *
      generalize w3.alloc (.cells #[.slice d1 g.terms.length e1, .slice d2 g.nons.length e2, .slice d3 g.prods.length e3, .slice none 0 0] 111) = w4 at *
      generalize w3.heap.size = B at *
      have HBG := Lib.hid (ibegin_any BM BT bt M F w4 (HMT.out.below HB4.out) ((HTT.out.below (by rw [HB0.out]; exact HB2.out)).below HB4.out))
      unfold CloseTo at HBG
      have HMK := Lib.hid (mkOk_of (HMG.out.ok HCK.out HFI.out))
      go_upto_region 8 with (first
        | (go_at_call 38; (with_reducible refine HBG.out.mono ?_); rintro e w5 ⟨L, ia, ic, rfl, hL, hLl, hLo, hb5⟩; have HLG := Lib.hid (show L = begC (mkP M F) from hL.uniq (closeC_is HMK.out _)); have HM5 := Lib.hid (HM0.out.below hb5); have HB5 := Lib.hid (HB4.out.trans (hb5.mono HB4.out.size)); have HAD := Lib.hid (madd_any B w2.heap.size g G none 0 [] ia ic L 0 w5 HM5.out (hLo.base HB4.out.size) hLl (by simp)); unfold AddTo at HAD; clear hL hLo hb5)
        | (go_at_call 66; (with_reducible refine HAD.out.mono ?_); rintro e w6 ⟨rfl, hb6, hs6, sa6, sc6, mb6, hM6⟩))
      have HM6 := Lib.hid hM6
      have HB6 := Lib.hid (HB5.out.trans hb6)
      have HP6 := Lib.hid (show plS ([] ++ [(⟨ia, ic, mb6, ⟨L, 0, []⟩⟩ : StL)]) = firstS (mkP M F) by rw [HLG.out]; rfl)
      clear hM6 hb6 hs6 HAD HM5 HB5 HBG HM0 HB4
      go_wp2_with fail
      go_loopw [9] (fun i wr => ∃ (k : Nat) (sa : Option Addr) (sc : Nat) (ss : List StL), k ≤ ss.length ∧ ss.length ≤ bn ∧ i = .int .i64 k ∧ Hid (MacAt wr B w2.heap.size g G sa sc ss) ∧ Hid (Below w2.heap.size w2 wr) ∧ Hid (runS (goC (mkP M F)) (symsG g) bn (601 - k) k (plS ss) = machS (mkP M F) g bn)) (fun i _ => 601 - (intOf i).toNat)
      case atStart => exact ⟨0, sa6, sc6, _, Nat.zero_le _, by simp; omega, rfl, HM6, HB6, Lib.hid (by rw [HP6.out]; rfl)⟩
      case round =>
        clear HM6 HB6 HP6
        obtain ⟨k, sa, sc, ss, hk, hsb, rfl, HM, HB, HR⟩ := hrel
        rename World => w7
        have hps : (plS ss).length = ss.length := by simp [plS]
        have x0 := (blk_cell (i := 3) HM.out.q rfl).1
        have x1 := heap_lt HM.out.q
        have HBW := Lib.hid (HB2.out.trans (HB.out.mono (by rw [← HB0.out] at *; exact HB2.out.size)))
        by_cases hlt : k < ss.length
        · have hlt' : (k : Int) < ss.length := by omega
          obtain ⟨n, hn⟩ : ∃ n, 601 - k = n + 1 := ⟨600 - k, by omega⟩
          have hr := HR.out
          rw [hn] at hr
          unfold runS at hr
          rw [if_pos (by omega)] at hr
          have HRR := Lib.hid hr
          have HLD := Lib.hid (lead_any B BM BT bt M F g G sa sc ss k w2 w7 HMT.out (HTT.out.below (by rw [HB0.out]; exact HB2.out)) HB.out HM.out hlt (by omega) HCK.out.t8 HCK.out.n8)
          unfold LeadTo at HLD
          have HN := Lib.hid hn
          clear hr hn hps
          go_upto_region 12 with (go_at_call 67; (with_reducible refine HLD.out.mono ?_); rintro e w8 ⟨rfl, hb8, sa8, sc8, ss8, hM8, hp8⟩)
          have HM8 := Lib.hid hM8
          have HB8 := Lib.hid (HB.out.trans hb8)
          have hl8 : (leadAll (goC (mkP M F)) (symsG g) k (plS ss)).length = ss8.length := by rw [← hp8]; simp [plS]
          have HP8 := Lib.hid hp8
          have y0 := (blk_cell (i := 3) hM8.q rfl).1
          have y1 := heap_lt hM8.q
          rw [hl8] at HRR
          clear hM8 hb8 hp8 hl8 x0 x1 HLD HM HB HBW
          have HBW := Lib.hid (HB2.out.trans (HB8.out.mono (by rw [← HB0.out]; exact HB2.out.size)))
          by_cases hov : bn < ss8.length
          · have hov' : (ss8.length : Int) > (bn : Int) := by omega
            have hr := HRR.out
            rw [if_pos hov] at hr
            have HE := Lib.hid (show StTo g bn w (.returned (.tuple #[.pointer none, .int .i64 7])) w8 from ⟨by rw [HB0.out]; exact HBW.out, .inr (.inr ⟨HFR.out, ⟨hb1, hb6⟩, mkP M F, ⟨M, F, rfl, HMG.out, HFI.out⟩, .inl ⟨hr.symm, rfl⟩⟩)⟩)
            clear hr
            go_wp2
            go_ret2
            exact HE.out
          · have hov' : ¬ (ss8.length : Int) > (bn : Int) := by omega
            have hr := HRR.out
            rw [if_neg hov, ← HP8.out] at hr
            have HR8 := Lib.hid (show runS (goC (mkP M F)) (symsG g) bn (601 - (k + 1)) (k + 1) (plS ss8) = machS (mkP M F) g bn from by rw [show 601 - (k + 1) = n by have := HN.out; omega]; exact hr)
            have hk8 : k + 1 ≤ ss8.length := by
              have h1 := (leadAll_len (goC (mkP M F)) k (symsG g) (plS ss)).1
              rw [← HP8.out] at h1
              simp only [plS, List.length_map] at h1
              omega
            clear hr
            go_wp2
            go_roundw
            case rel => exact ⟨k + 1, sa8, sc8, ss8, hk8, by omega, by go_num, HM8, HB8, HR8⟩
            case measure => simp [intOf]; omega
        · have hge : ¬ (k : Int) < ss.length := by omega
          obtain ⟨n, hn⟩ : ∃ n, 601 - k = n + 1 := ⟨600 - k, by omega⟩
          have hr := HR.out
          rw [hn] at hr
          unfold runS at hr
          rw [if_neg (by omega)] at hr
          have HE := Lib.hid (show StTo g bn w (.returned (.tuple #[.pointer (some ⟨B, 0, none⟩), .int .i64 0])) w7 from ⟨by rw [HB0.out]; exact HBW.out, .inr (.inr ⟨HFR.out, ⟨hb1, hb6⟩, mkP M F, ⟨M, F, rfl, HMG.out, HFI.out⟩, .inr ⟨B, G, sa, sc, ss, hr.symm, rfl, HM.out.base HB2.out.size⟩⟩)⟩)
          clear hr hn hps
          go_wp2
          go_ret2
          exact HE.out
    · have HNR := Lib.hid hbr
      by_cases hlo : b < 1
      · go_wp2
        go_ret2
        exact ⟨by rw [HB0.out]; exact HB2.out, .inr (.inl ⟨HFR.out, HNR.out, rfl⟩)⟩
      · have hhi : b > 600 := by omega
        clear hbr
        go_wp2
        go_ret2
        exact ⟨by rw [HB0.out]; exact HB2.out, .inr (.inl ⟨HFR.out, HNR.out, rfl⟩)⟩
  · have HNF := Lib.hid (HNW.out.mono fun e w' ⟨hb, hh⟩ => (by
      rcases hh with ⟨hn, _⟩ | ⟨_, he⟩
      · exact absurd hn hf
      · exact ⟨hb, he⟩ : Below S.heap.size S w' ∧ e = Ending.returned (.tuple #[.pointer none, .int .i64 6])))
    have HFR := Lib.hid hf
    clear hf HNW
    go_upto_region 2 with (go_at_call 36; (with_reducible refine HNF.out.mono ?_); rintro e w2 ⟨hb2, rfl⟩)
    have HB2 := Lib.hid (HS.out.trans (hb2.mono (Nat.le_of_lt xl)))
    clear hb2 x0 x1 x2 xl
    go_wp2
    go_ret2
    exact ⟨by rw [HB0.out]; exact HB2.out, .inl ⟨HFR.out, rfl⟩⟩
end Go.Proofs.YtejjdfmobiegdaaDoor
