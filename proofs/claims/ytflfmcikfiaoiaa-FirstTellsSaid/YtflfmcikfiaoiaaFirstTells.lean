/- FirstTells: walked. -/
import Derived.Test.YtflfmcikfiaoiaaPlayGX
import Derived.Test.YtflfmcikfiaoiaaRAhead
import Derived.Test.YtflfmcikfiaoiaaNoG
import Derived.Test.YtflfmcikfiaoiaaWake6
import Derived.Test.YtflfmcikfiaoiaaSyms6
import Derived.Test.YtflfmcikfiaoiaaAppAll
import Derived.Deep.Cut
import Derived.Deep.RegionHeld3
set_option linter.unusedVariables false
namespace Go.Proofs.Ytflfmcikfiaoiaa
open Go.RowKit
open Doc

theorem check_docF (v : Value) (g : Gr) (w : World) (hg : GramAt w v g) (hm : MidG g) :
    Calls Try.prog 20 #[v] w fun e w' => e = .returned (.bool (okB g)) ∧ Below w.heap.size w w' :=
  check_any rname_any v g w hg (by have := hm.t.1; omega) (by have := hm.n.1; omega) (by have := hm.p.1; omega) (fun p hp => by have := (hm.p.2 p hp).2.1; omega) (fun x hx => by
    rcases List.mem_append.1 hx with h | h
    · have := hm.t.2 x h; omega
    · have := hm.n.2 x h; omega)
theorem trim_someF {g : Gr} {F : Nat} (hc : CheckG g) (hF : SetIs F (Fru g)) (h : shas F 0 = true) : trimF F g.prods 0 ≠ [] := by
  have h1 := (has_zero hF).1 h
  generalize hx : (100 : Int) = x at h1
  cases h1 with
  | mk p hp ha =>
    intro he
    have hb : bearI p.2 F = true := List.all_eq_true.2 fun s hs => by
      rw [Bool.or_eq_true, decide_eq_true_eq]
      by_cases h100 : s < 100
      · exact .inl h100
      · have := (hc.pv p hp).2.2 s hs
        have h8 := hc.n8
        have h9 := hc.t8
        unfold symOk at this
        exact .inr ((hF.has s).2 ⟨by omega, by omega, ha s hs (by omega)⟩)
    obtain ⟨k, hk⟩ := List.getElem?_of_mem hp
    have := (trimF_mem F g.prods 0 (k : Int)).2 ⟨k, p, hk, hb, by simp⟩
    rw [he] at this
    cases this
theorem trim_lenF {g : Gr} (hc : CheckG g) : (Fru g 100 → rtrimL g ≠ []) ∧ (¬ Fru g 100 → rtrimL g = []) := by
  have hS := rfru_is hc
  constructor
  · intro hf
    have h0 : (iterG (gsF bearI g.prods) 0 g.nons.length).testBit 0 = true := (hS.2 0).2 ⟨by omega, hf⟩
    unfold rtrimL
    rw [if_pos h0]
    exact trim_someF hc hS (by rw [show (0 : Int) = ((0 : Nat) : Int) from rfl, shas_bit _ 0 (by omega)]; exact h0)
  · intro hf
    unfold rtrimL
    rw [if_neg]
    intro h0
    exact hf ((hS.2 0).1 h0).2
theorem low_aheadF (t : Nat) (y : Int) : LowB t (aheadS t y) := by
  unfold aheadS
  split
  · rename_i h; exact low_dig h.2
  · exact low_zero t
/-- One symbol's firsts. -/
theorem of_oneF {t : Nat} {F : List Nat} {i n : Nat} (ht : t ≤ 63) (hF : LowF t F) (hl : F.length = n) (hi : i < n) (ht2 : t < 100) : ofF t F [100 + (i : Int)] 1 = F.getD i 0 := by
  have ha : aloneF t F (100 + (i : Int)) = F.getD i 0 := by
    unfold aloneF
    rw [if_neg (by omega), if_pos (by omega)]
    congr 1; omega
  show (if aloneF t F (100 + (i : Int)) = 0 then 0 else ofF t F [] (goOnF 1 (aloneF t F (100 + (i : Int))))) = _
  rw [ha]
  split
  · rename_i h; exact h.symm
  · exact goOn_one

set_option maxRecDepth 100000 in
set_option maxHeartbeats 32000000 in
theorem firstTells_walk (x : RawX) (la : Option Addr) (lc : Nat) (row : List Int) (ahead : Int) (w : World) (hx : RawAt w x) (hwd : RawWide x) (hl : Cells w la (nums row)) (hrl : row.length ≤ 17592186043904) (hrw : ∀ y ∈ row, -9223372036854775808 ≤ y ∧ y ≤ 9223372036854775807) (hah : -9223372036854775808 ≤ ahead ∧ ahead ≤ 9223372036854775807) : Calls Try.prog 4 #[x.v, .slice la row.length lc, .int .i64 ahead] w fun e w' => e = .returned (.bool true) ∧ Below w.heap.size w w' := by
  have HL := Lib.hid hl
  have HRW := Lib.hid hrw
  clear hl hrw
  have hGR := Lib.hid (fun W h => grammar_any x W h hwd)
  have HX := Lib.hid hx
  clear hx hwd
  obtain ⟨xp, xt, xn, xh, rows, xa, xc, word⟩ := x
  unfold RawX.v at *
  simp only at *
  have hb0 : Below w.heap.size w (w.alloc (.cells #[.int .i64 xp, .int .i64 xt, .int .i64 xn, .int .i64 xh, .slice xa rows.length xc, .string word] 24)) := (Below.refl _ _).alloc (Nat.le_refl _) _
  have HA1 := Lib.hid (hGR.out _ (HX.out.below hb0))
  have HB0 := Lib.hid hb0
  clear hGR hb0
  go_enter Try.func4, Try.ntmps4
  go_upto_region 2 with (go_at_call 18; refine HA1.out.mono ?_; rintro e w1 ⟨hb1, at_, an, ap, n1, n2, n3, ct, cn, cp, g, rfl, hg1, hm⟩)
  have hbA := (HB0.out.trans (hb1.mono HB0.out.size)).alloc (Nat.le_trans HB0.out.size hb1.size) (.cells #[.slice at_ n1 ct, .slice an n2 cn, .slice ap n3 cp] 28)
  have hbS : Below w1.heap.size w1 (w1.alloc (.cells #[.slice at_ n1 ct, .slice an n2 cn, .slice ap n3 cp] 28)) := (Below.refl _ _).alloc (Nat.le_refl _) _
  have q0 := heap_alloc_new w1 (.cells #[.slice at_ n1 ct, .slice an n2 cn, .slice ap n3 cp] 28)
  have HG := Lib.hid (hg1.below hbS)
  have HBA := Lib.hid hbA
  have HQ0 := Lib.hid q0
  have HM := Lib.hid hm
  clear hb1 hg1 hbA hbS q0 HA1 HX HB0 hm
  generalize w1.alloc (.cells #[.slice at_ n1 ct, .slice an n2 cn, .slice ap n3 cp] 28) = S at *
  generalize w1.heap.size = B1 at *
  have l1 := heap_lt HQ0.out
  have hSK : ∀ W, Below S.heap.size S W → (W.cell? ⟨B1, 0, none⟩ = some (.slice at_ n1 ct) ∧ W.cell? ⟨B1, 1, none⟩ = some (.slice an n2 cn) ∧ W.cell? ⟨B1, 2, none⟩ = some (.slice ap n3 cp)) ∧ B1 < W.heap.size := fun W hb => by
    have q := (hb.block B1 l1).trans HQ0.out
    exact ⟨⟨(blk_cell q rfl).1, (blk_cell q rfl).1, (blk_cell q rfl).1⟩, heap_lt q⟩
  have HSK := Lib.hid hSK
  have HDC := Lib.hid fun W (hW : Below S.heap.size S W) => check_docF _ g W (HG.out.below hW) HM.out
  have HWK := Lib.hid fun W => wakes6_any W
  obtain ⟨⟨c0, c1, c2⟩, l1'⟩ := hSK S (Below.refl _ _)
  clear hSK
  have hn12 : n1 = g.terms.length ∧ n2 = g.nons.length := by
    obtain ⟨_, _, _, _, _, _, ls, hv, _⟩ := HG.out
    simp only [Value.agg.injEq, Array.mk.injEq, List.cons.injEq, Value.slice.injEq] at hv
    exact ⟨hv.1.2.1, hv.2.1.2.1⟩
  obtain ⟨rfl, rfl⟩ := hn12
  by_cases hc : CheckG g
  · have HCK := Lib.hid hc
    have hok := (okB_iff g).2 hc
    rw [hok] at HDC
    have ht8 := hc.t8
    have hn8 := hc.n8
    have hn1 := hc.n1
    have hp24 := hc.p24
    have HTRC := Lib.hid fun W (hW : Below S.heap.size S W) => rtrim_any _ g W (HG.out.below hW) hc
    have HNW := Lib.hid (new_one _ g S HG.out hc)
    have HTLL := Lib.hid (trim_lenF hc)
    have hT24 : (rtrimL g).length ≤ 24 := by
      unfold rtrimL
      split
      · have := trimF_len (iterG (gsF bearI g.prods) 0 g.nons.length) g.prods 0; omega
      · simp
    clear hc hok hp24
    go_upto_region 3 with (go_at_call 19; refine HNW.out.mono ?_; rintro e w2 ⟨hb2, pv, er, rfl, hcase⟩)
    clear c0 c1 c2 l1'
    obtain ⟨⟨c0, c1, c2⟩, l1'⟩ := HSK.out _ hb2
    have HB2 := Lib.hid hb2
    clear hb2 HNW
    go_upto_region 5 with (go_at_call 20; refine (HDC.out _ HB2.out).mono ?_; rintro e w3 ⟨rfl, hb3⟩)
    have hb23 := HB2.out.trans (hb3.mono HB2.out.size)
    have HB3 := Lib.hid hb23
    obtain ⟨⟨d0, d1, d2⟩, l2'⟩ := HSK.out _ hb23
    have HTR3 := Lib.hid (HTRC.out _ hb23)
    clear hb23 c0 c1 c2 l1' HTRC
    rcases hcase with ⟨hfr, rfl, B, b, F, rfl, htab⟩ | ⟨hfr, rfl, rfl⟩
    · have hT0 := HTLL.out.1 hfr
      have hT1 : 0 < (rtrimL g).length := List.length_pos_iff.2 hT0
      have e1 : (((rtrimL g).length : Int) == 0) = false := beq_eq_false_iff_ne.2 (by omega)
      have hFF : F = rfirstsF g := (htab.is HCK.out).uniq (rfirsts_is HCK.out hfr)
      have HFI := Lib.hid (htab.is HCK.out)
      have HTB3 := Lib.hid (htab.below hb3)
      clear hT0 hfr htab hT1
      subst hFF
      go_upto_region 9 with (first
        | (go_at_call 22; refine HTR3.out.mono ?_; rintro e w4 ⟨hb4, ta, tc, rfl, hto⟩))
      have hb24 := HB3.out.trans (hb4.mono HB3.out.size)
      obtain ⟨⟨c0, c1, c2⟩, l3'⟩ := HSK.out _ hb24
      have HB4 := Lib.hid hb24
      have HTB4 := Lib.hid (HTB3.out.below hb4)
      have HFS := Lib.hid (firsts_any _ g w4 (HG.out.below hb24) HCK.out)
      clear hb24 hb4 hto HTB3 d0 d1 d2 l2' HTR3 HTLL hT24
      go_upto_region 10 with (go_at_call 23; refine HFS.out.mono ?_; rintro e w5 ⟨hb5, mb, bl, rfl, hmat, hmb⟩)
      have hb25 := HB4.out.trans (hb5.mono HB4.out.size)
      have HMAT : Hid (MatAt w5 mb g.terms.length bl (rfirstsF g)) := Lib.hid hmat
      have HB5 := Lib.hid hb25
      have HTB5 := Lib.hid (HTB4.out.below hb5)
      clear hmat hb25 hb5 HTB4 c0 c1 c2 l3' HFS
      generalize rfirstsF g = F at *
      obtain ⟨⟨c0, c1, c2⟩, l3'⟩ := HSK.out _ HB5.out
      go_upto_region 11 with fail
      go_loopw [57] (fun i wr => ∃ j : Nat, j ≤ g.nons.length ∧ i = .int .i64 j ∧ Hid (Below w5.heap.size w5 wr)) (fun i _ => g.nons.length - (intOf i).toNat)
      case atStart => exact ⟨0, by omega, rfl, Lib.hid (Below.refl _ _)⟩
      case round =>
        obtain ⟨j, hj, rfl, HBR⟩ := hrel
        by_cases hjl : j < g.nons.length
        · have e2 : (j : Int) < g.nons.length := by omega
          obtain ⟨rb, hrb⟩ : ∃ rb, bl[j]? = some rb := ⟨_, List.getElem?_eq_getElem (by have := HMAT.out.len; have := HFI.out.len; omega)⟩
          have HKX : Hid (∀ W W' : World, Hid (Below w5.heap.size w5 W) → Below W.heap.size W W' → (W'.cell? ⟨mb, j, none⟩ = some (.slice (some ⟨rb, 0, none⟩) (g.terms.length + 1) (g.terms.length + 1)) ∧ mb < W'.heap.size) ∧ Hid (Below w5.heap.size w5 W')) := Lib.hid fun W W' h k => by
            have hb := h.out.trans (k.mono h.out.size)
            have hm := HMAT.out.below hb
            exact ⟨⟨hm.cell hrb, heap_lt hm.q⟩, Lib.hid hb⟩
          have hbx : ∀ W : World, Below W.heap.size W (W.alloc (.cells #[.int .i64 (100 + (j : Int))] 3)) := fun W => box_below W _
          have hwr : IntKind.i64.wrap (100 + (j : Int)) = 100 + (j : Int) := by rw [IntKind.wrap_i64]; omega
          have HOFX : Hid (Hid (Below w5.heap.size w5 (wr.alloc (.cells #[.int .i64 (IntKind.i64.wrap (100 + (j : Int)))] 3)).drew) → Calls Try.prog 24 #[.pointer (some ⟨B, 0, none⟩), .slice (some ⟨wr.heap.size, 0, none⟩) 1 1] (wr.alloc (.cells #[.int .i64 (IntKind.i64.wrap (100 + (j : Int)))] 3)).drew fun e w' => e = .returned (.int .u64 (F.getD j 0 : Nat)) ∧ Below (wr.alloc (.cells #[.int .i64 (IntKind.i64.wrap (100 + (j : Int)))] 3)).drew.heap.size (wr.alloc (.cells #[.int .i64 (IntKind.i64.wrap (100 + (j : Int)))] 3)).drew w') := Lib.hid fun hW => by
            rw [hwr] at hW ⊢
            exact (fof_any B b g.terms.length F (some ⟨wr.heap.size, 0, none⟩) 1 [100 + (j : Int)] _ (HTB5.out.at_.below hW.out) (show Cells (wr.alloc (.cells #[.int .i64 (100 + (j : Int))] 3)).drew _ _ from cells_new wr _ _) (by simp) (fun s hs => by simp only [List.mem_singleton] at hs; omega) HFI.out.low (by omega) (by rw [HFI.out.len]; omega)).mono fun e w' ⟨he, hb⟩ => ⟨he.trans (by rw [of_oneF (by omega) HFI.out.low HFI.out.len hjl (by omega)]), hb⟩
          have HASX : Hid (∀ W : World, Hid (Below w5.heap.size w5 W) → Calls Try.prog 25 #[.slice (some ⟨rb, 0, none⟩) (g.terms.length + 1) (g.terms.length + 1)] W fun e w' => e = .returned (.int .u64 (F.getD j 0 : Nat)) ∧ w' = W) := Lib.hid fun W hW => as6_any rb (g.terms.length + 1) (F.getD j 0) W ((HMAT.out.below hW.out).r j rb hrb) (by omega) (fun i hi => by have := HFI.out.low j i hi; omega)
          generalize F.getD j 0 = X at *
          have e3 : (j : Int) < g.nons.length := by omega
          clear hrb hbx hwr
          obtain ⟨⟨m0, m1⟩, _⟩ := HKX.out _ _ (Lib.hid (Below.refl w5.heap.size w5)) HBR.out
          go_upto_region 13 with fail
          go_region_held3 (fun w' => (w'.cell? ⟨mb, j, none⟩ = some (.slice (some ⟨rb, 0, none⟩) (g.terms.length + 1) (g.terms.length + 1)) ∧ mb < w'.heap.size) ∧ Hid (Below w5.heap.size w5 w'))
            (first | (exact HKX.out _ _ HBR (Below.refl _ _).drew) | (exact HKX.out _ _ (And.right (show _ ∧ Hid (Below w5.heap.size w5 _) by assumption)) (box_below _ _)) | (exact HKX.out _ _ (And.right (show _ ∧ Hid (Below w5.heap.size w5 _) by assumption)) (by assumption)) | go_keep)
            (first
              | (go_at_call 24; (with_reducible refine (HOFX.out (And.right (show _ ∧ Hid (Below w5.heap.size w5 _) by assumption))).mono ?_); rintro e w14 ⟨rfl, hb14⟩)
              | (go_at_call 25; (with_reducible refine (HASX.out _ (And.right (show _ ∧ Hid (Below w5.heap.size w5 _) by assumption))).mono ?_); rintro e w15 ⟨rfl, rfl⟩))
          all_goals
            go_wp2
            exact ⟨⟨j + 1, by omega, by go_num, And.right (show _ ∧ Hid (Below w5.heap.size w5 _) by assumption)⟩, by simp [intOf]; omega⟩
        · have e2 : ¬ (j : Int) < g.nons.length := by omega
          have hWr : Below S.heap.size S wr := HB5.out.trans (HBR.out.mono HB5.out.size)
          have hWw : Below w.heap.size w wr := HBA.out.trans (hWr.mono HBA.out.size)
          have HSY : Hid (Calls Try.prog 26 #[.agg #[.slice at_ g.terms.length ct, .slice an g.nons.length cn, .slice ap n3 cp], .slice la row.length lc, .int .i64 5] wr fun e w' => Below wr.heap.size wr w' ∧ SymsEnd wr.heap.size 5 e w') := Lib.hid (syms6_any _ g la lc row 5 wr (HG.out.below hWr) HCK.out (HL.out.below hWw) hrl HRW.out (by omega))
          obtain ⟨⟨y0, y1, y2⟩, y3⟩ := HSK.out _ hWr
          clear hWr hWw c0 c1 c2 l3'
          go_upto_region 17 with (go_at_call 26; refine HSY.out.mono ?_; rintro e w6 ⟨hb6, sa, sc, ss, rfl, hs5, hsw, hso⟩)
          have HB6 : Hid (Below w6.heap.size w6 w6) := Lib.hid (Below.refl _ _)
          have HB56 := Lib.hid (HBR.out.trans (hb6.mono HBR.out.size))
          have HSYM := Lib.hid (own_cells hso).1
          have HSW := Lib.hid hsw
          have HCP := Lib.hid fun W (hW : Below w6.heap.size w6 W) => copyI_any sa sc ss W (HSYM.out.below hW) (by omega)
          have HBY6 := HB6
          obtain ⟨⟨d0, d1, d2⟩, d3⟩ := HSK.out _ (HB5.out.trans (HB56.out.mono HB5.out.size))
          have HWI := Lib.hid fun W => within_any ahead ((g.terms.length : Int) + 1) (by omega) (by omega) W
          clear hb6 hsw hso y0 y1 y2 y3 HSY
          by_cases h9 : ahead.tmod 9 = 8
          · have e9 : (ahead.tmod 9 != 8) = false := by simp [h9]
            clear h9
            go_upto_region 20 with (go_at_call 28; refine (HCP.out _ (by first | exact HBY6.out | assumption)).mono ?_; rintro e w8 ⟨hb8, va, vc, rfl, hov⟩)
            have HB8 := Lib.hid (HB6.out.trans (hb8.mono HB6.out.size))
            have HLENT := Lib.hid (own_cells hov).1
            have HSYM8 := Lib.hid (HSYM.out.below hb8)
            have HB58 := Lib.hid (HB56.out.trans (hb8.mono HB56.out.size))
            obtain ⟨⟨z0, z1, z2⟩, z3⟩ := HSK.out _ (HB5.out.trans (HB58.out.mono HB5.out.size))
            have HKX : Hid (∀ W W' : World, Hid (Below w8.heap.size w8 W) → Below W.heap.size W W' → ((W'.cell? ⟨B1, 0, none⟩ = some (.slice at_ g.terms.length ct) ∧ W'.cell? ⟨B1, 1, none⟩ = some (.slice an g.nons.length cn) ∧ W'.cell? ⟨B1, 2, none⟩ = some (.slice ap n3 cp)) ∧ B1 < W'.heap.size) ∧ Hid (Below w8.heap.size w8 W')) := Lib.hid fun W W' h k => by
              have hb := h.out.trans (k.mono h.out.size)
              exact ⟨HSK.out W' (HB5.out.trans ((HB58.out.trans (hb.mono HB58.out.size)).mono HB5.out.size)), Lib.hid hb⟩
            have HOFC := Lib.hid fun W (hW : Below w8.heap.size w8 W) => fof_any B b g.terms.length F va vc ss W (HTB5.out.at_.below (HB58.out.trans (hW.mono HB58.out.size))) (HLENT.out.below hW) (by omega) (fun s hs => (HSW.out s hs).2) HFI.out.low (by omega) (by rw [HFI.out.len]; omega)
            have HAHC := Lib.hid fun W (hW : Below w8.heap.size w8 W) => fahead_any B b g.terms.length F va vc ss ahead W (HTB5.out.at_.below (HB58.out.trans (hW.mono HB58.out.size))) (HLENT.out.below hW) (by omega) (fun s hs => (HSW.out s hs).2) HFI.out.low (by omega) (by rw [HFI.out.len]; omega)
            have HOFD := Lib.hid fun W (hW : Below w8.heap.size w8 W) => firstOf_any _ g mb bl F sa sc ss W (HG.out.below (HB5.out.trans ((HB58.out.trans (hW.mono HB58.out.size)).mono HB5.out.size))) HCK.out (HMAT.out.below (HB58.out.trans (hW.mono HB58.out.size))) HFI.out.len HFI.out.low (HSYM8.out.below hW) (by omega) HSW.out
            have HAHD := Lib.hid fun W (hW : Below w8.heap.size w8 W) => rahead_any _ g mb bl F sa sc ss ahead W (HG.out.below (HB5.out.trans ((HB58.out.trans (hW.mono HB58.out.size)).mono HB5.out.size))) HCK.out (HMAT.out.below (HB58.out.trans (hW.mono HB58.out.size))) HFI.out.len HFI.out.low (HSYM8.out.below hW) (by omega) HSW.out
            have HSMC := Lib.hid fun W (hW : Below w8.heap.size w8 W) => (keepSame2_any va sa vc sc ss ss W (HLENT.out.below hW) (HSYM8.out.below hW) (by omega) (by omega)).mono fun e w' ⟨he, n, hw⟩ => (⟨he.trans (by rw [decide_eq_true rfl]), by rw [hw]; exact below_drews (Below.refl _ _) _⟩ : e = Ending.returned (.bool true) ∧ Below W.heap.size W w')
            have hX1 : LowB g.terms.length (ofF g.terms.length F ss 1) := low_of (by omega) HFI.out.low _ _ (low_one _)
            have hX2 : LowB g.terms.length (goOnF (ofF g.terms.length F ss 1) (aheadS g.terms.length ahead)) := low_goOn (by omega) hX1 (low_aheadF _ _)
            have HAS1 : Hid (∀ ob W, BsAt W ob (g.terms.length + 1) (ofF g.terms.length F ss 1) → Calls Try.prog 25 #[.slice (some ⟨ob, 0, none⟩) (g.terms.length + 1) (g.terms.length + 1)] W fun e w' => e = .returned (.int .u64 (ofF g.terms.length F ss 1 : Nat)) ∧ w' = W) := Lib.hid fun ob W hB => as6_any ob _ _ W hB (by omega) (fun i hi => by have := hX1 i hi; omega)
            have HAS2 : Hid (∀ ob W, BsAt W ob (g.terms.length + 1) (goOnF (ofF g.terms.length F ss 1) (aheadS g.terms.length ahead)) → Calls Try.prog 25 #[.slice (some ⟨ob, 0, none⟩) (g.terms.length + 1) (g.terms.length + 1)] W fun e w' => e = .returned (.int .u64 (goOnF (ofF g.terms.length F ss 1) (aheadS g.terms.length ahead) : Nat)) ∧ w' = W) := Lib.hid fun ob W hB => as6_any ob _ _ W hB (by omega) (fun i hi => by have := hX2 i hi; omega)
            have HBW8 := Lib.hid (HBA.out.trans ((HB5.out.trans (HB58.out.mono HB5.out.size)).mono HBA.out.size))
            have HB88 : Hid (Below w8.heap.size w8 w8) := Lib.hid (Below.refl _ _)
            clear hb8 hov hX1 hX2
            generalize goOnF (ofF g.terms.length F ss 1) (aheadS g.terms.length ahead) = X2 at *
            generalize ofF g.terms.length F ss 1 = X1 at *
            go_region_held3 (fun w' => ((w'.cell? ⟨B1, 0, none⟩ = some (.slice at_ g.terms.length ct) ∧ w'.cell? ⟨B1, 1, none⟩ = some (.slice an g.nons.length cn) ∧ w'.cell? ⟨B1, 2, none⟩ = some (.slice ap n3 cp)) ∧ B1 < w'.heap.size) ∧ Hid (Below w8.heap.size w8 w'))
              (first | (exact HKX.out _ _ HB88 (Below.refl _ _).drew) | (exact HKX.out _ _ (And.right (show _ ∧ Hid (Below w8.heap.size w8 _) by assumption)) (by assumption)) | go_keep)
              (first
                | (go_at_call 24; (with_reducible refine (HOFC.out _ (And.right (show _ ∧ Hid (Below w8.heap.size w8 _) by assumption)).out).mono ?_); rintro e w20 ⟨rfl, hb20⟩)
                | (go_at_call 29; (with_reducible refine (HOFD.out _ (And.right (show _ ∧ Hid (Below w8.heap.size w8 _) by assumption)).out).mono ?_); rintro e w21 ⟨hb21, ob, rfl, hob, hobl⟩)
                | (go_at_call 30; (with_reducible refine (HAHC.out _ (And.right (show _ ∧ Hid (Below w8.heap.size w8 _) by assumption)).out).mono ?_); rintro e w22 ⟨rfl, hb22⟩)
                | (go_at_call 31; (with_reducible refine (HAHD.out _ (And.right (show _ ∧ Hid (Below w8.heap.size w8 _) by assumption)).out).mono ?_); rintro e w23 ⟨hb23, ob2, rfl, hob2, hobl2⟩)
                | (go_at_call 25; first
                    | (refine (HAS1.out _ _ (by assumption)).mono ?_; rintro e w24 ⟨rfl, rfl⟩)
                    | (refine (HAS2.out _ _ (by assumption)).mono ?_; rintro e w24 ⟨rfl, rfl⟩))
                | (go_at_call 32; (with_reducible refine (HSMC.out _ (And.right (show _ ∧ Hid (Below w8.heap.size w8 _) by assumption)).out).mono ?_); rintro e w25 ⟨rfl, hb25⟩)
                | (go_at_call 21; refine (HWK.out _).mono ?_; rintro e w26 ⟨rfl, hb26⟩))
            all_goals
              go_wp2
              go_ret
              exact ⟨rfl, HBW8.out.trans ((And.right (show _ ∧ Hid (Below w8.heap.size w8 _) by assumption)).out.mono HBW8.out.size)⟩
          · have e9 : (ahead.tmod 9 != 8) = true := by simp [h9]
            clear h9
            go_upto_region 19 with (go_at_call 27; refine (HWI.out _).mono ?_; rintro e w7 ⟨rfl, rfl⟩)
            have hm1 : 0 ≤ ahead % ((g.terms.length : Int) + 1) := Int.emod_nonneg _ (by omega)
            have hm2 : ahead % ((g.terms.length : Int) + 1) < (g.terms.length : Int) + 1 := Int.emod_lt_of_pos _ (by omega)
            generalize ahead % ((g.terms.length : Int) + 1) = yy at *
            go_upto_region 20 with (go_at_call 28; refine (HCP.out _ (by first | exact HBY6.out | assumption)).mono ?_; rintro e w8 ⟨hb8, va, vc, rfl, hov⟩)
            have HB8 := Lib.hid (HB6.out.trans (hb8.mono HB6.out.size))
            have HLENT := Lib.hid (own_cells hov).1
            have HSYM8 := Lib.hid (HSYM.out.below hb8)
            have HB58 := Lib.hid (HB56.out.trans (hb8.mono HB56.out.size))
            obtain ⟨⟨z0, z1, z2⟩, z3⟩ := HSK.out _ (HB5.out.trans (HB58.out.mono HB5.out.size))
            have HKX : Hid (∀ W W' : World, Hid (Below w8.heap.size w8 W) → Below W.heap.size W W' → ((W'.cell? ⟨B1, 0, none⟩ = some (.slice at_ g.terms.length ct) ∧ W'.cell? ⟨B1, 1, none⟩ = some (.slice an g.nons.length cn) ∧ W'.cell? ⟨B1, 2, none⟩ = some (.slice ap n3 cp)) ∧ B1 < W'.heap.size) ∧ Hid (Below w8.heap.size w8 W')) := Lib.hid fun W W' h k => by
              have hb := h.out.trans (k.mono h.out.size)
              exact ⟨HSK.out W' (HB5.out.trans ((HB58.out.trans (hb.mono HB58.out.size)).mono HB5.out.size)), Lib.hid hb⟩
            have HOFC := Lib.hid fun W (hW : Below w8.heap.size w8 W) => fof_any B b g.terms.length F va vc ss W (HTB5.out.at_.below (HB58.out.trans (hW.mono HB58.out.size))) (HLENT.out.below hW) (by omega) (fun s hs => (HSW.out s hs).2) HFI.out.low (by omega) (by rw [HFI.out.len]; omega)
            have HAHC := Lib.hid fun W (hW : Below w8.heap.size w8 W) => fahead_any B b g.terms.length F va vc ss yy W (HTB5.out.at_.below (HB58.out.trans (hW.mono HB58.out.size))) (HLENT.out.below hW) (by omega) (fun s hs => (HSW.out s hs).2) HFI.out.low (by omega) (by rw [HFI.out.len]; omega)
            have HOFD := Lib.hid fun W (hW : Below w8.heap.size w8 W) => firstOf_any _ g mb bl F sa sc ss W (HG.out.below (HB5.out.trans ((HB58.out.trans (hW.mono HB58.out.size)).mono HB5.out.size))) HCK.out (HMAT.out.below (HB58.out.trans (hW.mono HB58.out.size))) HFI.out.len HFI.out.low (HSYM8.out.below hW) (by omega) HSW.out
            have HAHD := Lib.hid fun W (hW : Below w8.heap.size w8 W) => rahead_any _ g mb bl F sa sc ss yy W (HG.out.below (HB5.out.trans ((HB58.out.trans (hW.mono HB58.out.size)).mono HB5.out.size))) HCK.out (HMAT.out.below (HB58.out.trans (hW.mono HB58.out.size))) HFI.out.len HFI.out.low (HSYM8.out.below hW) (by omega) HSW.out
            have HSMC := Lib.hid fun W (hW : Below w8.heap.size w8 W) => (keepSame2_any va sa vc sc ss ss W (HLENT.out.below hW) (HSYM8.out.below hW) (by omega) (by omega)).mono fun e w' ⟨he, n, hw⟩ => (⟨he.trans (by rw [decide_eq_true rfl]), by rw [hw]; exact below_drews (Below.refl _ _) _⟩ : e = Ending.returned (.bool true) ∧ Below W.heap.size W w')
            have hX1 : LowB g.terms.length (ofF g.terms.length F ss 1) := low_of (by omega) HFI.out.low _ _ (low_one _)
            have hX2 : LowB g.terms.length (goOnF (ofF g.terms.length F ss 1) (aheadS g.terms.length yy)) := low_goOn (by omega) hX1 (low_aheadF _ _)
            have HAS1 : Hid (∀ ob W, BsAt W ob (g.terms.length + 1) (ofF g.terms.length F ss 1) → Calls Try.prog 25 #[.slice (some ⟨ob, 0, none⟩) (g.terms.length + 1) (g.terms.length + 1)] W fun e w' => e = .returned (.int .u64 (ofF g.terms.length F ss 1 : Nat)) ∧ w' = W) := Lib.hid fun ob W hB => as6_any ob _ _ W hB (by omega) (fun i hi => by have := hX1 i hi; omega)
            have HAS2 : Hid (∀ ob W, BsAt W ob (g.terms.length + 1) (goOnF (ofF g.terms.length F ss 1) (aheadS g.terms.length yy)) → Calls Try.prog 25 #[.slice (some ⟨ob, 0, none⟩) (g.terms.length + 1) (g.terms.length + 1)] W fun e w' => e = .returned (.int .u64 (goOnF (ofF g.terms.length F ss 1) (aheadS g.terms.length yy) : Nat)) ∧ w' = W) := Lib.hid fun ob W hB => as6_any ob _ _ W hB (by omega) (fun i hi => by have := hX2 i hi; omega)
            have HBW8 := Lib.hid (HBA.out.trans ((HB5.out.trans (HB58.out.mono HB5.out.size)).mono HBA.out.size))
            have HB88 : Hid (Below w8.heap.size w8 w8) := Lib.hid (Below.refl _ _)
            clear hb8 hov hX1 hX2
            generalize goOnF (ofF g.terms.length F ss 1) (aheadS g.terms.length yy) = X2 at *
            generalize ofF g.terms.length F ss 1 = X1 at *
            go_region_held3 (fun w' => ((w'.cell? ⟨B1, 0, none⟩ = some (.slice at_ g.terms.length ct) ∧ w'.cell? ⟨B1, 1, none⟩ = some (.slice an g.nons.length cn) ∧ w'.cell? ⟨B1, 2, none⟩ = some (.slice ap n3 cp)) ∧ B1 < w'.heap.size) ∧ Hid (Below w8.heap.size w8 w'))
              (first | (exact HKX.out _ _ HB88 (Below.refl _ _).drew) | (exact HKX.out _ _ (And.right (show _ ∧ Hid (Below w8.heap.size w8 _) by assumption)) (by assumption)) | go_keep)
              (first
                | (go_at_call 24; (with_reducible refine (HOFC.out _ (And.right (show _ ∧ Hid (Below w8.heap.size w8 _) by assumption)).out).mono ?_); rintro e w20 ⟨rfl, hb20⟩)
                | (go_at_call 29; (with_reducible refine (HOFD.out _ (And.right (show _ ∧ Hid (Below w8.heap.size w8 _) by assumption)).out).mono ?_); rintro e w21 ⟨hb21, ob, rfl, hob, hobl⟩)
                | (go_at_call 30; (with_reducible refine (HAHC.out _ (And.right (show _ ∧ Hid (Below w8.heap.size w8 _) by assumption)).out).mono ?_); rintro e w22 ⟨rfl, hb22⟩)
                | (go_at_call 31; (with_reducible refine (HAHD.out _ (And.right (show _ ∧ Hid (Below w8.heap.size w8 _) by assumption)).out).mono ?_); rintro e w23 ⟨hb23, ob2, rfl, hob2, hobl2⟩)
                | (go_at_call 25; first
                    | (refine (HAS1.out _ _ (by assumption)).mono ?_; rintro e w24 ⟨rfl, rfl⟩)
                    | (refine (HAS2.out _ _ (by assumption)).mono ?_; rintro e w24 ⟨rfl, rfl⟩))
                | (go_at_call 32; (with_reducible refine (HSMC.out _ (And.right (show _ ∧ Hid (Below w8.heap.size w8 _) by assumption)).out).mono ?_); rintro e w25 ⟨rfl, hb25⟩)
                | (go_at_call 21; refine (HWK.out _).mono ?_; rintro e w26 ⟨rfl, hb26⟩))
            all_goals
              go_wp2
              go_ret
              exact ⟨rfl, HBW8.out.trans ((And.right (show _ ∧ Hid (Below w8.heap.size w8 _) by assumption)).out.mono HBW8.out.size)⟩
    · have hT0 := HTLL.out.2 hfr
      have e1 : (((rtrimL g).length : Int) == 0) = true := by rw [hT0]; rfl
      clear hT0
      go_wp2_with (first
        | (go_at_call 22; refine HTR3.out.mono ?_; rintro e w4 ⟨hb4, ta, tc, rfl, hto⟩)
        | (go_at_call 21; refine (HWK.out _).mono ?_; rintro e w5 ⟨rfl, hb5⟩))
      go_ret
      exact ⟨rfl, HBA.out.trans ((HB3.out.trans ((hb4.trans (hb5.mono hb4.size)).mono HB3.out.size)).mono HBA.out.size)⟩
  · have hno : okB g = false := by rw [Bool.eq_false_iff]; exact fun h => hc ((okB_iff g).1 h)
    rw [hno] at HDC
    have HNF := Lib.hid (fnew_no _ g S HG.out HM.out hc)
    clear hc hno HG HM HQ0
    go_wp2_with (first
      | (go_at_call 19; refine HNF.out.mono ?_; rintro e w2 ⟨rfl, hb2⟩; obtain ⟨⟨c0, c1, c2⟩, l2'⟩ := HSK.out _ hb2)
      | (go_at_call 20; refine (HDC.out _ hb2).mono ?_; rintro e w3 ⟨rfl, hk3⟩; have hb3 := hb2.trans (hk3.mono hb2.size); obtain ⟨⟨c0, c1, c2⟩, l2'⟩ := HSK.out _ hb3)
      | (go_at_call 21; refine (HWK.out _).mono ?_; rintro e w7 ⟨rfl, hk7⟩; have hb7 := hb3.trans (hk7.mono hb3.size)))
    go_ret
    exact ⟨rfl, HBA.out.trans (hb7.mono HBA.out.size)⟩
end Go.Proofs.Ytflfmcikfiaoiaa
