/- derive: what may be asked for; a counter is made; Count, Can. -/
import Derived.Test.YtgfkkbpnphbdgaaDerQ
import Derived.Test.YtgfkkbpnphbdgaaNoG
import Derived.Test.YtgfkkbpnphbdgaaPlay
set_option linter.unusedVariables false
set_option linter.unusedSimpArgs false
namespace Go.Proofs.Ytgfkkbpnphbdgaa
open Go.RowKit
open Doc Dr

def wideI (s : Int) : Prop := -9223372036854775808 ≤ s ∧ s ≤ 9223372036854775807
set_option maxHeartbeats 1000000 in
theorem isSymW_any (v : Value) (g : Gr) (s : Int) (w : World) (hg : GramAt w v g) (hl : g.nons.length ≤ 1000000) (hl2 : g.terms.length ≤ 1000000) (hs : wideI s) :
    Calls Try.prog 73 #[v, .int .i64 s] w fun e w' => e = .returned (.bool (symB g s)) ∧ Below w.heap.size w w' := by
  obtain ⟨a1, a2, a3, c1, c2, c3, ls, rfl, hp, k1, k2, k3, k4, k5, k6, k7⟩ := hg
  obtain ⟨hbS, hsS, q0⟩ := one_alloc w (.cells #[.slice a1 g.terms.length c1, .slice a2 g.nons.length c2, .slice a3 ls.length c3] 25)
  have HB := Lib.hid hbS
  unfold wideI at hs
  clear hp k1 k2 k3 k4 k5 k6 k7
  go_enter Try.func73, Try.ntmps73
  go_upto_region 1 with fail
  generalize w.alloc (.cells #[.slice a1 g.terms.length c1, .slice a2 g.nons.length c2, .slice a3 ls.length c3] 25) = S at *
  have x0 := (blk_cell (i := 0) q0 rfl).1
  have x1 := (blk_cell (i := 1) q0 rfl).1
  have l0 := heap_lt q0
  clear q0 hbS hsS
  have key : ∀ b : Bool, b = symB g s → (Ending.returned (.bool b) = .returned (.bool (symB g s)) ∧ Below w.heap.size w S) := fun b h => ⟨by rw [h], HB.out⟩
  have HK := Lib.hid key
  clear key
  by_cases h1 : 1 ≤ s ∧ s ≤ g.terms.length
  · obtain ⟨h1, h2⟩ := h1
    go_wp2
    go_ret
    exact HK.out _ (by unfold symB; simp [h1, h2])
  · by_cases h3 : 100 ≤ s
    · have h4 : decide (1 ≤ s) = true := decide_eq_true (by omega)
      have h5 : ¬ s ≤ (g.terms.length : Int) := by omega
      by_cases h6 : s < 100 + (g.nons.length : Int)
      · have h7 : s - 100 < (g.nons.length : Int) := by omega
        go_wp2
        go_ret
        exact HK.out _ (by unfold symB nonB; simp; omega)
      · have h7 : ¬ s - 100 < (g.nons.length : Int) := by omega
        go_wp2
        go_ret
        exact HK.out _ (by unfold symB nonB; simp; omega)
    · by_cases h4 : 1 ≤ s
      · have h5 : ¬ s ≤ (g.terms.length : Int) := by omega
        go_wp2
        go_ret
        exact HK.out _ (by unfold symB nonB; simp; omega)
      · go_wp2
        go_ret
        exact HK.out _ (by unfold symB nonB; simp; omega)
set_option maxHeartbeats 1000000 in
/-- Of a lone leaf. -/
theorem leafCheck_any (v : Value) (g : Gr) (s : Int) (w : World) (hg : GramAt w v g) (hl : g.nons.length ≤ 1000000) (hl2 : g.terms.length ≤ 1000000) (hs : wideI s) :
    Calls Try.prog 62 #[v, .agg #[.int .i64 s, .int .i64 (-1), .slice none 0 0], .int .i64 s] w fun e w' => e = .returned (.bool (symB g s)) ∧ Below w.heap.size w w' := by
  have HG0 := Lib.hid hg
  obtain ⟨a1, a2, a3, c1, c2, c3, ls, rfl, hp, k1, k2, k3, k4, k5, k6, k7⟩ := hg
  obtain ⟨hbS, hsS, q0, q1⟩ := twin_alloc w (.cells #[.slice a1 g.terms.length c1, .slice a2 g.nons.length c2, .slice a3 ls.length c3] 25) (.cells #[.int .i64 s, .int .i64 (-1), .slice none 0 0] 39)
  have HSY := Lib.hid fun W (hW : GramAt W (.agg #[.slice a1 g.terms.length c1, .slice a2 g.nons.length c2, .slice a3 ls.length c3]) g) => isSymW_any _ g s W hW hl hl2 hs
  have HG := Lib.hid (HG0.out.below hbS)
  have HB := Lib.hid hbS
  clear hp k1 k2 k3 k4 k5 k6 k7 HG0 hsS hl hl2 hs
  go_enter Try.func62, Try.ntmps62
  go_upto_region 1 with fail
  generalize (w.alloc (.cells #[.slice a1 g.terms.length c1, .slice a2 g.nons.length c2, .slice a3 ls.length c3] 25)).alloc (.cells #[.int .i64 s, .int .i64 (-1), .slice none 0 0] 39) = S at *
  have g0 := (blk_cell (i := 0) q0 rfl).1
  have g1 := (blk_cell (i := 1) q0 rfl).1
  have g2 := (blk_cell (i := 2) q0 rfl).1
  have t0 := (blk_cell (i := 0) q1 rfl).1
  have t1 := (blk_cell (i := 1) q1 rfl).1
  have t2 := (blk_cell (i := 2) q1 rfl).1
  have l0 := heap_lt q0
  have l1 := heap_lt q1
  clear q0 q1 hbS
  go_wp2_with (go_at_call 73; (with_reducible refine (HSY.out _ HG.out).mono ?_); rintro e w2 ⟨rfl, hb2⟩)
  go_ret
  exact ⟨rfl, HB.out.trans (hb2.mono HB.out.size)⟩
set_option maxHeartbeats 1000000 in
theorem dsym_any (v : Value) (g : Gr) (s : Int) (w : World) (hg : GramAt w v g) (hl : g.nons.length ≤ 1000000) (hl2 : g.terms.length ≤ 1000000) (hs : wideI s) :
    Calls Try.prog 51 #[v, .int .i64 s] w fun e w' => e = .returned (.bool (symB g s)) ∧ Below w.heap.size w w' := by
  have HG0 := Lib.hid hg
  obtain ⟨a1, a2, a3, c1, c2, c3, ls, rfl, hp, k1, k2, k3, k4, k5, k6, k7⟩ := hg
  obtain ⟨hbS, hsS, q0⟩ := one_alloc w (.cells #[.slice a1 g.terms.length c1, .slice a2 g.nons.length c2, .slice a3 ls.length c3] 25)
  have HSY := Lib.hid fun W (hW : GramAt W (.agg #[.slice a1 g.terms.length c1, .slice a2 g.nons.length c2, .slice a3 ls.length c3]) g) => leafCheck_any _ g s W hW hl hl2 hs
  have HG := Lib.hid (HG0.out.below hbS)
  have HB := Lib.hid hbS
  clear hp k1 k2 k3 k4 k5 k6 k7 HG0 hsS hl hl2 hs
  go_enter Try.func51, Try.ntmps51
  go_upto_region 1 with fail
  generalize w.alloc (.cells #[.slice a1 g.terms.length c1, .slice a2 g.nons.length c2, .slice a3 ls.length c3] 25) = S at *
  have g0 := (blk_cell (i := 0) q0 rfl).1
  have g1 := (blk_cell (i := 1) q0 rfl).1
  have g2 := (blk_cell (i := 2) q0 rfl).1
  have l0 := heap_lt q0
  clear q0 hbS
  go_wp2_with (go_at_call 62; (with_reducible refine (HSY.out _ HG.out).mono ?_); rintro e w2 ⟨rfl, hb2⟩)
  go_ret
  exact ⟨rfl, HB.out.trans (hb2.mono HB.out.size)⟩

/-- What may be asked for. -/
def AskP (g : Gr) (root : Int) (u : List Int) (m : Int) : Prop := CheckG g ∧ symB g root = true ∧ u.length ≤ 12 ∧ 0 ≤ m ∧ m ≤ 200 ∧ ∀ s ∈ u, symB g s = true
open Classical in
noncomputable def askB (g : Gr) (root : Int) (u : List Int) (m : Int) : Bool := decide (AskP g root u m)
theorem askB_true {g : Gr} {root : Int} {u : List Int} {m : Int} (h : AskP g root u m) : askB g root u m = true := by unfold askB; exact @decide_eq_true _ (Classical.propDecidable _) h
theorem askB_false {g : Gr} {root : Int} {u : List Int} {m : Int} (h : ¬ AskP g root u m) : askB g root u m = false := by unfold askB; exact @decide_eq_false _ (Classical.propDecidable _) h
set_option maxHeartbeats 4000000 in
theorem asked_any (v : Value) (g : Gr) (root : Int) (wa : Option Addr) (wc : Nat) (u : List Int) (m : Int) (w : World) (hg : GramAt w v g) (hm : MidG g) (hr : wideI root) (hu : Cells w wa (nums u)) (hul : u.length ≤ 1000000000000) (huw : ∀ s ∈ u, wideI s) :
    Calls Try.prog 34 #[v, .int .i64 root, .slice wa u.length wc, .int .i64 m] w fun e w' => e = .returned (.bool (askB g root u m)) ∧ Below w.heap.size w w' := by
  have HG0 := Lib.hid hg
  have hn1 := hm.n.1
  have ht1 := hm.t.1
  obtain ⟨a1, a2, a3, c1, c2, c3, ls, rfl, hp, k1, k2, k3, k4, k5, k6, k7⟩ := hg
  obtain ⟨hbS, hsS, q0⟩ := one_alloc w (.cells #[.slice a1 g.terms.length c1, .slice a2 g.nons.length c2, .slice a3 ls.length c3] 25)
  have HG := Lib.hid (HG0.out.below hbS)
  have HU := Lib.hid (hu.below hbS)
  have HB := Lib.hid hbS
  have HUW := Lib.hid huw
  have HSY := Lib.hid fun s (hs : wideI s) W (hW : GramAt W (.agg #[.slice a1 g.terms.length c1, .slice a2 g.nons.length c2, .slice a3 ls.length c3]) g) => dsym_any _ g s W hW (by omega) (by omega) hs
  have HRT := Lib.hid (HSY.out root hr)
  have HQ := Lib.hid q0
  clear hp k1 k2 k3 k4 k5 k6 k7 HG0 hsS hn1 ht1 q0 hbS hu huw hr
  by_cases hcg : CheckG g
  · have HCK := Lib.hid fun W (hW : GramAt W (.agg #[.slice a1 g.terms.length c1, .slice a2 g.nons.length c2, .slice a3 ls.length c3]) g) => (check_mid _ g W hW hm).mono fun e w' h => (⟨h.1.trans (by rw [show chkI g = 0 from if_pos ((chk_iff g).2 hcg)]), h.2⟩ : e = .returned (.int .i64 0) ∧ Below W.heap.size W w')
    have HCG := Lib.hid hcg
    clear hcg hm
    go_enter Try.func34, Try.ntmps34
    go_upto_region 1 with fail
    generalize w.alloc (.cells #[.slice a1 g.terms.length c1, .slice a2 g.nons.length c2, .slice a3 ls.length c3] 25) = S at *
    have g0 := (blk_cell (i := 0) HQ.out rfl).1
    have g1 := (blk_cell (i := 1) HQ.out rfl).1
    have g2 := (blk_cell (i := 2) HQ.out rfl).1
    have l0 := heap_lt HQ.out
    have hb2 : ∀ w2, Below S.heap.size S w2 → Hid (w2.cell? ⟨w.heap.size, 0, none⟩ = some (.slice a1 g.terms.length c1) ∧ w2.cell? ⟨w.heap.size, 1, none⟩ = some (.slice a2 g.nons.length c2) ∧ w2.cell? ⟨w.heap.size, 2, none⟩ = some (.slice a3 ls.length c3) ∧ w.heap.size < w2.heap.size) := fun w2 h => Lib.hid ⟨(h.cell (p := ⟨w.heap.size, 0, none⟩) l0).trans g0, (h.cell (p := ⟨w.heap.size, 1, none⟩) l0).trans g1, (h.cell (p := ⟨w.heap.size, 2, none⟩) l0).trans g2, Nat.lt_of_lt_of_le l0 h.size⟩
    have HF := Lib.hid hb2
    clear hb2
    obtain ⟨sb, hsb⟩ : ∃ sb, symB g root = sb := ⟨_, rfl⟩
    have HSB := Lib.hid hsb
    rw [hsb] at HRT
    clear hsb
    cases sb
    · go_wp2_with (first
        | (go_at_call 50; (with_reducible refine (HCK.out _ HG.out).mono ?_); rintro e w2 ⟨rfl, hb2⟩; obtain ⟨g0, g1, g2, l0⟩ := (HF.out w2 hb2).out; have HB2 := Lib.hid (HB.out.trans (hb2.mono HB.out.size)); have HG2 := Lib.hid (HG.out.below hb2))
        | (go_at_call 51; (with_reducible refine (HRT.out _ HG2.out).mono ?_); rintro e w3 ⟨rfl, hb3⟩; have HB3 := Lib.hid (HB2.out.trans (hb3.mono HB2.out.size))))
      go_ret
      exact ⟨by rw [askB_false (by intro h; have := h.2.1; rw [HSB.out] at this; cases this)]; rfl, HB3.out⟩
    · by_cases hlm : u.length ≤ 12 ∧ 0 ≤ m ∧ m ≤ 200
      · obtain ⟨h12, hm0, hm2⟩ := hlm
        have e1 : ¬ (12 : Int) < (u.length : Int) := by omega
        have e2 : ¬ m < 0 := by omega
        have e3 : ¬ (200 : Int) < m := by omega
        go_upto_region 3 with (first
          | (go_at_call 50; (with_reducible refine (HCK.out _ HG.out).mono ?_); rintro e w2 ⟨rfl, hb2⟩; obtain ⟨g0, g1, g2, l0⟩ := (HF.out w2 hb2).out; have HB2 := Lib.hid hb2; have HG2 := Lib.hid (HG.out.below hb2))
          | (go_at_call 51; (with_reducible refine (HRT.out _ HG2.out).mono ?_); rintro e w3 ⟨rfl, hb3⟩; have HB3 := Lib.hid (HB2.out.trans (hb3.mono HB2.out.size))))
        have H12 := Lib.hid (⟨h12, hm0, hm2⟩ : u.length ≤ 12 ∧ 0 ≤ m ∧ m ≤ 200)
        clear h12 hm0 hm2 e2 e3
        go_upto_region 4 with fail
        clear g0 g1 g2 l0
        go_loopw [35] (fun i wr => ∃ k : Nat, k ≤ u.length ∧ i = .int .i64 k ∧ Hid (Below S.heap.size S wr) ∧ Hid (∀ s ∈ u.take k, symB g s = true)) (fun i _ => u.length - (intOf i).toNat)
        case atStart => exact ⟨0, by omega, rfl, HB3, Lib.hid (by simp)⟩
        case round =>
          obtain ⟨k, hk, rfl, HBR, HSO⟩ := hrel
          by_cases hkl : k < u.length
          · obtain ⟨x, hx⟩ : ∃ x, u[k]? = some x := ⟨_, List.getElem?_eq_getElem hkl⟩
            obtain ⟨b, o, rfl, hbl, hcc⟩ := (HU.out.below HBR.out).get (by unfold nums; intro e; rw [List.map_eq_nil_iff] at e; rw [e] at hx; simp at hx)
            have u0 := hcc k _ (nums_at hx)
            have e4 : (k : Int) < u.length := by omega
            have HGR := Lib.hid (HG.out.below HBR.out)
            obtain ⟨g0, g1, g2, l0⟩ := (HF.out wr HBR.out).out
            have HSX := Lib.hid (HSY.out x (HUW.out x (List.mem_of_getElem? hx)))
            have HX := Lib.hid hx
            obtain ⟨sb, hsb⟩ : ∃ sb, symB g x = sb := ⟨_, rfl⟩
            have HSB2 := Lib.hid hsb
            rw [hsb] at HSX
            clear hsb hcc hx
            cases sb
            · go_wp2_with (go_at_call 51; (with_reducible refine (HSX.out _ HGR.out).mono ?_); rintro e w5 ⟨rfl, hb5⟩)
              go_ret
              exact ⟨by rw [askB_false (by intro h; have := h.2.2.2.2.2 x (List.mem_of_getElem? HX.out); rw [HSB2.out] at this; cases this)]; rfl, HB.out.trans ((HBR.out.trans (hb5.mono HBR.out.size)).mono HB.out.size)⟩
            · have HKL := Lib.hid hkl
              clear hkl
              go_wp2_with (go_at_call 51; (with_reducible refine (HSX.out _ HGR.out).mono ?_); rintro e w5 ⟨rfl, hb5⟩)
              refine ⟨⟨k + 1, by have := HKL.out; omega, by go_num, Lib.hid (HBR.out.trans (hb5.mono HBR.out.size)), Lib.hid ?_⟩, by have := HKL.out; simp [intOf]; omega⟩
              intro s hs
              rw [List.take_add_one, HX.out] at hs
              simp only [Option.toList_some, List.mem_append, List.mem_singleton] at hs
              rcases hs with hs | rfl
              · exact HSO.out s hs
              · exact HSB2.out
          · have e4 : ¬ (k : Int) < u.length := by omega
            have HKL := Lib.hid hkl
            clear hkl
            go_wp2
            go_ret
            exact ⟨by rw [askB_true (g := g) (root := root) (u := u) (m := m) ⟨HCG.out, HSB.out, H12.out.1, H12.out.2.1, H12.out.2.2, fun s hs => HSO.out s (by rw [List.take_of_length_le (by have := HKL.out; omega)]; exact hs)⟩]; rfl, HB.out.trans (HBR.out.mono HB.out.size)⟩
      · have HNA := Lib.hid (askB_false (g := g) (root := root) (u := u) (m := m) (fun h => hlm ⟨h.2.2.1, h.2.2.2.1, h.2.2.2.2.1⟩))
        rcases (show (12 < u.length) ∨ (u.length ≤ 12 ∧ m < 0) ∨ (u.length ≤ 12 ∧ 0 ≤ m ∧ 200 < m) by omega) with h | ⟨h, h'⟩ | ⟨h, h', h''⟩
        · have e1 : (12 : Int) < (u.length : Int) := by omega
          clear hlm h
          go_wp2_with (first
            | (go_at_call 50; (with_reducible refine (HCK.out _ HG.out).mono ?_); rintro e w2 ⟨rfl, hb2⟩; obtain ⟨g0, g1, g2, l0⟩ := (HF.out w2 hb2).out; have HB2 := Lib.hid (HB.out.trans (hb2.mono HB.out.size)); have HG2 := Lib.hid (HG.out.below hb2))
            | (go_at_call 51; (with_reducible refine (HRT.out _ HG2.out).mono ?_); rintro e w3 ⟨rfl, hb3⟩; have HB3 := Lib.hid (HB2.out.trans (hb3.mono HB2.out.size))))
          go_ret
          exact ⟨by rw [HNA.out]; rfl, HB3.out⟩
        · have e1 : ¬ (12 : Int) < (u.length : Int) := by omega
          clear hlm h
          go_wp2_with (first
            | (go_at_call 50; (with_reducible refine (HCK.out _ HG.out).mono ?_); rintro e w2 ⟨rfl, hb2⟩; obtain ⟨g0, g1, g2, l0⟩ := (HF.out w2 hb2).out; have HB2 := Lib.hid (HB.out.trans (hb2.mono HB.out.size)); have HG2 := Lib.hid (HG.out.below hb2))
            | (go_at_call 51; (with_reducible refine (HRT.out _ HG2.out).mono ?_); rintro e w3 ⟨rfl, hb3⟩; have HB3 := Lib.hid (HB2.out.trans (hb3.mono HB2.out.size))))
          go_ret
          exact ⟨by rw [HNA.out]; rfl, HB3.out⟩
        · have e1 : ¬ (12 : Int) < (u.length : Int) := by omega
          have e2 : ¬ m < 0 := by omega
          clear hlm h
          go_wp2_with (first
            | (go_at_call 50; (with_reducible refine (HCK.out _ HG.out).mono ?_); rintro e w2 ⟨rfl, hb2⟩; obtain ⟨g0, g1, g2, l0⟩ := (HF.out w2 hb2).out; have HB2 := Lib.hid (HB.out.trans (hb2.mono HB.out.size)); have HG2 := Lib.hid (HG.out.below hb2))
            | (go_at_call 51; (with_reducible refine (HRT.out _ HG2.out).mono ?_); rintro e w3 ⟨rfl, hb3⟩; have HB3 := Lib.hid (HB2.out.trans (hb3.mono HB2.out.size))))
          go_ret
          exact ⟨by rw [HNA.out]; rfl, HB3.out⟩
  · have HCK := Lib.hid fun W (hW : GramAt W (.agg #[.slice a1 g.terms.length c1, .slice a2 g.nons.length c2, .slice a3 ls.length c3]) g) => check_not _ g W hW hm hcg
    have HNA := Lib.hid (askB_false (g := g) (root := root) (u := u) (m := m) (fun h => hcg h.1))
    clear hcg hm
    go_enter Try.func34, Try.ntmps34
    go_upto_region 1 with fail
    generalize w.alloc (.cells #[.slice a1 g.terms.length c1, .slice a2 g.nons.length c2, .slice a3 ls.length c3] 25) = S at *
    have g0 := (blk_cell (i := 0) HQ.out rfl).1
    have g1 := (blk_cell (i := 1) HQ.out rfl).1
    have g2 := (blk_cell (i := 2) HQ.out rfl).1
    have l0 := heap_lt HQ.out
    go_wp2_with (go_at_call 50; (with_reducible refine (HCK.out _ HG.out).mono ?_); rintro e w2 ⟨rfl, hb2⟩)
    go_ret
    exact ⟨by rw [HNA.out]; rfl, HB.out.trans (hb2.mono HB.out.size)⟩

end Go.Proofs.Ytgfkkbpnphbdgaa
namespace Go.Proofs.Ytgfkkbpnphbdgaa
open Go.RowKit
open Doc Dr

noncomputable def cntI (g : Gr) (root : Int) (u : List Int) (m : Int) : Int := if askB g root u m = true then ((num m.toNat g.prods u (wholeJ u root) : Nat) : Int) else 0
theorem okD_of {g : Gr} {root : Int} {u : List Int} {m : Int} (h : AskP g root u m) : OkD g.prods u m.toNat where
  six := fun p hp => by
    obtain ⟨h1, h2, h3⟩ := h.1.pv p hp
    have := h.1.n8
    exact ⟨h2, h1.1, by omega⟩
  len := by have := h.1.p24; omega
  syms := fun p hp s hs => by
    obtain ⟨h1, h2, h3⟩ := h.1.pv p hp
    have := h.1.n8
    have := h.1.t8
    have h4 := h3 s hs
    unfold symOk at h4
    omega
  ul := h.2.2.1
  ml := by have := h.2.2.2.2.1; omega
theorem root_in {g : Gr} {root : Int} {u : List Int} {m : Int} (h : AskP g root u m) : -1000000 ≤ root ∧ root < 108 := by
  have h4 := (symB_iff g root).1 h.2.1
  have := h.1.n8
  have := h.1.t8
  unfold symOk at h4
  omega
theorem inD_whole (u : List Int) : InD u ⟨0, u.length, none8⟩ := ⟨rfl, Nat.zero_le _, Nat.le_refl _⟩
set_option maxRecDepth 100000 in
set_option maxHeartbeats 1000000 in
theorem whole_any (root : Int) (wa : Option Addr) (wc : Nat) (u : List Int) (w : World) (hu : u.length ≤ 12) :
    Calls Try.prog 37 #[.int .i64 root, .slice wa u.length wc] w fun e w' => e = .returned (codeG (root, ⟨0, u.length, none8⟩)) ∧ Below w.heap.size w w' := by
  unfold codeG bools none8
  simp only [List.replicate, List.map_cons, List.map_nil]
  go_enter Try.func37, Try.ntmps37
  go_wp2
  refine bodyPost_ret (cell_out _ w.heap.size 4 86 _ _ _ rfl rfl (run_loadVar_row _ w.heap.size 86 86 _ (0, 0) _ (heap_alloc_new w _) Try.underlying86 rfl (by kernel_rfl))) rfl ⟨rfl, box_belowT w _⟩
def MadeEnd (g : Gr) (u : List Int) (m : Nat) (wa : Option Addr) (wc : Nat) (w : World) (e : Ending) (w' : World) : Prop :=
  Below w.heap.size w w' ∧ ∃ (C M1 M2 : Nat) (pa : Option Addr) (pc : Nat) (ls : List Lay), e = .returned (.pointer (some ⟨C, 0, none⟩)) ∧ Ctr g.prods u m C M1 M2 pa pc wa wc ls w' ∧ w.heap.size ≤ M1 ∧ w.heap.size ≤ M2
set_option maxRecDepth 100000 in
set_option maxHeartbeats 1000000 in
theorem newCounter_any (v : Value) (g : Gr) (wa : Option Addr) (wc : Nat) (u : List Int) (m : Nat) (w : World) (hg : GramAt w v g) (hu : Cells w wa (nums u)) (hl : g.prods.length ≤ 1000) :
    Calls Try.prog 35 #[v, .slice wa u.length wc, .int .i64 m] w (MadeEnd g u m wa wc w) := by
  obtain ⟨a1, a2, a3, c1, c2, c3, ls, rfl, hp, k1, k2, k3, k4, k5, k6, k7⟩ := hg
  obtain ⟨hbS, hsS, q0⟩ := one_alloc w (.cells #[.slice a1 g.terms.length c1, .slice a2 g.nons.length c2, .slice a3 ls.length c3] 25)
  have H3 := Lib.hid (k3.below hbS)
  have H4 := Lib.hid (fun p hp => (k4 p hp).below hbS)
  have HU := Lib.hid (hu.below hbS)
  have HP := Lib.hid hp
  have HB := Lib.hid hbS
  have y2 := (blk_cell (i := 2) (u := .slice a3 ls.length c3) q0 rfl).1
  have l0 := heap_lt q0
  clear hp k1 k2 k3 k4 k5 k6 k7 hu q0 hsS hbS hl
  have hmm := @run_makeMap Try.prog
  go_enter Try.func35, Try.ntmps35
  go_upto_region 1 with fail
  generalize w.alloc (.cells #[.slice a1 g.terms.length c1, .slice a2 g.nons.length c2, .slice a3 ls.length c3] 25) = S at *
  go_wp2
  go_ret
  have hb1 := box_belowT S (.map #[] 0)
  have hb2 := box_belowT (S.alloc (.map #[] 0)) (.map #[] 0)
  have hb3 := box_belowT ((S.alloc (.map #[] 0)).alloc (.map #[] 0)) (.cells #[.slice a3 ls.length c3, .slice wa u.length wc, .int .i64 m, .map (some S.heap.size), .map (some (S.heap.size + 1))] 104)
  have s1 : (S.alloc (.map #[] 0)).heap.size = S.heap.size + 1 := by simp
  have s2 : ((S.alloc (.map #[] 0)).alloc (.map #[] 0)).heap.size = S.heap.size + 2 := by simp
  have hb12 := hb1.trans (hb2.mono (by omega))
  have hb13 := hb12.trans (hb3.mono (by omega))
  have q := heap_alloc_new ((S.alloc (.map #[] 0)).alloc (.map #[] 0)) (.cells #[.slice a3 ls.length c3, .slice wa u.length wc, .int .i64 m, .map (some S.heap.size), .map (some (S.heap.size + 1))] 104)
  have hm1 := (MapM.made S Try.prog 86 codeG).below (base := S.heap.size + 1) ((hb2.mono (by omega)).trans (hb3.mono (by omega))) (by omega)
  have hm2 := MapM.made (S.alloc (.map #[] 0)) Try.prog 108 codeR
  rw [s1] at hm2
  replace hm2 := hm2.below (base := S.heap.size + 2) (hb3.mono (by omega)) (by omega)
  rw [s2] at q
  refine ⟨HB.out.trans (hb13.mono HB.out.size), S.heap.size + 2, S.heap.size, S.heap.size + 1, a3, c3, ls, ?_, ⟨q, HP.out, H3.out.below hb13, fun p hp => (H4.out p hp).below hb13, HU.out.below hb13, ⟨_, hm1, fun q v h => by cases h⟩, ⟨_, hm2, fun q v h => by cases h⟩, by omega⟩, HB.out.size, by have := HB.out.size; omega⟩
  rfl
set_option maxRecDepth 100000 in
set_option maxHeartbeats 4000000 in
theorem count_any (v : Value) (g : Gr) (root : Int) (wa : Option Addr) (wc : Nat) (u : List Int) (m : Int) (w : World) (hg : GramAt w v g) (hm : MidG g) (hr : wideI root) (hu : Cells w wa (nums u)) (hul : u.length ≤ 1000000000000) (huw : ∀ s ∈ u, wideI s) :
    Calls Try.prog 12 #[v, .int .i64 root, .slice wa u.length wc, .int .i64 m] w fun e w' => e = .returned (.int .i64 (cntI g root u m)) ∧ Below w.heap.size w w' := by
  have HG0 := Lib.hid hg
  obtain ⟨a1, a2, a3, c1, c2, c3, ls, rfl, hp, k1, k2, k3, k4, k5, k6, k7⟩ := hg
  obtain ⟨hbS, hsS, q0⟩ := one_alloc w (.cells #[.slice a1 g.terms.length c1, .slice a2 g.nons.length c2, .slice a3 ls.length c3] 25)
  have HG := Lib.hid (HG0.out.below hbS)
  have HU := Lib.hid (hu.below hbS)
  have HB := Lib.hid hbS
  have HQ := Lib.hid q0
  have HA := Lib.hid fun W (hW : GramAt W (.agg #[.slice a1 g.terms.length c1, .slice a2 g.nons.length c2, .slice a3 ls.length c3]) g) (hU : Cells W wa (nums u)) => asked_any _ g root wa wc u m W hW hm hr hU hul huw
  clear hp k1 k2 k3 k4 k5 k6 k7 HG0 hsS q0 hbS hu huw hr hm
  by_cases hA : AskP g root u m
  · obtain ⟨M, rfl⟩ : ∃ M : Nat, m = M := Int.eq_ofNat_of_zero_le hA.2.2.2.1
    have hok := okD_of hA
    rw [Int.toNat_natCast] at hok
    have HV := Lib.hid (show cntI g root u (M : Int) = ((num M g.prods u (wholeJ u root) : Nat) : Int) by unfold cntI; rw [if_pos (askB_true hA), Int.toNat_natCast])
    rw [HV.out, askB_true hA] at *
    have HNC := Lib.hid fun W (hW : GramAt W (.agg #[.slice a1 g.terms.length c1, .slice a2 g.nons.length c2, .slice a3 ls.length c3]) g) (hU : Cells W wa (nums u)) => newCounter_any _ g wa wc u M W hW hU hok.len
    have HW := Lib.hid fun W => whole_any root wa wc u W hok.ul
    have HR := Lib.hid (root_in hA)
    have HOK := Lib.hid hok
    clear hA hok HV
    go_enter Try.func12, Try.ntmps12
    go_upto_region 1 with fail
    generalize w.alloc (.cells #[.slice a1 g.terms.length c1, .slice a2 g.nons.length c2, .slice a3 ls.length c3] 25) = S at *
    have g0 := (blk_cell (i := 0) HQ.out rfl).1
    have g1 := (blk_cell (i := 1) HQ.out rfl).1
    have g2 := (blk_cell (i := 2) HQ.out rfl).1
    have l0 := heap_lt HQ.out
    go_upto_region 3 with (go_at_call 34; (with_reducible refine (HA.out _ HG.out HU.out).mono ?_); rintro e w2 ⟨rfl, hb2⟩)
    have HQ2 := Lib.hid ((hb2.block _ l0).trans HQ.out)
    have HG2 := Lib.hid (HG.out.below hb2)
    have HU2 := Lib.hid (HU.out.below hb2)
    have HB2 := Lib.hid (HB.out.trans (hb2.mono HB.out.size))
    clear g0 g1 g2 l0 hb2
    have g0 := (blk_cell (i := 0) HQ2.out rfl).1
    have g1 := (blk_cell (i := 1) HQ2.out rfl).1
    have g2 := (blk_cell (i := 2) HQ2.out rfl).1
    have l0 := heap_lt HQ2.out
    go_wp2_with (first
      | (go_at_call 35; (with_reducible refine (HNC.out _ HG2.out HU2.out).mono ?_); rintro e w3 ⟨hb3, C, M1, M2, pa, pc, ls', rfl, hc3, hM1, hM2⟩; have HB3 := Lib.hid (HB2.out.trans (hb3.mono HB2.out.size)); have HC3 := Lib.hid hc3; have HM := Lib.hid (⟨Nat.le_trans HB2.out.size hM1, Nat.le_trans HB2.out.size hM2⟩ : w.heap.size ≤ M1 ∧ w.heap.size ≤ M2); clear hc3 hM1 hM2)
      | (go_at_call 37; (with_reducible refine (HW.out _).mono ?_); rintro e w4 ⟨rfl, hb4⟩; have HC4 := Lib.hid (HC3.out.below hb4); have HB4 := Lib.hid (HB3.out.trans (hb4.mono HB3.out.size)))
      | (go_at_call 36; (with_reducible refine (trees_any HOK.out root _ HR.out (inD_whole u) HC4.out).mono ?_); rintro e w5 ⟨rfl, hk5, _⟩; have HB5 := Lib.hid (HB4.out.trans (hk5.out HM.out.1 HM.out.2 HB4.out.size))))
    go_ret
    exact ⟨rfl, HB5.out⟩
  · have HV := Lib.hid (show cntI g root u m = 0 by unfold cntI; rw [askB_false hA]; rfl)
    rw [HV.out, askB_false hA] at *
    clear hA HV
    go_enter Try.func12, Try.ntmps12
    go_upto_region 1 with fail
    generalize w.alloc (.cells #[.slice a1 g.terms.length c1, .slice a2 g.nons.length c2, .slice a3 ls.length c3] 25) = S at *
    have g0 := (blk_cell (i := 0) HQ.out rfl).1
    have g1 := (blk_cell (i := 1) HQ.out rfl).1
    have g2 := (blk_cell (i := 2) HQ.out rfl).1
    have l0 := heap_lt HQ.out
    go_wp2_with (go_at_call 34; (with_reducible refine (HA.out _ HG.out HU.out).mono ?_); rintro e w2 ⟨rfl, hb2⟩; have HB2 := Lib.hid (HB.out.trans (hb2.mono HB.out.size)))
    go_ret
    exact ⟨rfl, HB2.out⟩
/-- Can it be derived? -/
noncomputable def canB (g : Gr) (root : Int) (u : List Int) : Bool := decide (cntI g root u 1 = 1)
theorem canB_iff {g : Gr} {root : Int} {u : List Int} : canB g root u = true ↔ AskP g root u 1 ∧ Sp.DerF g.prods [root] u := by
  unfold canB
  rw [decide_eq_true_eq]
  unfold cntI
  by_cases h : AskP g root u 1
  · rw [if_pos (askB_true h)]
    have := can_iff g.prods u (okD_of h).six root
    constructor
    · intro h1
      exact ⟨h, this.1 (by have : (num (1 : Int).toNat g.prods u (wholeJ u root)) = 1 := by omega
                           exact this)⟩
    · intro h1
      have h2 : num (1 : Int).toNat g.prods u (wholeJ u root) = 1 := this.2 h1.2
      omega
  · rw [askB_false h]
    constructor
    · intro h1; simp at h1
    · intro h1; exact absurd h1.1 h
set_option maxRecDepth 100000 in
set_option maxHeartbeats 4000000 in
theorem can_calls (v : Value) (g : Gr) (root : Int) (wa : Option Addr) (wc : Nat) (u : List Int) (w : World) (hg : GramAt w v g) (hm : MidG g) (hr : wideI root) (hu : Cells w wa (nums u)) (hul : u.length ≤ 1000000000000) (huw : ∀ s ∈ u, wideI s) :
    Calls Try.prog 13 #[v, .int .i64 root, .slice wa u.length wc] w fun e w' => e = .returned (.bool (canB g root u)) ∧ Below w.heap.size w w' := by
  have HG0 := Lib.hid hg
  obtain ⟨a1, a2, a3, c1, c2, c3, ls, rfl, hp, k1, k2, k3, k4, k5, k6, k7⟩ := hg
  obtain ⟨hbS, hsS, q0⟩ := one_alloc w (.cells #[.slice a1 g.terms.length c1, .slice a2 g.nons.length c2, .slice a3 ls.length c3] 25)
  have HG := Lib.hid (HG0.out.below hbS)
  have HU := Lib.hid (hu.below hbS)
  have HB := Lib.hid hbS
  have HA := Lib.hid fun W (hW : GramAt W (.agg #[.slice a1 g.terms.length c1, .slice a2 g.nons.length c2, .slice a3 ls.length c3]) g) (hU : Cells W wa (nums u)) => count_any _ g root wa wc u 1 W hW hm hr hU hul huw
  clear hp k1 k2 k3 k4 k5 k6 k7 HG0 hsS hbS hu huw hr hm
  unfold canB
  generalize cntI g root u 1 = N at *
  go_enter Try.func13, Try.ntmps13
  go_upto_region 1 with fail
  generalize w.alloc (.cells #[.slice a1 g.terms.length c1, .slice a2 g.nons.length c2, .slice a3 ls.length c3] 25) = S at *
  have g0 := (blk_cell (i := 0) q0 rfl).1
  have g1 := (blk_cell (i := 1) q0 rfl).1
  have g2 := (blk_cell (i := 2) q0 rfl).1
  have l0 := heap_lt q0
  by_cases hN : N = 1
  · have e1 : (N == 1) = true := beq_iff_eq.2 hN
    have HD := Lib.hid (decide_eq_true hN)
    clear hN
    go_wp2_with (go_at_call 12; (with_reducible refine (HA.out _ HG.out HU.out).mono ?_); rintro e w2 ⟨rfl, hb2⟩; have HB2 := Lib.hid (HB.out.trans (hb2.mono HB.out.size)))
    go_ret
    exact ⟨congrArg (fun b => Ending.returned (.bool b)) HD.out.symm, HB2.out⟩
  · have e1 : (N == 1) = false := beq_eq_false_iff_ne.2 hN
    have HD := Lib.hid (decide_eq_false hN)
    clear hN
    go_wp2_with (go_at_call 12; (with_reducible refine (HA.out _ HG.out HU.out).mono ?_); rintro e w2 ⟨rfl, hb2⟩; have HB2 := Lib.hid (HB.out.trans (hb2.mono HB.out.size)))
    go_ret
    exact ⟨congrArg (fun b => Ending.returned (.bool b)) HD.out.symm, HB2.out⟩
end Go.Proofs.Ytgfkkbpnphbdgaa
namespace Go.Proofs.Ytgfkkbpnphbdgaa
open Go.RowKit
open Doc Dr

def bw9 : Gr := ⟨[[97]], [[83]], [(100, [100, 100]), (100, [1])]⟩
theorem bw9_parse : parse (textsL.getD (17 + ((0 : Int) % 10).toNat) []) = .ok bw9 := by decide +kernel
theorem bw9_check : CheckG bw9 := (chk_iff bw9).1 (by decide +kernel)
theorem cnt_is {g : Gr} {root : Int} {u : List Int} {M n : Nat} (hA : AskP g root u M) (hn : num M g.prods u (wholeJ u root) = n) : cntI g root u M = n := by
  unfold cntI; rw [if_pos (askB_true hA), Int.toNat_natCast, hn]
theorem can_is {g : Gr} {root : Int} {u : List Int} {n : Nat} (hA : AskP g root u 1) (hn : num 1 g.prods u (wholeJ u root) = n) : canB g root u = decide (n = 1) := by
  have h : cntI g root u 1 = ((n : Nat) : Int) := cnt_is (M := 1) hA hn
  unfold canB
  rw [h]
  by_cases e : n = 1
  · subst e; rfl
  · rw [decide_eq_false e, decide_eq_false (by omega)]
theorem ask_is {g : Gr} {root : Int} {u : List Int} {m : Int} (h : CheckG g) (h1 : symB g root = true) (h2 : u.length ≤ 12) (h3 : 0 ≤ m ∧ m ≤ 200) (h4 : u.all (symB g) = true) : AskP g root u m := ⟨h, h1, h2, h3.1, h3.2, fun s hs => List.all_eq_true.1 h4 s hs⟩
/-- What Count tells of a grammar that is known, at a literal form. -/
theorem count_at {g : Gr} (hc : CheckG g) {v : Value} {root : Int} {u : List Int} {M n k c : Nat} {a : Option Addr} {W : World} (hg : GramAt W v g) (hu : Cells W a (nums u)) (hk : u.length = k) (hA : AskP g root u M) (hn : num M g.prods u (wholeJ u root) = n) :
    Calls Try.prog 12 #[v, .int .i64 root, .slice a k c, .int .i64 (M : Int)] W fun e w' => e = .returned (.int .i64 (n : Int)) ∧ Below W.heap.size W w' := by
  subst hk
  have h12 := hA.2.2.1
  have hw : ∀ s, symB g s = true → wideI s := fun s hs => by
    have := (symB_iff g s).1 hs
    have := hc.t8; have := hc.n8
    unfold symOk at *; unfold wideI; omega
  exact (count_any v g root a c u M W hg (check_tiny hc).mid (hw _ hA.2.1) hu (by omega) (fun s hs => hw s (hA.2.2.2.2.2 s hs))).mono fun e w' h => ⟨h.1.trans (by rw [cnt_is hA hn]), h.2⟩
theorem can_at {g : Gr} (hc : CheckG g) {v : Value} {root : Int} {u : List Int} {n k c : Nat} {a : Option Addr} {W : World} (hg : GramAt W v g) (hu : Cells W a (nums u)) (hk : u.length = k) (hA : AskP g root u 1) (hn : num 1 g.prods u (wholeJ u root) = n) :
    Calls Try.prog 13 #[v, .int .i64 root, .slice a k c] W fun e w' => e = .returned (.bool (decide (n = 1))) ∧ Below W.heap.size W w' := by
  subst hk
  have h12 := hA.2.2.1
  have hw : ∀ s, symB g s = true → wideI s := fun s hs => by
    have := (symB_iff g s).1 hs
    have := hc.t8; have := hc.n8
    unfold symOk at *; unfold wideI; omega
  exact (can_calls v g root a c u W hg (check_tiny hc).mid (hw _ hA.2.1) hu (by omega) (fun s hs => hw s (hA.2.2.2.2.2 s hs))).mono fun e w' h => ⟨h.1.trans (by rw [can_is hA hn]), h.2⟩
theorem w9a : num 9 bw9.prods [1, 1, 1] (wholeJ [1, 1, 1] 100) = 2 := by decide +kernel
theorem w9b : num 1 bw9.prods [1] (wholeJ [1] 100) = 1 := by decide +kernel
theorem w9c : num 1 bw9.prods [] (wholeJ [] 100) = 0 := by decide +kernel
set_option maxRecDepth 100000 in
set_option maxHeartbeats 1000000 in
theorem wakes9_any (w : World) : Calls Try.prog 16 #[] w fun e w' => e = .returned (.bool true) ∧ Below w.heap.size w w' := by
  have HGO := Lib.hid ((bad_any 0 w).mono fun e w' ⟨hb, ts, ns, ls, at_, an, ap, ct, cn, cp, he, hr, hp⟩ => (by
    rw [bw9_parse] at hp
    have hg : bw9 = ⟨ts, ns, ls.map Lay.plain⟩ := End.ok.inj hp
    exact ⟨hb, at_, an, ap, _, _, _, ct, cn, cp, he, by rw [hg]; exact hr.gram⟩ : Below w.heap.size w w' ∧ ∃ (at_ an ap : Option Addr) (n1 n2 n3 ct cn cp : Nat), e = Ending.returned (.agg #[.slice at_ n1 ct, .slice an n2 cn, .slice ap n3 cp]) ∧ GramAt w' (.agg #[.slice at_ n1 ct, .slice an n2 cn, .slice ap n3 cp]) bw9))
  have HC := Lib.hid (show ∀ (v : Value) (a : Option Addr) W (hg : GramAt W v bw9) (hu : Cells W a (nums [1, 1, 1])), Calls Try.prog 12 #[v, .int .i64 100, .slice a 3 3, .int .i64 9] W fun e w' => e = .returned (.int .i64 2) ∧ Below W.heap.size W w' from fun v a W hg hu => count_at bw9_check (c := 3) hg hu rfl (ask_is bw9_check (by decide) (by decide) (by decide) (by decide)) w9a)
  have HD := Lib.hid (show ∀ (v : Value) (a : Option Addr) W (hg : GramAt W v bw9) (hu : Cells W a (nums [1])), Calls Try.prog 13 #[v, .int .i64 100, .slice a 1 1] W fun e w' => e = .returned (.bool true) ∧ Below W.heap.size W w' from fun v a W hg hu => can_at bw9_check (c := 1) hg hu rfl (ask_is bw9_check (by decide) (by decide) (by decide) (by decide)) w9b)
  have HE := Lib.hid (show ∀ (v : Value) W (hg : GramAt W v bw9), Calls Try.prog 13 #[v, .int .i64 100, .slice none 0 0] W fun e w' => e = .returned (.bool false) ∧ Below W.heap.size W w' from fun v W hg => can_at bw9_check (c := 0) hg (.inl rfl) rfl (ask_is bw9_check (by decide) (by decide) (by decide) (by decide)) w9c)
  go_enter Try.func16, Try.ntmps16
  go_upto_region 2 with (go_at_call 10; refine HGO.out.mono ?_; rintro e w2 ⟨hb2, at_, an, ap, n1, n2, n3, ct, cn, cp, rfl, hg2⟩)
  have hbA := box_belowT w2 (.cells #[.slice at_ n1 ct, .slice an n2 cn, .slice ap n3 cp] 25)
  have HQ := Lib.hid (heap_alloc_new w2 (.cells #[.slice at_ n1 ct, .slice an n2 cn, .slice ap n3 cp] 25))
  have HG := Lib.hid (hg2.below hbA)
  have HB := Lib.hid (hb2.trans (hbA.mono hb2.size))
  clear hb2 hg2 HGO hbA
  generalize w2.alloc (.cells #[.slice at_ n1 ct, .slice an n2 cn, .slice ap n3 cp] 25) = S at *
  generalize w2.heap.size = B at *
  have g0 := (blk_cell (i := 0) HQ.out rfl).1
  have g1 := (blk_cell (i := 1) HQ.out rfl).1
  have g2 := (blk_cell (i := 2) HQ.out rfl).1
  have l0 := heap_lt HQ.out
  go_wp2_with (first
    | (go_at_call 12; (with_reducible refine (HC.out _ (some ⟨S.heap.size, 0, none⟩) (S.alloc (.cells #[.int .i64 1, .int .i64 1, .int .i64 1] 3)) (HG.out.below (box_belowT S _)) (cells_new S _ _)).mono ?_); rintro e w3 ⟨rfl, hb3⟩; have HB3 := Lib.hid (((box_belowT S (.cells #[.int .i64 1, .int .i64 1, .int .i64 1] 3))).trans (hb3.mono (box_belowT S _).size)); have HQ3 := Lib.hid ((HB3.out.block _ l0).trans HQ.out); have HG3 := Lib.hid (HG.out.below HB3.out); have y0 := (blk_cell (i := 0) HQ3.out rfl).1; have y1 := (blk_cell (i := 1) HQ3.out rfl).1; have y2 := (blk_cell (i := 2) HQ3.out rfl).1; have ly := heap_lt HQ3.out; clear hb3)
    | (go_at_call 13; (with_reducible refine (HD.out _ (some ⟨w3.heap.size, 0, none⟩) (w3.alloc (.cells #[.int .i64 1] 3)) (HG3.out.below (box_belowT w3 _)) (cells_new w3 _ _)).mono ?_); rintro e w4 ⟨rfl, hb4⟩; have HB4 := Lib.hid (((box_belowT w3 (.cells #[.int .i64 1] 3))).trans (hb4.mono (box_belowT w3 _).size)); have HQ4 := Lib.hid ((HB4.out.block _ ly).trans HQ3.out); have HG4 := Lib.hid (HG3.out.below HB4.out); have z0 := (blk_cell (i := 0) HQ4.out rfl).1; have z1 := (blk_cell (i := 1) HQ4.out rfl).1; have z2 := (blk_cell (i := 2) HQ4.out rfl).1; have lz := heap_lt HQ4.out; clear hb4)
    | (go_at_call 13; (with_reducible refine (HE.out _ w4 HG4.out).mono ?_); rintro e w5 ⟨rfl, hb5⟩; have HB5 := Lib.hid hb5))
  go_ret
  exact ⟨rfl, HB.out.trans ((HB3.out.trans ((HB4.out.trans (HB5.out.mono HB4.out.size)).mono HB3.out.size)).mono HB.out.size)⟩
end Go.Proofs.Ytgfkkbpnphbdgaa
