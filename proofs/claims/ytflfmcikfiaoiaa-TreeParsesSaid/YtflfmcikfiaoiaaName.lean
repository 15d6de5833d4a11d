/- gram.Name: walked. -/
import Derived.Test.YtflfmcikfiaoiaaChk
import Derived.Test.YtflfmcikfiaoiaaCut
namespace Go.Proofs.Ytflfmcikfiaoiaa
open Go.RowKit
open Doc

set_option maxHeartbeats 1000000 in
theorem gname_any (v : Value) (g : Gr) (s : Int) (w : World) (hg : GramAt w v g) (hs : s ≤ maxI) (ht : ∀ x ∈ g.terms, x.length ≤ 1000000) (hn : ∀ x ∈ g.nons, x.length ≤ 1000000) :
    Calls Try.prog 149 #[v, .int .i64 s] w fun e w' => e = .returned (.string ⟨(nameG g s).toArray⟩) ∧ Below w.heap.size w w' := by
  have hg0 := hg
  obtain ⟨a1, a2, a3, c1, c2, c3, ls, rfl, hp, h1, h2, h3, h4, _⟩ := hg
  unfold maxI at hs
  have hS : Below w.heap.size w (w.alloc (.cells #[.slice a1 g.terms.length c1, .slice a2 g.nons.length c2, .slice a3 ls.length c3] 28)) := (Below.refl _ _).alloc (Nat.le_refl _) _
  have f0 := heap_alloc_new w (.cells #[.slice a1 g.terms.length c1, .slice a2 g.nons.length c2, .slice a3 ls.length c3] 28)
  have HIT := Lib.hid (isTerm_any _ g s _ (hg0.below hS))
  have HIN := Lib.hid fun W (hW : Below (w.alloc (.cells #[.slice a1 g.terms.length c1, .slice a2 g.nons.length c2, .slice a3 ls.length c3] 28)).heap.size (w.alloc (.cells #[.slice a1 g.terms.length c1, .slice a2 g.nons.length c2, .slice a3 ls.length c3] 28)) W) => isNon_any _ g s W ((hg0.below hS).below hW) hs
  have H1 := Lib.hid (h1.below hS)
  have H2 := Lib.hid (h2.below hS)
  have HS := Lib.hid hS
  have HF := Lib.hid f0
  have HT := Lib.hid ht
  have HN := Lib.hid hn
  clear hg0 hS f0 h1 h2 h3 h4 ht hn
  by_cases h0 : s = 0
  · subst h0
    go_enter Try.func149, Try.ntmps149
    go_wp2
    go_ret
    exact ⟨rfl, HS.out⟩
  · have h0b : (s == 0) = false := by simpa using h0
    cases hb : termB g s with
    | true =>
      have hst : 1 ≤ s ∧ s ≤ (g.terms.length : Int) := by unfold termB at hb; simpa using hb
      obtain ⟨t1, t2⟩ := hst
      have hk : (s - 1).toNat < g.terms.length := by omega
      have HR := Lib.hid (show nameG g s = g.terms[(s - 1).toNat] by
        unfold nameG; rw [if_neg h0, if_pos ⟨t1, t2⟩, List.getD_eq_getElem?_getD, List.getElem?_eq_getElem hk]; rfl)
      obtain ⟨b, off, rfl, hbl, hc⟩ := H1.out.get (by unfold strs; intro e; rw [List.map_eq_nil_iff] at e; rw [e] at hk; simp at hk)
      have hx := hc _ _ (strs_at (List.getElem?_eq_getElem hk))
      have hxl := HT.out _ (List.getElem_mem hk)
      have i1 : (0 : Int) ≤ s - 1 := by omega
      have i2 : s - 1 < (g.terms.length : Int) := by omega
      generalize g.terms[(s - 1).toNat] = x at *
      generalize hkk : (s - 1).toNat = kk at *
      have HX := Lib.hid hx
      have HCL := Lib.hid fun W => clone_any ⟨x.toArray⟩ W hxl
      clear hc hx h0
      go_enter Try.func149, Try.ntmps149
      go_wp2_with (first
        | (go_at_call 159; refine HIT.out.mono ?_; rintro e w2 ⟨rfl, hb2⟩; simp only [hb]
           have q0 := (blk_cell (i := 0) ((hb2.block _ (heap_lt HF.out)).trans HF.out) rfl).1
           have q1 := (hb2.cell (p := ⟨b, off + kk, none⟩) hbl).trans HX.out)
        | (go_at_call 172; refine (HCL.out _).mono ?_; rintro e w3 ⟨rfl, hb3⟩))
      go_ret
      have h5 := HS.out.trans (hb2.mono HS.out.size)
      exact ⟨by rw [HR.out]; rfl, h5.trans (hb3.mono h5.size)⟩
    | false =>
      have hnt : ¬ (1 ≤ s ∧ s ≤ (g.terms.length : Int)) := by unfold termB at hb; simpa using hb
      cases hb2 : nonB g s with
      | true =>
        have hst : 100 ≤ s ∧ s < 100 + (g.nons.length : Int) := by unfold nonB at hb2; simpa using hb2
        obtain ⟨t1, t2⟩ := hst
        have hk : (s - 100).toNat < g.nons.length := by omega
        have HR := Lib.hid (show nameG g s = g.nons[(s - 100).toNat] by
          unfold nameG; rw [if_neg h0, if_neg hnt, if_pos ⟨t1, t2⟩, List.getD_eq_getElem?_getD, List.getElem?_eq_getElem hk]; rfl)
        obtain ⟨b, off, rfl, hbl, hc⟩ := H2.out.get (by unfold strs; intro e; rw [List.map_eq_nil_iff] at e; rw [e] at hk; simp at hk)
        have hx := hc _ _ (strs_at (List.getElem?_eq_getElem hk))
        have hxl := HN.out _ (List.getElem_mem hk)
        have i1 : (0 : Int) ≤ s - 100 := by omega
        have i2 : s - 100 < (g.nons.length : Int) := by omega
        generalize g.nons[(s - 100).toNat] = x at *
        generalize hkk : (s - 100).toNat = kk at *
        have HX := Lib.hid hx
        have HCL := Lib.hid fun W => clone_any ⟨x.toArray⟩ W hxl
        clear hc hx h0 hnt
        go_enter Try.func149, Try.ntmps149
        go_wp2_with (first
          | (go_at_call 159; refine HIT.out.mono ?_; rintro e w2 ⟨rfl, hw2⟩; simp only [hb]
             have hq := (hw2.block _ (heap_lt HF.out)).trans HF.out
             have q0 := (blk_cell (i := 0) hq rfl).1
             have q1 := (blk_cell (i := 1) hq rfl).1
             have q2 := (blk_cell (i := 2) hq rfl).1)
          | (go_at_call 158; refine (HIN.out _ hw2).mono ?_; rintro e w3 ⟨rfl, hw3⟩; simp only [hb2]
             have hq3 := (hw3.block _ (heap_lt hq)).trans hq
             have q13 := (blk_cell (i := 1) hq3 rfl).1
             have qx := (hw3.cell (p := ⟨b, off + kk, none⟩) (Nat.lt_of_lt_of_le hbl hw2.size)).trans ((hw2.cell (p := ⟨b, off + kk, none⟩) hbl).trans HX.out))
          | (go_at_call 172; refine (HCL.out _).mono ?_; rintro e w4 ⟨rfl, hw4⟩))
        go_ret
        have h5 := HS.out.trans (hw2.mono HS.out.size)
        have h6 := h5.trans (hw3.mono h5.size)
        exact ⟨by rw [HR.out]; rfl, h6.trans (hw4.mono h6.size)⟩
      | false =>
        have hnn : ¬ (100 ≤ s ∧ s < 100 + (g.nons.length : Int)) := by unfold nonB at hb2; simpa using hb2
        have HR := Lib.hid (show nameG g s = [] by unfold nameG; rw [if_neg h0, if_neg hnt, if_neg hnn])
        clear h0 hnt hnn
        go_enter Try.func149, Try.ntmps149
        go_wp2_with (first
          | (go_at_call 159; refine HIT.out.mono ?_; rintro e w2 ⟨rfl, hw2⟩; simp only [hb]
             have hq := (hw2.block _ (heap_lt HF.out)).trans HF.out
             have q0 := (blk_cell (i := 0) hq rfl).1
             have q1 := (blk_cell (i := 1) hq rfl).1
             have q2 := (blk_cell (i := 2) hq rfl).1)
          | (go_at_call 158; refine (HIN.out _ hw2).mono ?_; rintro e w3 ⟨rfl, hw3⟩; simp only [hb2]))
        go_ret
        have h5 := HS.out.trans (hw2.mono HS.out.size)
        exact ⟨by rw [HR.out]; rfl, h5.trans (hw3.mono h5.size)⟩

end Go.Proofs.Ytflfmcikfiaoiaa
