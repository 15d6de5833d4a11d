/- gram.Print: walked. -/
import Derived.Test.YtjlohjkhnjemaaaPrintT
import Derived.Test.YtjlohjkhnjemaaaWake
namespace Go.Proofs.Ytjlohjkhnjemaaa
open Go.RowKit
open Doc

theorem fits_checkP {g : Gr} (h : CheckG g) : Fits g := ⟨by have := h.t8; omega, by have := h.n8; omega, by have := h.p24; omega, fun p hp => by have := (h.pv p hp).2.1; omega⟩
theorem small_checkP {g : Gr} (h : CheckG g) : SmallG g := by
  intro p hp
  have h1 := h.pv p hp
  have h8 := h.t8
  have n8 := h.n8
  unfold maxI
  refine ⟨by omega, fun s hs => ?_⟩
  have := h1.2.2 s hs
  unfold symOk at this
  omega

/-- An error is not OK. -/
theorem names_err : ∀ (l : List Ru) (ns : List (List UInt8)) (e : Nat × Nat × Nat), namesF l ns = .inr e → e.2.2 ≠ 0
  | [], _, _, h => by cases h
  | r :: l, ns, e, h => by
    simp only [namesF] at h
    split at h
    · cases h; simp
    · split at h
      · cases h; simp
      · exact names_err l _ e h
theorem parts_err (nons : List (List UInt8)) (left : Int) : ∀ (l : List Tok) (ts : List (List UInt8)) (ps : List (Int × List Int)) (r : List Int) (b : Tok) (e : Nat × Nat × Nat), partsF nons left l ts ps r b = .inr e → e.2.2 ≠ 0
  | [], _, _, _, _, _, h => by cases h
  | t :: l, ts, ps, r, b, e, h => by
    simp only [partsF] at h
    split at h
    · split at h
      · cases h; simp
      · split at h
        · split at h
          · cases h; simp
          · exact parts_err nons left l _ _ _ _ e h
        · split at h
          · exact parts_err nons left l _ _ _ _ e h
          · split at h
            · cases h; simp
            · exact parts_err nons left l _ _ _ _ e h
    · split at h
      · cases h; simp
      · split at h
        · cases h; simp
        · exact parts_err nons left l _ _ _ _ e h
theorem bodies_err (nons : List (List UInt8)) : ∀ (l : List Ru) (i : Nat) (ts : List (List UInt8)) (ps : List (Int × List Int)) (e : Nat × Nat × Nat), bodiesF nons l i ts ps = .inr e → e.2.2 ≠ 0
  | [], _, _, _, _, h => by cases h
  | r :: l, i, ts, ps, e, h => by
    simp only [bodiesF] at h
    split at h
    · rename_i e' he
      cases h
      exact parts_err nons _ _ _ _ _ _ _ he
    · exact bodies_err nons l _ _ _ e h
theorem parse_err {t : List UInt8} {l c x : Nat} (h : parse t = .bad l c x) : x ≠ 0 := by
  unfold parse at h
  split at h
  · cases h; decide
  · split at h
    · cases h; decide
    · split at h
      · cases h; decide
      · split at h
        · rename_i a b e he
          cases h
          exact names_err _ _ _ he
        · split at h
          · rename_i a b e he
            cases h
            exact bodies_err _ _ _ _ _ _ he
          · split at h
            · cases h; decide
            · cases h

def printS (g : Gr) : List UInt8 := if ChkP g ∧ parse (writeT g) = .ok g then writeT g else []
def printE (g : Gr) : Int := if ChkP g ∧ parse (writeT g) = .ok g then 0 else 1

set_option maxRecDepth 100000 in
set_option maxHeartbeats 2000000 in
theorem print_any (v : Value) (g : Gr) (w : World) (hg : GramAt w v g) (hf : Fits g) (hs : SmallG g) (ht : ∀ x ∈ g.terms, x.length ≤ 1000000) (hn : ∀ x ∈ g.nons, x.length ≤ 1000000) :
    Calls Try.prog 13 #[v] w fun e w' => e = .returned (.tuple #[.string ⟨(printS g).toArray⟩, .int .i64 (printE g)]) ∧ Below w.heap.size w w' := by
  have hg0 := hg
  obtain ⟨a1, a2, a3, c1, c2, c3, ls, rfl, hp, _⟩ := hg
  have hS : Below w.heap.size w (w.alloc (.cells #[.slice a1 g.terms.length c1, .slice a2 g.nons.length c2, .slice a3 ls.length c3] 28)) := (Below.refl _ _).alloc (Nat.le_refl _) _
  have f0 := heap_alloc_new w (.cells #[.slice a1 g.terms.length c1, .slice a2 g.nons.length c2, .slice a3 ls.length c3] 28)
  have hck := chk_any _ g _ (hg0.below hS) hf hs (fun x hx => by have := ht x hx; unfold maxLen; omega) (fun x hx => by have := hn x hx; unfold maxLen; omega)
  have HF0 := Lib.hid f0
  have HS := Lib.hid hS
  have HG := Lib.hid (hg0.below hS)
  clear hg0 hS f0
  by_cases hc : ChkP g
  · have hcg := (chk_iff g).1 hc
    have hci : chkI g = 0 := if_pos hc
    rw [hci] at hck
    have HCK := Lib.hid hck
    have HWR := Lib.hid fun W (hW : Below (w.alloc (.cells #[.slice a1 g.terms.length c1, .slice a2 g.nons.length c2, .slice a3 ls.length c3] 28)).heap.size (w.alloc (.cells #[.slice a1 g.terms.length c1, .slice a2 g.nons.length c2, .slice a3 ls.length c3] 28)) W) => write_any _ g W (HG.out.below hW) hf hs ht hn (write_len hcg)
    have hwl := write_len hcg
    have HFG := Lib.hid (fits_checkP hcg)
    clear hck hci hcg
    cases hpr : parse (writeT g) with
    | bad l c x =>
      have hpb := fun W => parse_no ⟨(writeT g).toArray⟩ l c x W hwl hpr
      have HPA := Lib.hid hpb
      have hx : x ≠ 0 := parse_err hpr
      have hx0 : ((x : Int) != 0) = true := by simp; omega
      have hno : ¬ (ChkP g ∧ parse (writeT g) = .ok g) := fun h => by have := h.2; rw [hpr] at this; cases this
      have H1 := Lib.hid (show printS g = [] from if_neg hno)
      have H2 := Lib.hid (show printE g = 1 from if_neg hno)
      clear hno hpr hpb hc hf hs ht hn hx
      go_enter Try.func13, Try.ntmps13
      go_wp2_with (first
          | (go_at_call 16; refine HCK.out.mono ?_; rintro e w2 ⟨rfl, hb2⟩
             have q2 := (hb2.block _ (heap_lt HF0.out)).trans HF0.out
             have q20 := (blk_cell (i := 0) q2 rfl).1
             have q21 := (blk_cell (i := 1) q2 rfl).1
             have q22 := (blk_cell (i := 2) q2 rfl).1)
          | (go_at_call 64; refine (HWR.out _ hb2).mono ?_; rintro e w3 ⟨rfl, hb3⟩)
          | (go_at_call 65; refine (HPA.out _).mono ?_; rintro e w4 ⟨rfl, hb4⟩))
      go_ret2
      have hb24 := (hb2.trans (hb3.mono hb2.size)).trans (hb4.mono (Nat.le_trans hb2.size hb3.size))
      have hb25 := hb24.alloc hb24.size (.cells #[.slice none 0 0, .slice none 0 0, .slice none 0 0] 28)
      exact ⟨by rw [H1.out, H2.out]; rfl, HS.out.trans (hb25.mono HS.out.size)⟩
    | ok h =>
      have hpa := fun W => parse_ok ⟨(writeT g).toArray⟩ h W hwl hpr
      have hgh := good_check h (read_good _ _ hpr)
      have HPA := Lib.hid hpa
      have HFH := Lib.hid (fits_checkP hgh)
      have HHC := Lib.hid hgh
      by_cases he : h = g
      · subst he
        have hyes : ChkP h ∧ parse (writeT h) = .ok h := ⟨hc, hpr⟩
        have H1 := Lib.hid (show printS h = writeT h from if_pos hyes)
        have H2 := Lib.hid (show printE h = 0 from if_pos hyes)
        clear hyes hpr hpa hgh hc hf hs ht hn
        go_enter Try.func13, Try.ntmps13
        go_wp2_with (first
          | (go_at_call 16; refine HCK.out.mono ?_; rintro e w2 ⟨rfl, hb2⟩
             have q2 := (hb2.block _ (heap_lt HF0.out)).trans HF0.out
             have q20 := (blk_cell (i := 0) q2 rfl).1
             have q21 := (blk_cell (i := 1) q2 rfl).1
             have q22 := (blk_cell (i := 2) q2 rfl).1)
          | (go_at_call 64; refine (HWR.out _ hb2).mono ?_; rintro e w3 ⟨rfl, hb3⟩)
          | (go_at_call 65; refine (HPA.out _).mono ?_; rintro e w4 ⟨v4, rfl, hb4, hg4⟩
             have q4 := (hb4.block _ (Nat.lt_of_lt_of_le (heap_lt q2) hb3.size)).trans ((hb3.block _ (heap_lt q2)).trans q2)
             have q40 := (blk_cell (i := 0) q4 rfl).1
             have q41 := (blk_cell (i := 1) q4 rfl).1
             have q42 := (blk_cell (i := 2) q4 rfl).1
             have hg44 := hg4.at_
             have hq4l := heap_lt q4
             have hb24 := (hb2.trans (hb3.mono hb2.size)).trans (hb4.mono (Nat.le_trans hb2.size hb3.size))
             obtain ⟨d1, d2, d3, y1, y2, y3, ms, rfl, hdd⟩ := hg44)
          | (go_at_call 17; refine (same_any _ _ h h _ (hg4.at_.below ((Below.refl _ _).alloc (Nat.le_refl _) _)) (HG.out.below (hb24.alloc hb24.size _)) HFH.out HFG.out).mono ?_; rintro e w5 ⟨rfl, hb5⟩; simp only [decide_true]))
        go_ret2
        have hb25 := hb24.alloc hb24.size (.cells #[.slice d1 h.terms.length y1, .slice d2 h.nons.length y2, .slice d3 ms.length y3] 28)
        have hb26 := HS.out.trans ((hb25.trans (hb5.mono hb25.size)).mono HS.out.size)
        exact ⟨by rw [H1.out, H2.out]; rfl, hb26⟩
      · have hdf : decide (h = g) = false := decide_eq_false he
        have hno : ¬ (ChkP g ∧ parse (writeT g) = .ok g) := fun x => by have := x.2; rw [hpr] at this; exact he (End.ok.inj this)
        have H1 := Lib.hid (show printS g = [] from if_neg hno)
        have H2 := Lib.hid (show printE g = 1 from if_neg hno)
        clear hno hpr hpa hgh hc hf hs ht hn he
        go_enter Try.func13, Try.ntmps13
        go_wp2_with (first
          | (go_at_call 16; refine HCK.out.mono ?_; rintro e w2 ⟨rfl, hb2⟩
             have q2 := (hb2.block _ (heap_lt HF0.out)).trans HF0.out
             have q20 := (blk_cell (i := 0) q2 rfl).1
             have q21 := (blk_cell (i := 1) q2 rfl).1
             have q22 := (blk_cell (i := 2) q2 rfl).1)
          | (go_at_call 64; refine (HWR.out _ hb2).mono ?_; rintro e w3 ⟨rfl, hb3⟩)
          | (go_at_call 65; refine (HPA.out _).mono ?_; rintro e w4 ⟨v4, rfl, hb4, hg4⟩
             have q4 := (hb4.block _ (Nat.lt_of_lt_of_le (heap_lt q2) hb3.size)).trans ((hb3.block _ (heap_lt q2)).trans q2)
             have q40 := (blk_cell (i := 0) q4 rfl).1
             have q41 := (blk_cell (i := 1) q4 rfl).1
             have q42 := (blk_cell (i := 2) q4 rfl).1
             have hg44 := hg4.at_
             have hq4l := heap_lt q4
             have hb24 := (hb2.trans (hb3.mono hb2.size)).trans (hb4.mono (Nat.le_trans hb2.size hb3.size))
             obtain ⟨d1, d2, d3, y1, y2, y3, ms, rfl, hdd⟩ := hg44)
          | (go_at_call 17; refine (same_any _ _ h g _ (hg4.at_.below ((Below.refl _ _).alloc (Nat.le_refl _) _)) (HG.out.below (hb24.alloc hb24.size _)) HFH.out HFG.out).mono ?_; rintro e w5 ⟨rfl, hb5⟩; simp only [hdf]))
        go_ret2
        have hb25 := hb24.alloc hb24.size (.cells #[.slice d1 h.terms.length y1, .slice d2 h.nons.length y2, .slice d3 ms.length y3] 28)
        have hb26 := HS.out.trans ((hb25.trans (hb5.mono hb25.size)).mono HS.out.size)
        exact ⟨by rw [H1.out, H2.out]; rfl, hb26⟩
  · have hci : chkI g = 1 := if_neg hc
    rw [hci] at hck
    have HCK := Lib.hid hck
    have hno : ¬ (ChkP g ∧ parse (writeT g) = .ok g) := fun x => hc x.1
    have H1 := Lib.hid (show printS g = [] from if_neg hno)
    have H2 := Lib.hid (show printE g = 1 from if_neg hno)
    clear hno hc hck hci hf hs ht hn
    go_enter Try.func13, Try.ntmps13
    go_wp2_with (go_at_call 16; refine HCK.out.mono ?_; rintro e w2 ⟨rfl, hb2⟩)
    go_ret2
    exact ⟨by rw [H1.out, H2.out]; rfl, HS.out.trans (hb2.mono HS.out.size)⟩

end Go.Proofs.Ytjlohjkhnjemaaa
