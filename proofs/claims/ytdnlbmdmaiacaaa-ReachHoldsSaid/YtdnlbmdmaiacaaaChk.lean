/- Check: walked; what it tells, in plain words. -/
import Derived.Test.YtdnlbmdmaiacaaaHoldsP
import Derived.Test.YtdnlbmdmaiacaaaCheck
namespace Go.Proofs.Ytdnlbmdmaiacaaa
open Go.RowKit
open Doc

def ChkP (g : Gr) : Prop := NamesP 97 122 g.terms ∧ NamesP 65 90 g.nons ∧ PHolds g
instance (g : Gr) : Decidable (ChkP g) := by unfold ChkP; exact inferInstance

/-- What Check tells: OK, or ErrArg. -/
def chkI (g : Gr) : Int := if ChkP g then 0 else 1

set_option maxHeartbeats 1000000 in
theorem chk_any (v : Value) (g : Gr) (w : World) (hg : GramAt w v g) (hf : Fits g) (hs : SmallG g) (ht : ∀ x ∈ g.terms, x.length ≤ maxLen) (hn : ∀ x ∈ g.nons, x.length ≤ maxLen) :
    Calls Try.prog 14 #[v] w fun e w' => e = .returned (.int .i64 (chkI g)) ∧ Below w.heap.size w w' := by
  have hg0 := hg
  obtain ⟨a1, a2, a3, c1, c2, c3, ls, rfl, hp, k1, k2, k3, k4, k5, k6, k7⟩ := hg
  have hS : Below w.heap.size w (w.alloc (.cells #[.slice a1 g.terms.length c1, .slice a2 g.nons.length c2, .slice a3 ls.length c3] 26)) := (Below.refl _ _).alloc (Nat.le_refl _) _
  have h1 : Calls Try.prog 52 #[.slice a1 g.terms.length c1, .int .i64 8, .int .u8 97, .int .u8 122] (w.alloc (.cells #[.slice a1 g.terms.length c1, .slice a2 g.nons.length c2, .slice a3 ls.length c3] 26)) fun e w' => e = .returned (.bool (decide (NamesP 97 122 g.terms))) ∧ w' = w.alloc (.cells #[.slice a1 g.terms.length c1, .slice a2 g.nons.length c2, .slice a3 ls.length c3] 26) := namesHold_any a1 c1 g.terms 97 122 (w.alloc (.cells #[.slice a1 g.terms.length c1, .slice a2 g.nons.length c2, .slice a3 ls.length c3] 26)) (k1.below hS) hf.1 k5 ht
  have H1 := Lib.hid h1
  have h2 : Calls Try.prog 52 #[.slice a2 g.nons.length c2, .int .i64 8, .int .u8 65, .int .u8 90] (w.alloc (.cells #[.slice a1 g.terms.length c1, .slice a2 g.nons.length c2, .slice a3 ls.length c3] 26)) fun e w' => e = .returned (.bool (decide (NamesP 65 90 g.nons))) ∧ w' = w.alloc (.cells #[.slice a1 g.terms.length c1, .slice a2 g.nons.length c2, .slice a3 ls.length c3] 26) := namesHold_any a2 c2 g.nons 65 90 (w.alloc (.cells #[.slice a1 g.terms.length c1, .slice a2 g.nons.length c2, .slice a3 ls.length c3] 26)) (k2.below hS) hf.2.1 k6 hn
  have H2 := Lib.hid h2
  have H3 := Lib.hid (prodsHold_any _ g (w.alloc (.cells #[.slice a1 g.terms.length c1, .slice a2 g.nons.length c2, .slice a3 ls.length c3] 26)) (hg0.below hS) hf hs)
  have HS := Lib.hid hS
  clear h1 h2 hg0 hS k1 k2 k3 k4 hf hs ht hn hp
  by_cases b1 : NamesP 97 122 g.terms
  · by_cases b2 : NamesP 65 90 g.nons
    · by_cases b3 : PHolds g
      · have HR := Lib.hid (show chkI g = 0 from if_pos ⟨b1, b2, b3⟩)
        rw [decide_eq_true b1] at H1
        rw [decide_eq_true b2] at H2
        rw [decide_eq_true b3] at H3
        clear b1 b2 b3
        go_enter Try.func14, Try.ntmps14
        go_wp2_with (first
          | (go_at_call 52; with_reducible refine H1.out.mono ?_; rintro e w2 ⟨rfl, rfl⟩)
          | (go_at_call 52; with_reducible refine H2.out.mono ?_; rintro e w2 ⟨rfl, rfl⟩)
          | (go_at_call 53; with_reducible refine H3.out.mono ?_; rintro e w2 ⟨rfl, hb2⟩))
        go_ret
        exact ⟨ret_int HR.out.symm, HS.out.trans (hb2.mono HS.out.size)⟩
      · have HR := Lib.hid (show chkI g = 1 from if_neg fun h => b3 h.2.2)
        rw [decide_eq_true b1] at H1
        rw [decide_eq_true b2] at H2
        rw [decide_eq_false b3] at H3
        clear b1 b2 b3
        go_enter Try.func14, Try.ntmps14
        go_wp2_with (first
          | (go_at_call 52; with_reducible refine H1.out.mono ?_; rintro e w2 ⟨rfl, rfl⟩)
          | (go_at_call 52; with_reducible refine H2.out.mono ?_; rintro e w2 ⟨rfl, rfl⟩)
          | (go_at_call 53; with_reducible refine H3.out.mono ?_; rintro e w2 ⟨rfl, hb2⟩))
        go_ret
        exact ⟨ret_int HR.out.symm, HS.out.trans (hb2.mono HS.out.size)⟩
    · have HR := Lib.hid (show chkI g = 1 from if_neg fun h => b2 h.2.1)
      rw [decide_eq_true b1] at H1
      rw [decide_eq_false b2] at H2
      clear b1 b2
      go_enter Try.func14, Try.ntmps14
      go_wp2_with (first
        | (go_at_call 52; with_reducible refine H1.out.mono ?_; rintro e w2 ⟨rfl, rfl⟩)
        | (go_at_call 52; with_reducible refine H2.out.mono ?_; rintro e w2 ⟨rfl, rfl⟩))
      go_ret
      exact ⟨ret_int HR.out.symm, HS.out⟩
  · have HR := Lib.hid (show chkI g = 1 from if_neg fun h => b1 h.1)
    rw [decide_eq_false b1] at H1
    clear b1
    go_enter Try.func14, Try.ntmps14
    go_wp2_with (go_at_call 52; with_reducible refine H1.out.mono ?_; rintro e w2 ⟨rfl, rfl⟩)
    go_ret
    exact ⟨ret_int HR.out.symm, HS.out⟩

/-! In plain words. -/
theorem nameIn_low (x : List UInt8) : nameIn 97 122 x = true ↔ kindOf x = 2 := by
  cases x with
  | nil => simp [nameIn, kindOf]
  | cons c t =>
    unfold nameIn kindOf
    cases hN : nameOk (c :: t) with
    | false => simp [hN]
    | true =>
      have hlc : lett c = true := by unfold nameOk at hN; simp at hN; exact hN.1.2
      cases hU : up c with
      | true =>
        have := hU
        unfold up at this
        simp [hN, hU] at this ⊢
        omega
      | false =>
        unfold lett low at hlc
        rw [hU] at hlc
        simp [hN, hU] at hlc ⊢
        omega
theorem nameIn_up (x : List UInt8) : nameIn 65 90 x = true ↔ kindOf x = 1 := by
  cases x with
  | nil => simp [nameIn, kindOf]
  | cons c t =>
    unfold nameIn kindOf
    cases hN : nameOk (c :: t) with
    | false => simp [hN]
    | true =>
      cases hU : up c with
      | true =>
        have := hU
        unfold up at this
        simp [hN, hU] at this ⊢
        omega
      | false =>
        have := hU
        unfold up at this
        simp [hN, hU] at this ⊢
        omega

theorem symB_ok (g : Gr) (s : Int) : symB g s = true ↔ symOk g.terms.length g.nons.length s := by
  unfold symB symOk nonB
  simp

theorem chk_iff (g : Gr) : ChkP g ↔ CheckG g := by
  unfold ChkP NamesP PHolds
  constructor
  · rintro ⟨⟨t1, t8, tk, tn⟩, ⟨n1, n8, nk, nn⟩, p1, p24, pv, pn, ps⟩
    refine ⟨t1, t8, n1, n8, p1, p24, fun x hx => (nameIn_low x).1 (tk x hx), tn, fun x hx => (nameIn_up x).1 (nk x hx), nn, ps, fun p hp => ?_, pn⟩
    have h := pv p hp
    unfold prodB nonB at h
    simp only [Bool.and_eq_true, decide_eq_true_eq, List.all_eq_true] at h
    exact ⟨h.1, h.2.1, fun s hs => (symB_ok g s).1 (h.2.2 s hs)⟩
  · intro h
    refine ⟨⟨h.t1, h.t8, fun x hx => (nameIn_low x).2 (h.tk x hx), h.tn⟩, ⟨h.n1, h.n8, fun x hx => (nameIn_up x).2 (h.nk x hx), h.nn⟩, h.p1, h.p24, fun p hp => ?_, h.pn, h.some_⟩
    unfold prodB nonB
    simp only [Bool.and_eq_true, decide_eq_true_eq, List.all_eq_true]
    have := h.pv p hp
    exact ⟨this.1, this.2.1, fun s hs => (symB_ok g s).2 (this.2.2 s hs)⟩

end Go.Proofs.Ytdnlbmdmaiacaaa
