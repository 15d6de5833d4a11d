/- wakes of chapter 6. -/
import Derived.Test.YtflfmcikfiaoiaaPlay
import Derived.Test.YtflfmcikfiaoiaaFirstN
import Derived.Test.YtflfmcikfiaoiaaMoreF
set_option linter.unusedVariables false
namespace Go.Proofs.Ytflfmcikfiaoiaa
open Go.RowKit
open Doc

def wg6 : Gr := ⟨[[97]], [[83]], [(100, [1])]⟩
theorem wg6_parse : parse (textsL.getD ((0 : Int) % 17).toNat []) = .ok wg6 := by decide +kernel
theorem wg6_check : CheckG wg6 := (chk_iff wg6).1 (by decide +kernel)
theorem wg6_fru : Fru wg6 100 := Fru.mk (100, [1]) (by simp [wg6]) (by
  intro s hs h100
  simp only [List.mem_cons, List.not_mem_nil, or_false] at hs
  omega)
theorem wg6_use : Usable wg6 (100, [1]) := by
  intro s hs h100
  simp only [List.mem_cons, List.not_mem_nil, or_false] at hs
  omega
theorem wg6_of (F : List Nat) : ofF 1 F [1] 1 = 2 := by
  rw [of_one]
  show (if (1 : Int) ≤ 1 ∧ (1 : Int) ≤ ((1 : Nat) : Int) then sdig 1 else _) = 2
  rw [if_pos (by omega)]; decide
theorem wg6_first {F : List Nat} (h : FirstIs wg6 F) : F.getD 0 0 = 2 := by
  refine Sub.anti ?_ ?_
  · have := h.least [2] rfl (fun i j hj => by
      match i with
      | 0 =>
        have hj : Nat.testBit 2 j = true := by simpa using hj
        rw [show (2 : Nat) = 2 ^ 1 from rfl, Nat.testBit_two_pow, decide_eq_true_eq] at hj
        show j ≤ 1
        omega
      | i + 1 => simp at hj) (fun p hp hu => by
      simp only [wg6, List.mem_cons, List.not_mem_nil, or_false] at hp
      subst hp
      show Sub (ofF 1 [2] [1] 1) _
      rw [wg6_of]
      exact Sub.refl _)
    exact this 0
  · have := h.closed (100, [1]) (by simp [wg6]) wg6_use
    unfold ClosedAt at this
    rw [show ofF wg6.terms.length F ((100, [1]) : Int × List Int).2 1 = 2 from wg6_of F] at this
    exact this

/-- New, in one form. -/
theorem new_one (v : Value) (g : Gr) (W : World) (hg : GramAt W v g) (hck : CheckG g) : Calls Try.prog 19 #[v] W fun e w' => Below W.heap.size W w' ∧ ∃ (pv : Value) (er : Int), e = .returned (.tuple #[pv, .int .i64 er]) ∧ ((Fru g 100 ∧ er = 0 ∧ ∃ B b F, pv = .pointer (some ⟨B, 0, none⟩) ∧ TableOf g w' B b F) ∨ (¬ Fru g 100 ∧ er = 6 ∧ pv = .pointer none)) :=
  (fnew_any v g W hg hck).mono fun e w' ⟨he, hb⟩ => ⟨hb, by
    rcases he with ⟨h, B, b, F, he, ht, _, _⟩ | ⟨h, he⟩
    · exact ⟨_, _, he, .inl ⟨h, rfl, B, b, F, rfl, ht⟩⟩
    · exact ⟨_, _, he, .inr ⟨h, rfl, rfl⟩⟩⟩

set_option maxRecDepth 100000 in
set_option maxHeartbeats 4000000 in
theorem wakes6_any (w : World) : Calls Try.prog 21 #[] w fun e w' => e = .returned (.bool true) ∧ Below w.heap.size w w' := by
  have HGO := Lib.hid ((good_any 0 w).mono fun e w' ⟨hb, ts, ns, ls, at_, an, ap, ct, cn, cp, he, hr, hp⟩ => (by
    rw [wg6_parse] at hp
    have hg : wg6 = ⟨ts, ns, ls.map Lay.plain⟩ := End.ok.inj hp
    exact ⟨hb, _, he, by rw [hg]; exact hr.gram⟩ : Below w.heap.size w w' ∧ ∃ v, e = Ending.returned v ∧ GramAt w' v wg6))
  have HNW := Lib.hid fun v W (h : GramAt W v wg6) => (fnew_any v wg6 W h wg6_check).mono fun e w' ⟨he, hb⟩ => (by
    rcases he with ⟨_, B, b, F, he, ht, _, _⟩ | ⟨hn, _⟩
    · exact ⟨hb, B, b, F, he, ht⟩
    · exact absurd wg6_fru hn : Below W.heap.size W w' ∧ ∃ B b F, e = Ending.returned (.tuple #[.pointer (some ⟨B, 0, none⟩), .int .i64 0]) ∧ TableOf wg6 w' B b F)
  go_enter Try.func21, Try.ntmps21
  go_upto_region 2 with (first
    | (go_at_call 47; refine HGO.out.mono ?_; rintro e w2 ⟨hb2, v, rfl, hg2⟩)
    | (go_at_call 19; refine (HNW.out _ _ hg2).mono ?_; rintro e w3 ⟨hb3, B, b, F, rfl, ht⟩))
  have hfi := ht.is wg6_check
  have hF0 := wg6_first hfi
  have hlen : F.length = 1 := hfi.len
  have hal : aloneF 1 F 100 = 2 := by
    have := alone_non (t := 1) (by omega) (F := F) (i := 0) (by omega)
    rw [show (100 : Int) + ((0 : Nat) : Int) = 100 by omega] at this
    rw [this, hF0]
  have HBW := Lib.hid (hb2.trans (hb3.mono hb2.size))
  have HO0 := Lib.hid fun W (hW : Below w3.heap.size w3 W) => (show Calls Try.prog 24 #[.pointer (some ⟨B, 0, none⟩), .slice none 0 0] W fun e w' => e = Ending.returned (.int .u64 1) ∧ Below W.heap.size W w' from (fof_any B b 1 F none 0 [] W (ht.at_.below hW) (.inl rfl) (by simp) (by simp) hfi.low (by decide) (by omega)).mono fun e w' ⟨he, hb⟩ => (⟨he, hb⟩ : e = Ending.returned (.int .u64 1) ∧ Below W.heap.size W w'))
  have HO1 := Lib.hid fun W a (hW : Below w3.heap.size w3 W) (hc : Cells W a [.int .i64 100]) => (show Calls Try.prog 24 #[.pointer (some ⟨B, 0, none⟩), .slice a 1 1] W fun e w' => e = Ending.returned (.int .u64 2) ∧ Below W.heap.size W w' from (fof_any B b 1 F a 1 [100] W (ht.at_.below hW) hc (by simp) (by simp) hfi.low (by decide) (by omega)).mono fun e w' ⟨he, hb⟩ => (⟨he.trans (by rw [of_one, hal]; rfl), hb⟩ : e = Ending.returned (.int .u64 2) ∧ Below W.heap.size W w'))
  have HS0 := Lib.hid fun W => of_zero W
  have HS1 := Lib.hid fun W => (of_sing 1 W).mono fun e w' ⟨he, hw⟩ => (⟨he, hw⟩ : e = Ending.returned (.int .u64 2) ∧ w' = W.alloc (.cells #[.int .i64 1] 3))
  clear hfi hF0 hlen hal hb2 hb3 ht hg2 HGO HNW
  go_wp2_with (first
    | (go_at_call 24; first
        | (with_reducible refine (HO0.out _ (Below.refl _ _)).mono ?_; rintro e w4 ⟨rfl, hb4⟩)
        | (with_reducible refine (HO1.out _ _ ((hb4.alloc hb4.size _).trans ((box_below _ _).mono (hb4.alloc hb4.size _).size)) (cells_new2 w4 _ _ _)).mono ?_; rintro e w5 ⟨rfl, hb5⟩))
    | (go_at_call 61; first
        | (with_reducible refine (HS0.out _).mono ?_; rintro e w6 ⟨rfl, rfl⟩)
        | (with_reducible refine (HS1.out _).mono ?_; rintro e w7 ⟨rfl, rfl⟩)))
  go_ret
  have h1 := hb4.alloc hb4.size (.cells #[.int .i64 0] 3)
  have h2 := h1.trans ((box_below _ (.cells #[.int .i64 100] 3)).mono h1.size)
  have h3 := h2.trans (hb5.mono h2.size)
  have h4 := h3.alloc h3.size (.cells #[.int .i64 1] 3)
  exact ⟨rfl, HBW.out.trans (h4.mono HBW.out.size)⟩

end Go.Proofs.Ytflfmcikfiaoiaa
