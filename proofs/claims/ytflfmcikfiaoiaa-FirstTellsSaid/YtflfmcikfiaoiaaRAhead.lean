/- The document's own firsts come to rest, and are the code's; ahead of something; as a set. -/
import Derived.Test.YtflfmcikfiaoiaaRFirsts
set_option linter.unusedVariables false
namespace Go.Proofs.Ytflfmcikfiaoiaa
open Go.RowKit
open Doc

/-! ### They come to rest -/
def cntF (t : Nat) (F : List Nat) : Nat := (F.map (cntB (t + 1))).sum
theorem cntF_le (t : Nat) : ∀ F : List Nat, cntF t F ≤ F.length * (t + 1)
  | [] => by simp [cntF]
  | x :: F => by
    have h1 := cntF_le t F
    have h2 := cntB_le (t + 1) x
    unfold cntF at *
    rw [List.map_cons, List.sum_cons, List.length_cons, Nat.add_mul]; omega
theorem cntF_sub {t : Nat} : ∀ {F G : List Nat}, F.length = G.length → SubF F G → cntF t F ≤ cntF t G
  | [], [], _, _ => Nat.le_refl _
  | x :: F, y :: G, hl, h => by
    have h1 := cntF_sub (t := t) (F := F) (G := G) (by simpa using hl) (fun i => h (i + 1))
    have h2 := cntB_sub (h 0) (t + 1)
    unfold cntF at *
    simp only [List.map_cons, List.sum_cons]
    have h2 : cntB (t + 1) x ≤ cntB (t + 1) y := h2
    omega
theorem cntF_lt {t : Nat} : ∀ {F G : List Nat}, F.length = G.length → SubF F G → LowF t G → F ≠ G → cntF t F < cntF t G
  | [], [], _, _, _, hne => absurd rfl hne
  | x :: F, y :: G, hl, h, hlow, hne => by
    have hl' : F.length = G.length := by simpa using hl
    have h1 := cntF_sub (t := t) (F := F) (G := G) hl' (fun i => h (i + 1))
    have h2 : cntB (t + 1) x ≤ cntB (t + 1) y := cntB_sub (h 0) (t + 1)
    by_cases hxy : x = y
    · subst hxy
      have h3 := cntF_lt (t := t) (F := F) (G := G) hl' (fun i => h (i + 1)) (fun i => hlow (i + 1)) (fun e => hne (by rw [e]))
      unfold cntF at *
      simp only [List.map_cons, List.sum_cons]; omega
    · obtain ⟨i, hi1, hi2⟩ := sub_ne (a := x) (b := y) (h 0) hxy
      have hi3 : i ≤ t := hlow 0 i hi2
      have h3 : cntB (t + 1) x < cntB (t + 1) y := cntB_lt (h 0) (t + 1) i (by omega) hi1 hi2
      unfold cntF at *
      simp only [List.map_cons, List.sum_cons]; omega
theorem iterL_G (f : List Nat → List Nat) (F : List Nat) : ∀ n, iterL f F n = iterG f F n
  | 0 => rfl
  | n + 1 => by
    show f (iterL f F n) = f (iterG f F n)
    rw [iterL_G f F n]
theorem firsts_rest {t : Nat} (ht : t ≤ 63) (ps : List (Int × List Int)) (T : List Int) (n : Nat) : growF t ps T (iterL (growF t ps T) (zerosF n) (n * (t + 1) + 1)) = iterL (growF t ps T) (zerosF n) (n * (t + 1) + 1) := by
  have hz : LowF t (zerosF n) := fun i j hj => by rw [zeros_get] at hj; simp at hj
  have hlen : ∀ k, (iterL (growF t ps T) (zerosF n) k).length = n := fun k => by rw [iter_len]; simp [zerosF]
  have hfix : growF t ps T (iterG (growF t ps T) (zerosF n) (n * (t + 1))) = iterG (growF t ps T) (zerosF n) (n * (t + 1)) := by
    refine iter_chain _ _ (cntF t) _ (fun k => ?_) (fun k => ?_)
    · rw [← iterL_G]
      by_cases h : growF t ps T (iterL (growF t ps T) (zerosF n) k) = iterL (growF t ps T) (zerosF n) k
      · exact .inl h
      · exact .inr (cntF_lt (by rw [grow_len]) (grow_ext t ps T _) (low_grow ht T (low_iter ht hz k)) (fun e => h e.symm))
    · rw [← iterL_G]
      have := cntF_le t (iterL (growF t ps T) (zerosF n) k)
      rw [hlen] at this
      exact this
  rw [← iterL_G] at hfix
  show growF t ps T (growF t ps T (iterL (growF t ps T) (zerosF n) (n * (t + 1)))) = growF t ps T (iterL (growF t ps T) (zerosF n) (n * (t + 1)))
  rw [hfix, hfix]
theorem FirstIs.uniq {g : Gr} {F G : List Nat} (h : FirstIs g F) (k : FirstIs g G) : F = G :=
  SubF.anti (h.len.trans k.len.symm) (h.least G k.len k.low k.closed) (k.least F h.len h.low h.closed)
def rfirstsF (g : Gr) : List Nat := iterL (growF g.terms.length g.prods (rtrimL g)) (zerosF g.nons.length) (g.nons.length * (g.terms.length + 1) + 1)
theorem rfirsts_is {g : Gr} (hc : CheckG g) (hf : Fru g 100) : FirstIs g (rfirstsF g) := by
  have hS := rfru_is hc
  have h0 : (iterG (gsF bearI g.prods) 0 g.nons.length).testBit 0 = true := (hS.2 0).2 ⟨by omega, hf⟩
  have ht8 := hc.t8
  have hT : rtrimL g = trimF (iterG (gsF bearI g.prods) 0 g.nons.length) g.prods 0 := by unfold rtrimL; rw [if_pos h0]
  refine first_is hc hS (m := g.nons.length * (g.terms.length + 1) + 1) (by rw [← hT]; rfl) ?_
  rw [← hT]
  exact firsts_rest (by omega) g.prods (rtrimL g) g.nons.length

/-! ### As a set -/
set_option maxHeartbeats 1000000 in
theorem as6_raw (b n S : Nat) (w : World) (hB : BsAt w b n S) (hn : n ≤ 64) :
    Calls Try.prog 25 #[.slice (some ⟨b, 0, none⟩) n n] w fun e w' => e = .returned (.int .u64 (asN S n : Nat)) ∧ w' = w := by
  have HB := Lib.hid hB
  have HOF := Lib.hid fun W => of_any none 0 0 [] W ⟨rfl, by omega, .inl rfl⟩
  clear hB
  go_enter Try.func25, Try.ntmps25
  go_wp2_with (go_at_call 61; refine (HOF.out _).mono ?_; rintro e w1 ⟨rfl, rfl⟩)
  go_loop [3, 9] (fun t i => ∃ k : Nat, k ≤ n ∧ i = .int .i64 k ∧ t = .int .u64 (asN S k : Nat)) (fun _ i => n - (intOf i).toNat)
  case atStart => exact ⟨0, Nat.zero_le _, rfl, rfl⟩
  case round =>
    obtain ⟨k, hk, rfl, rfl⟩ := hrel
    by_cases hlt : k < n
    · have hc := (HB.out.cell hlt).1
      have hbl := heap_lt HB.out
      have e1 : (k : Int) < n := by omega
      have HSN := Lib.hid (show asN S (k + 1) = if S.testBit k then asN S k ||| sdig (k : Int) else asN S k from rfl)
      have HW := Lib.hid fun W => with_any (asN S k) (k : Int) (asN_lt S k) W
      generalize asN S k = s at *
      cases hbi : S.testBit k with
      | true =>
        have HN := Lib.hid (show asN S (k + 1) = s ||| sdig (k : Int) by rw [HSN.out, if_pos hbi])
        rw [hbi] at hc
        clear hbi HSN
        go_wp2_with (go_at_call 73; refine (HW.out _).mono ?_; rintro e w1 ⟨rfl, rfl⟩)
        exact ⟨⟨k + 1, by omega, by go_num, by rw [HN.out]⟩, by simp [intOf]; omega⟩
      | false =>
        have HN := Lib.hid (show asN S (k + 1) = s by rw [HSN.out, if_neg (by rw [hbi]; decide)])
        rw [hbi] at hc
        clear hbi HSN
        go_wp2
        exact ⟨⟨k + 1, by omega, by go_num, by rw [HN.out]⟩, by simp [intOf]; omega⟩
    · have e1 : ¬ (k : Int) < n := by omega
      obtain rfl : k = n := by omega
      go_wp2
      go_ret
      exact ⟨rfl, rfl⟩

theorem as6_any (b n S : Nat) (w : World) (hB : BsAt w b n S) (hn : n ≤ 64) (hS : ∀ i, S.testBit i = true → i < n) :
    Calls Try.prog 25 #[.slice (some ⟨b, 0, none⟩) n n] w fun e w' => e = .returned (.int .u64 (S : Nat)) ∧ w' = w :=
  (as6_raw b n S w hB hn).mono fun e w' ⟨he, hw⟩ => ⟨he.trans (by rw [asN_self hn hS]), hw⟩

/-! ### Ahead of something -/
set_option maxRecDepth 100000 in
set_option maxHeartbeats 4000000 in
theorem rahead_any (v : Value) (g : Gr) (mb : Nat) (bl F : List Nat) (la : Option Addr) (lc : Nat) (l : List Int) (y : Int) (w : World) (hg : GramAt w v g) (hck : CheckG g) (hm : MatAt w mb g.terms.length bl F) (hF : F.length = g.nons.length) (hlow : LowF g.terms.length F) (hl : Cells w la (nums l)) (hll : l.length ≤ 1000000) (hlw : ∀ s ∈ l, -9223372036854775808 ≤ s ∧ s ≤ 9223372036854775807) :
    Calls Try.prog 31 #[v, .slice (some ⟨mb, 0, none⟩) g.nons.length g.nons.length, .slice la l.length lc, .int .i64 y] w fun e w' => Below w.heap.size w w' ∧ RowEnd w.heap.size g.terms.length (goOnF (ofF g.terms.length F l 1) (aheadS g.terms.length y)) e w' := by
  have hg0 := hg
  have ht8 := hck.t8
  have HLO : Hid (LowB g.terms.length (ofF g.terms.length F l 1)) := Lib.hid (low_of (by omega) hlow _ _ (low_one _))
  obtain ⟨a1, a2, a3, c1, c2, c3, ls, rfl, hp, k1, k2, k3, k4, k5, k6, k7⟩ := hg
  have hS := box_below w (.cells #[.slice a1 g.terms.length c1, .slice a2 g.nons.length c2, .slice a3 ls.length c3] 28)
  have q0 := heap_alloc_new w (.cells #[.slice a1 g.terms.length c1, .slice a2 g.nons.length c2, .slice a3 ls.length c3] 28)
  have HS := Lib.hid hS
  have HFO := Lib.hid (firstOf_any _ g mb bl F la lc l _ (hg0.below hS) hck (hm.below hS) hF hlow (hl.below hS) hll hlw)
  have l0 := heap_lt q0
  have y0 := (blk_cell (i := 0) (u := .slice a1 g.terms.length c1) q0 rfl).1
  have y1 := (blk_cell (i := 1) (u := .slice a2 g.nons.length c2) q0 rfl).1
  have y2 := (blk_cell (i := 2) (u := .slice a3 ls.length c3) q0 rfl).1
  clear hg0 hp k1 k2 k3 k4 hS q0 hck hlw hlow hF hm hl
  go_enter Try.func31, Try.ntmps31
  go_upto_region 1 with fail
  generalize hS1 : w.alloc (.cells #[.slice a1 g.terms.length c1, .slice a2 g.nons.length c2, .slice a3 ls.length c3] 28) = S1 at *
  clear hS1
  go_upto_region 2 with (go_at_call 29; refine HFO.out.mono ?_; rintro e w5 ⟨hb5, ob, rfl, hob, hobl⟩)
  have HB5 := Lib.hid (HS.out.trans (hb5.mono HS.out.size))
  have HOB := Lib.hid hob
  have hobw : w.heap.size ≤ ob := by have := HS.out.size; omega
  have hol := heap_lt hob
  have hrlt := low_lt HLO.out (show g.terms.length ≤ 63 by omega)
  have HRL := Lib.hid hrlt
  clear hb5 hob HFO y0 y1 y2
  generalize hRE : ofF g.terms.length F l 1 = R at *
  have HRE := Lib.hid hRE
  clear hRE
  have c0 := (HOB.out.cell (i := 0) (by omega)).1
  have c0f := (HOB.out.cell (i := 0) (by omega)).2
  have HBS := Lib.hid fun (i : Nat) v => HB5.out.setCell (p := ⟨ob, i, none⟩) hobw v
  cases hr : R.testBit 0 with
  | false =>
    rw [hr] at c0
    have HE : Hid (goOnF R (aheadS g.terms.length y) = R) := Lib.hid (goOn_stay hr)
    clear hr hrlt
    go_wp2
    go_ret
    exact ⟨HB5.out, ob, rfl, by rw [HRE.out, HE.out]; exact HOB.out, hobw⟩
  | true =>
    rw [hr] at c0
    have hbit : ∀ X i, (goOnF R X).testBit i = ((R.testBit i && !decide (i = 0)) || X.testBit i) := fun X i => by rw [goOn_bit hrlt, if_pos hr]
    have HBIT := Lib.hid hbit
    by_cases hy0 : y = 0
    · have e3 : (y != 0) = false := by simp [hy0]
      have HE : Hid (goOnF R (aheadS g.terms.length y) = R) := Lib.hid (Nat.eq_of_testBit_eq fun i => by
        rw [HBIT.out, hy0]
        have : aheadS g.terms.length 0 = 1 := by unfold aheadS; rw [if_pos (by omega)]; decide
        rw [this, one_bit]
        by_cases h : i = 0
        · subst h; simp [hr]
        · simp [h])
      clear hr hbit hrlt hy0
      go_wp2
      go_ret
      exact ⟨HB5.out, ob, rfl, by rw [HRE.out, HE.out]; exact HOB.out, hobw⟩
    · have e3 : (y != 0) = true := by simp [hy0]
      have HC := Lib.hid (HOB.out.put (i := 0) (S' := clr R) (by omega) false (by rw [clr_bit hrlt]; simp) (fun j hj => by rw [clr_bit hrlt]; simp [hj]))
      by_cases hyt : 1 ≤ y ∧ y ≤ (g.terms.length : Int)
      · obtain ⟨n, rfl⟩ : ∃ n : Nat, y = n := ⟨y.toNat, by omega⟩
        have ha : aheadS g.terms.length (n : Int) = sdig (n : Int) := by unfold aheadS; rw [if_pos (by omega)]
        have hput := HC.out.put (i := n) (S' := goOnF R (aheadS g.terms.length (n : Int))) (by omega) true (by rw [HBIT.out, ha, bit_dig]; simp; omega) (fun j hj => by
          rw [HBIT.out, ha, bit_dig, clr_bit HRL.out]
          have : decide ((n : Int) = (j : Int) ∧ j < 64) = false := by rw [decide_eq_false_iff_not]; omega
          rw [this, Bool.or_false])
        obtain ⟨d0, d1⟩ := HC.out.cell (i := n) (by omega)
        have HPUT := Lib.hid hput
        have e4 : (1 : Int) ≤ (n : Int) := by omega
        have e5 : (n : Int) < (g.terms.length : Int) + 1 := by omega
        have HBF := Lib.hid ((HBS.out 0 (.bool false)).setCell (p := ⟨ob, n, none⟩) hobw (.bool true))
        clear hr hbit hrlt ha hput hyt HBS hy0
        generalize hR2 : goOnF R (aheadS g.terms.length (n : Int)) = R2 at *
        have HR2 := Lib.hid hR2.symm
        clear hR2
        go_wp2
        go_ret
        exact ⟨HBF.out, ob, rfl, by rw [HRE.out]; exact HR2.out ▸ HPUT.out, hobw⟩
      · have HE : Hid (goOnF R (aheadS g.terms.length y) = clr R) := Lib.hid (Nat.eq_of_testBit_eq fun i => by
          have : aheadS g.terms.length y = 0 := by unfold aheadS; rw [if_neg (by omega)]
          rw [HBIT.out, this, clr_bit HRL.out]; simp)
        by_cases h1 : 1 ≤ y
        · have e5 : ¬ y < (g.terms.length : Int) + 1 := by omega
          clear hr hbit hrlt hyt hy0
          go_wp2
          go_ret
          exact ⟨HBS.out 0 _, ob, rfl, by rw [HRE.out, HE.out]; exact HC.out, hobw⟩
        · clear hr hbit hrlt hyt hy0
          go_wp2
          go_ret
          exact ⟨HBS.out 0 _, ob, rfl, by rw [HRE.out, HE.out]; exact HC.out, hobw⟩
end Go.Proofs.Ytflfmcikfiaoiaa
