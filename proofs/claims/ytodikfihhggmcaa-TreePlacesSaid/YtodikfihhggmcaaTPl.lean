/- TreePlaces: walked. -/
import Derived.Test.YtodikfihhggmcaaTreeT
import Derived.Test.YtodikfihhggmcaaTreeG
import Derived.Test.YtodikfihhggmcaaTreeW
import Derived.Test.YtodikfihhggmcaaEq3
import Derived.Deep.RegionHeld3
set_option linter.unusedVariables false
namespace Go.Proofs.Ytodikfihhggmcaa
open Go.RowKit
open Doc

def tpG : Gr := ⟨[[97], [98], [99]], [[83], [65]], [(100, [101, 1, 100]), (100, [2]), (101, []), (101, [3])]⟩
def tpT : Tr := .mk 100 0 [.mk 101 2 [], .mk 1 (-1) [], .mk 100 0 [.mk 101 3 [.mk 3 (-1) []], .mk 1 (-1) [], .mk 100 (-1) []]]
def tpS : List UInt8 := [40, 83, 32, 40, 65, 41, 32, 97, 32, 40, 83, 32, 40, 65, 32, 99, 41, 32, 97, 32, 83, 41, 41]
def tpW : List UInt8 := [83, 58, 32, 65, 32, 97, 32, 83, 32, 124, 32, 98, 10, 65, 58, 32, 124, 32, 99, 10]
def tpL : List (Int × Int × Int) := [(0, 0, 0), (0, 1, 0), (0, 2, 1), (0, 3, 4), (0, 0, 1), (0, 1, 2), (0, 2, 3), (2, 0, 0), (3, 0, 1), (3, 1, 2)]
def tpV : List Value := tpL.flatMap fun x => [.int .i64 x.1, .int .i64 x.2.1, .int .i64 x.2.2]
set_option maxHeartbeats 4000000 in
theorem tp_gram : parse tpW = .ok tpG := by kernel_rfl
theorem tp_read : readG tpG tpS = some tpT := by kernel_rfl
theorem tp_fits : Fits tpG := by refine ⟨by decide, by decide, by decide, by decide⟩
theorem tp_size : sizeT tpT = 8 := by decide +kernel
theorem tp_asc : Asc ⟨tpS.toArray⟩ := fun j b hj => by
  have hm : b ∈ tpS := List.mem_of_getElem? hj
  clear hj
  revert b
  decide
def tpAny (P D Q : Int) (k : Nat) : Bool := (tpL.take k).any fun x => decide (x = (P, D, Q))
theorem tp_all : ∀ p d q : Fin 6, atT ((p.val : Int) - 1) ((d.val : Int) - 1) ((q.val : Int) - 1) tpT 0 = tpAny ((p.val : Int) - 1) ((d.val : Int) - 1) ((q.val : Int) - 1) 10 := by decide +kernel
theorem tp_at (p d q : Nat) (hp : p < 6) (hd : d < 6) (hq : q < 6) : atT ((p : Int) - 1) ((d : Int) - 1) ((q : Int) - 1) tpT 0 = tpAny ((p : Int) - 1) ((d : Int) - 1) ((q : Int) - 1) 10 := tp_all ⟨p, hp⟩ ⟨d, hd⟩ ⟨q, hq⟩
theorem tp_step (P D Q : Int) (k : Nat) {a b c : Int} (h : tpL[k]? = some (a, b, c)) : tpAny P D Q (k + 1) = (tpAny P D Q k || (decide (a = P) && (decide (b = D) && decide (c = Q)))) := by
  unfold tpAny
  rw [List.take_add_one, h, List.any_append]
  simp
theorem tp_vals : ∀ k a b c, tpL[k]? = some (a, b, c) → tpV[k * 3]? = some (.int .i64 a) ∧ tpV[k * 3 + 1]? = some (.int .i64 b) ∧ tpV[k * 3 + 2]? = some (.int .i64 c) := by
  intro k a b c h
  have hk : k < 10 := (List.getElem?_eq_some_iff.1 h).1
  obtain rfl | rfl | rfl | rfl | rfl | rfl | rfl | rfl | rfl | rfl : k = 0 ∨ k = 1 ∨ k = 2 ∨ k = 3 ∨ k = 4 ∨ k = 5 ∨ k = 6 ∨ k = 7 ∨ k = 8 ∨ k = 9 := by omega
  all_goals (obtain ⟨rfl, rfl, rfl⟩ := (by simpa [tpL] using h : _ ∧ _ ∧ _); exact ⟨rfl, rfl, rfl⟩)

set_option maxRecDepth 100000 in
set_option maxHeartbeats 4000000 in
theorem treePlaces_walk (prod dot place : Int) (w : World) (h1 : -9223372036854775808 ≤ prod ∧ prod ≤ 9223372036854775807) (h2 : -9223372036854775808 ≤ dot ∧ dot ≤ 9223372036854775807) (h3 : -9223372036854775808 ≤ place ∧ place ≤ 9223372036854775807) :
    Calls Try.prog 8 #[.int .i64 prod, .int .i64 dot, .int .i64 place] w fun e w' => e = .returned (.bool true) ∧ Below w.heap.size w w' := by
  have HGO := Lib.hid (rparse_ok ⟨tpW.toArray⟩ tpG w (by decide) tp_gram)
  have HWK := Lib.hid fun W => wakes8_any W
  unfold tpW at HGO
  go_enter Try.func8, Try.ntmps8
  go_upto_region 2 with (go_at_call 55; refine HGO.out.mono ?_; rintro e w1 ⟨v, rfl, hb1, hg1⟩; obtain ⟨a1, a2, a3, c1, c2, c3, rfl⟩ := gram_form3 hg1.at_)
  obtain ⟨hbG, _, qG⟩ := one_alloc w1 (.cells #[.slice a1 tpG.terms.length c1, .slice a2 tpG.nons.length c2, .slice a3 tpG.prods.length c3] 28)
  have HG := Lib.hid (hg1.at_.below hbG)
  have HB := Lib.hid (hb1.trans (hbG.mono hb1.size))
  have HPA := Lib.hid (tparse_ok _ tpG ⟨tpS.toArray⟩ tpT _ HG.out tp_fits tp_asc (by decide) tp_read)
  have HQ := Lib.hid qG
  unfold tpS at HPA
  clear hb1 hg1 hbG qG HGO
  generalize w1.alloc (.cells #[.slice a1 tpG.terms.length c1, .slice a2 tpG.nons.length c2, .slice a3 tpG.prods.length c3] 28) = S at *
  generalize w1.heap.size = BG at *
  have g0 := (blk_cell (i := 0) HQ.out rfl).1
  have g1 := (blk_cell (i := 1) HQ.out rfl).1
  have g2 := (blk_cell (i := 2) HQ.out rfl).1
  have lG := heap_lt HQ.out
  go_upto_region 3 with (go_at_call 56; refine HPA.out.mono ?_; rintro e w2 ⟨hb2, tl, hpl, rfl, hli⟩)
  obtain ⟨hbT, _, qT⟩ := one_alloc w2 (.cells #[.int .i64 tl.sym, .int .i64 tl.prod, .slice tl.a tl.kids.length tl.c] 86)
  have hb2T := hb2.trans (hbT.mono hb2.size)
  have HQT := Lib.hid qT
  have HB2 := Lib.hid (HB.out.trans (hb2T.mono HB.out.size))
  have HL2 := Lib.hid (hli.under hbT)
  have HPL := Lib.hid hpl
  clear hb2 hbT hb2T qT hli hpl g0 g1 g2 lG HPA HB HQ HG
  generalize w2.alloc (.cells #[.int .i64 tl.sym, .int .i64 tl.prod, .slice tl.a tl.kids.length tl.c] 86) = S3 at *
  generalize w2.heap.size = T at *
  obtain ⟨m1, hm1, hl1⟩ : ∃ m : Nat, prod % 6 = m ∧ m < 6 := ⟨(prod % 6).toNat, by omega, by omega⟩
  obtain ⟨m2, hm2, hl2⟩ : ∃ m : Nat, dot % 6 = m ∧ m < 6 := ⟨(dot % 6).toNat, by omega, by omega⟩
  obtain ⟨m3, hm3, hl3⟩ : ∃ m : Nat, place % 6 = m ∧ m < 6 := ⟨(place % 6).toNat, by omega, by omega⟩
  have HW1 := Lib.hid fun W => (within_any prod 6 (by omega) (by omega) W).mono fun e w' ⟨he, hw⟩ => (⟨he.trans (by rw [hm1]), hw⟩ : e = Ending.returned (.int .i64 m1) ∧ w' = W)
  have HW2 := Lib.hid fun W => (within_any dot 6 (by omega) (by omega) W).mono fun e w' ⟨he, hw⟩ => (⟨he.trans (by rw [hm2]), hw⟩ : e = Ending.returned (.int .i64 m2) ∧ w' = W)
  have HW3 := Lib.hid fun W => (within_any place 6 (by omega) (by omega) W).mono fun e w' ⟨he, hw⟩ => (⟨he.trans (by rw [hm3]), hw⟩ : e = Ending.returned (.int .i64 m3) ∧ w' = W)
  have HTP := Lib.hid (tp_at m1 m2 m3 hl1 hl2 hl3)
  clear hm1 hm2 hm3
  go_upto_region 7 with (go_at_call 22; first
        | ((with_reducible refine (HW1.out _).mono ?_); rintro e w5 ⟨rfl, hw5⟩; rw [hw5]; clear hw5)
        | ((with_reducible refine (HW2.out _).mono ?_); rintro e w5 ⟨rfl, hw5⟩; rw [hw5]; clear hw5)
        | ((with_reducible refine (HW3.out _).mono ?_); rintro e w5 ⟨rfl, hw5⟩; rw [hw5]; clear hw5))
  go_wp2_with fail
  have hZ := ‹S3.heap.size = T + 1›
  have HBL := Lib.hid (box_belowT S3 (.cells #[.int .i64 0, .int .i64 0, .int .i64 0, .int .i64 0, .int .i64 1, .int .i64 0, .int .i64 0, .int .i64 2, .int .i64 1, .int .i64 0, .int .i64 3, .int .i64 4, .int .i64 0, .int .i64 0, .int .i64 1, .int .i64 0, .int .i64 1, .int .i64 2, .int .i64 0, .int .i64 2, .int .i64 3, .int .i64 2, .int .i64 0, .int .i64 0, .int .i64 3, .int .i64 0, .int .i64 1, .int .i64 3, .int .i64 1, .int .i64 2] 94))
  have HCV : Hid (Cells (S3.alloc (.cells #[.int .i64 0, .int .i64 0, .int .i64 0, .int .i64 0, .int .i64 1, .int .i64 0, .int .i64 0, .int .i64 2, .int .i64 1, .int .i64 0, .int .i64 3, .int .i64 4, .int .i64 0, .int .i64 0, .int .i64 1, .int .i64 0, .int .i64 1, .int .i64 2, .int .i64 0, .int .i64 2, .int .i64 3, .int .i64 2, .int .i64 0, .int .i64 0, .int .i64 3, .int .i64 0, .int .i64 1, .int .i64 3, .int .i64 1, .int .i64 2] 94)) (some ⟨T + 1, 0, none⟩) tpV) := Lib.hid (by
    have := cells_new S3 #[.int .i64 0, .int .i64 0, .int .i64 0, .int .i64 0, .int .i64 1, .int .i64 0, .int .i64 0, .int .i64 2, .int .i64 1, .int .i64 0, .int .i64 3, .int .i64 4, .int .i64 0, .int .i64 0, .int .i64 1, .int .i64 0, .int .i64 1, .int .i64 2, .int .i64 0, .int .i64 2, .int .i64 3, .int .i64 2, .int .i64 0, .int .i64 0, .int .i64 3, .int .i64 0, .int .i64 1, .int .i64 3, .int .i64 1, .int .i64 2] 94
    rw [hZ] at this
    exact this)
  generalize S3.alloc (.cells #[.int .i64 0, .int .i64 0, .int .i64 0, .int .i64 0, .int .i64 1, .int .i64 0, .int .i64 0, .int .i64 2, .int .i64 1, .int .i64 0, .int .i64 3, .int .i64 4, .int .i64 0, .int .i64 0, .int .i64 1, .int .i64 0, .int .i64 1, .int .i64 2, .int .i64 0, .int .i64 2, .int .i64 3, .int .i64 2, .int .i64 0, .int .i64 0, .int .i64 3, .int .i64 0, .int .i64 1, .int .i64 3, .int .i64 1, .int .i64 2] 94) = S4 at *
  generalize (some ⟨T + 1, 0, none⟩ : Option Addr) = ad at *
  clear hZ
  go_loopw [13, 54] (fun wv i wr => ∃ k : Nat, k ≤ 10 ∧ i = .int .i64 k ∧ wv = .bool (tpAny ((m1 : Int) - 1) ((m2 : Int) - 1) ((m3 : Int) - 1) k) ∧ Below S4.heap.size S4 wr) (fun _ i _ => 10 - (intOf i).toNat)
  case atStart => exact ⟨0, Nat.zero_le _, rfl, rfl, Below.refl _ _⟩
  case round =>
    obtain ⟨k, hk, rfl, rfl, hbe⟩ := hrel
    by_cases hlt : k < 10
    · obtain ⟨⟨a, b, c⟩, hx⟩ : ∃ x, tpL[k]? = some x := ⟨_, List.getElem?_eq_getElem hlt⟩
      obtain ⟨v0, v1, v2⟩ := tp_vals _ _ _ _ hx
      obtain ⟨bk, off, rfl, hb, hc⟩ := (HCV.out.below hbe).get (by decide)
      have x0 := hc _ _ v0
      have x1 := hc _ _ v1
      have x2 := hc _ _ v2
      rw [← Nat.add_assoc] at x1 x2
      have HST := Lib.hid (tp_step ((m1 : Int) - 1) ((m2 : Int) - 1) ((m3 : Int) - 1) k hx)
      have HBE := Lib.hid hbe
      have hbA := Lib.hid (hbe.trans ((box_belowT wr (.cells #[.int .i64 a, .int .i64 b, .int .i64 c] 94)).mono hbe.size))
      obtain ⟨r, hr⟩ : ∃ r, r = ((a == (m1 : Int) - 1) && ((b == (m2 : Int) - 1) && (c == (m3 : Int) - 1))) := ⟨_, rfl⟩
      have hq1 : ∀ W, (binOp .eql 94 (.agg #[.int .i64 a, .int .i64 b, .int .i64 c]) (.agg #[.int .i64 ((m1 : Int) - 1), .int .i64 ((m2 : Int) - 1), .int .i64 ((m3 : Int) - 1)])).run Try.prog W = .ok (.bool r) W := fun W => by rw [hr]; exact eql3 _ _ _ _ _ _ W
      have hq2 : ∀ W, (Op.equalIn 10000 94 (.agg #[.int .i64 a, .int .i64 b, .int .i64 c]) (.agg #[.int .i64 ((m1 : Int) - 1), .int .i64 ((m2 : Int) - 1), .int .i64 ((m3 : Int) - 1)])).run Try.prog W = .ok r W := fun W => by rw [hr]; exact equal3 9998 _ _ _ _ _ _ W
      have HR := Lib.hid hr
      clear hc v0 v1 v2 hx hbe hr
      generalize tpAny ((m1 : Int) - 1) ((m2 : Int) - 1) ((m3 : Int) - 1) k = B at *
      cases B
      · go_wp2
        exact ⟨⟨k + 1, by omega, by go_num, by rw [HST.out, HR.out, Bool.false_or]; rfl, hbA.out⟩, by simp [intOf]; omega⟩
      · go_wp2
        exact ⟨⟨k + 1, by omega, by go_num, by rw [HST.out, Bool.true_or], hbA.out⟩, by simp [intOf]; omega⟩
    · obtain rfl : k = 10 := by omega
      have HB33 := Lib.hid (HBL.out.trans (hbe.mono HBL.out.size))
      have HAT : Hid (∀ W, Below S3.heap.size S3 W → Calls Try.prog 63 #[tl.v, .int .i64 ((m1 : Int) - 1), .int .i64 ((m2 : Int) - 1), .int .i64 ((m3 : Int) - 1)] W fun e w' => e = .returned (.bool (tpAny ((m1 : Int) - 1) ((m2 : Int) - 1) ((m3 : Int) - 1) 10)) ∧ Below W.heap.size W w') := Lib.hid fun W hW => by
        have h := tat_any tl _ ((m1 : Int) - 1) ((m2 : Int) - 1) ((m3 : Int) - 1) W (HL2.out.under hW) (by rw [HPL.out, tp_size]; decide)
        rw [HPL.out, HTP.out] at h
        exact h
      have HAT2 : Hid (∀ W, Calls Try.prog 63 #[.agg #[.int .i64 1, .int .i64 (-1), .slice none 0 0], .int .i64 (-1), .int .i64 0, .int .i64 0] W fun e w' => e = .returned (.bool false) ∧ Below W.heap.size W w') := Lib.hid fun W => by
        have h := tat_any (.mk 1 (-1) none 0 []) _ (-1) 0 0 W (Lies.leaf (fun _ => True) W 1 (-1) none 0) (by decide)
        rw [at_neg (by decide)] at h
        exact h
      unfold Tl.v at HAT
      generalize tpAny ((m1 : Int) - 1) ((m2 : Int) - 1) ((m3 : Int) - 1) 10 = B at *
      have HSK : Hid (∀ W W' : World, Hid (Below S3.heap.size S3 W) → Below W.heap.size W W' → (W'.cell? ⟨T, 0, none⟩ = some (.int .i64 tl.sym) ∧ W'.cell? ⟨T, 1, none⟩ = some (.int .i64 tl.prod) ∧ W'.cell? ⟨T, 2, none⟩ = some (.slice tl.a tl.kids.length tl.c)) ∧ Hid (Below S3.heap.size S3 W')) := Lib.hid fun W W' h k => by
        have hb := h.out.trans (k.mono h.out.size)
        have z1 := (hb.block _ (heap_lt HQT.out)).trans HQT.out
        exact ⟨⟨(blk_cell z1 rfl).1, (blk_cell z1 rfl).1, (blk_cell z1 rfl).1⟩, Lib.hid hb⟩
      clear hbe hlt
      obtain ⟨⟨t0, t1, t2⟩, -⟩ := HSK.out _ _ HB33 (Below.refl _ _)
      have lT : T < wr.heap.size := heap_lt ((HB33.out.block _ (heap_lt HQT.out)).trans HQT.out)
      go_upto_region 12 with fail
      cases B
      all_goals
        go_wp2_with (first
            | (go_at_call 63; first
              | ((with_reducible refine (HAT.out _ HB33.out).mono ?_); rintro e w5 ⟨rfl, hb5⟩)
              | ((with_reducible refine (HAT2.out _).mono ?_); rintro e w6 ⟨rfl, hb6⟩))
            | (go_at_call 62; refine (HWK.out _).mono ?_; rintro e w7 ⟨rfl, hb7⟩))
        go_ret
        exact ⟨rfl, HB2.out.trans ((HB33.out.trans ((hb5.trans ((hb6.trans (hb7.mono hb6.size)).mono hb5.size)).mono HB33.out.size)).mono HB2.out.size)⟩

end Go.Proofs.Ytodikfihhggmcaa
