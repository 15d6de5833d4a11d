/- StatesErrors: walked. -/
import Derived.Test.YtejjdfmobiegdaaDoorStY
set_option linter.unusedVariables false
namespace Go.Proofs.YtejjdfmobiegdaaDoor
open Go.RowKit
open Doc

def eh : Gr := ⟨[[97]], [[83]], [(100, [100, 1])]⟩
theorem eh_parse : parse [83, 58, 32, 83, 32, 97, 10] = .ok eh := by decide +kernel
theorem eh_check : CheckG eh := (chk_iff eh).1 (by decide +kernel)
theorem eh_no : ¬ Fru eh 100 := fun h => by
  have := (fru_C eh_check).2 h
  revert this
  decide +kernel
def g0 : Gr := ⟨[], [], []⟩
theorem g0_mid : MidG g0 := ⟨⟨by simp [g0], fun x hx => by cases hx⟩, ⟨by simp [g0], fun x hx => by cases hx⟩, ⟨by simp [g0], fun x hx => by cases hx⟩⟩
theorem g0_no : ¬ CheckG g0 := fun h => by have := h.t1; simp [g0] at this
theorem g0_at (W : World) : GramAt W (.agg #[.slice none 0 0, .slice none 0 0, .slice none 0 0]) g0 :=
  ⟨none, none, none, 0, 0, 0, [], rfl, rfl, .inl rfl, .inl rfl, .inl rfl, fun p hp => (by cases hp), Nat.le_refl _, Nat.le_refl _, Nat.le_refl _⟩
theorem gformS {w : World} {v : Value} {g : Gr} (h : GramAt w v g) : ∃ a1 a2 a3 c1 c2 c3, v = .agg #[.slice a1 g.terms.length c1, .slice a2 g.nons.length c2, .slice a3 g.prods.length c3] := by
  obtain ⟨a1, a2, a3, c1, c2, c3, ls, rfl, hp, _⟩ := h
  have hpl : ls.length = g.prods.length := by rw [← hp, List.length_map]
  exact ⟨a1, a2, a3, c1, c2, c3, by rw [hpl]⟩
set_option maxRecDepth 100000 in
set_option maxHeartbeats 8000000 in
theorem statesErrors_walk (n : Int) (w : World) (HT : Sl.Tab w) :
    Calls Tryd.prog 6 #[.int .i64 n] w fun e w' => e = .returned (.bool true) ∧ Below w.heap.size w w' := by
  have HTT := Lib.hid HT
  obtain ⟨m, hm, hml⟩ : ∃ m : Nat, n % 1000 = (m : Int) ∧ m < 1000 := ⟨(n % 1000).toNat, by omega, by omega⟩
  have HWI := Lib.hid fun W => within_any n 1000 (by omega) (by omega) W
  rw [hm] at HWI
  have hw1 : IntKind.i64.wrap (1 + (m : Int)) = 1 + (m : Int) := IntWalk.i64_in _ (by omega)
  have hw2 : IntKind.i64.wrap (-(1 + (m : Int))) = -(1 + (m : Int)) := IntWalk.i64_in _ (by omega)
  have hw3 : IntKind.i64.wrap (600 + (1 + (m : Int))) = 600 + (1 + (m : Int)) := IntWalk.i64_in _ (by omega)
  have HGO := Lib.hid fun W => good_wg W
  have HNB := Lib.hid fun v W b (h : GramAt W v wg11) (hb0 : ¬ (1 ≤ b ∧ b ≤ 600)) (hT : Sl.Tab W) => (snew_any v wg11 b W h wg11_check hT).mono fun e w' ⟨hb, he⟩ => (by
    rcases he with ⟨hn, _⟩ | ⟨_, _, he⟩ | ⟨_, hn, _⟩
    · exact absurd wg11_fru hn
    · exact ⟨he, hb⟩
    · exact absurd hn hb0 : NilTo 1 W e w')
  have HNH := Lib.hid fun v W b (h : GramAt W v eh) (hT : Sl.Tab W) => (snew_any v eh b W h eh_check hT).mono fun e w' ⟨hb, he⟩ => (by
    rcases he with ⟨_, he⟩ | ⟨hn, _⟩ | ⟨hn, _⟩
    · exact ⟨he, hb⟩
    · exact absurd hn eh_no
    · exact absurd hn eh_no : NilTo 6 W e w')
  have HNZ := Lib.hid fun W b => (snew_no _ g0 b W (g0_at W) g0_mid g0_no : Calls _ _ _ W (NilTo 1 W))
  have HP1 := Lib.hid fun W => rparse_ok ⟨#[83, 58, 32, 83, 32, 97, 10]⟩ eh W (by decide) eh_parse
  have HWK := Lib.hid fun W (hT : Sl.Tab W) => wakes12_any W hT
  unfold NilTo at HNB HNH HNZ
  clear HT hm
  go_enter Tryd.func6, Tryd.ntmps6
  go_upto_region 2 with (go_at_call 12; (with_reducible refine (HWI.out _).mono ?_); rintro e w1 ⟨rfl, hw⟩; rw [hw]; clear hw)
  go_wp2_with fail
  have hS : Below w.heap.size w (w.alloc (.cells #[.int .i64 0, .int .i64 (-(1 + (m : Int))), .int .i64 (600 + (1 + (m : Int)))] 3)) := (Below.refl _ _).alloc (Nat.le_refl _) _
  have HQ := Lib.hid (heap_alloc_new w (.cells #[.int .i64 0, .int .i64 (-(1 + (m : Int))), .int .i64 (600 + (1 + (m : Int)))] 3))
  have HS := Lib.hid hS
  clear hS hw1 hw2 hw3
  generalize w.alloc (.cells #[.int .i64 0, .int .i64 (-(1 + (m : Int))), .int .i64 (600 + (1 + (m : Int)))] 3) = S at *
  generalize hB0 : w.heap.size = B0 at *
  have HB0 := Lib.hid hB0
  clear hB0
  have hl0 := heap_lt HQ.out
  go_loopw [26] (fun i wr => ∃ k : Nat, k ≤ 3 ∧ i = .int .i64 k ∧ Hid (Below S.heap.size S wr)) (fun i _ => 3 - (intOf i).toNat)
  case atStart => exact ⟨0, by omega, rfl, Lib.hid (Below.refl _ _)⟩
  case round =>
    obtain ⟨k, hk, rfl, HB⟩ := hrel
    rename World => w5
    have HT5 := Lib.hid ((HTT.out.below (by rw [HB0.out]; exact HS.out)).below HB.out)
    by_cases hlt : k < 3
    · have hlt' : (k : Int) < 3 := by omega
      have hq5 := (HB.out.block B0 hl0).trans HQ.out
      obtain ⟨bv, hc, hbv⟩ : ∃ bv : Int, w5.cell? ⟨B0, k, none⟩ = some (.int .i64 bv) ∧ ¬ (1 ≤ bv ∧ bv ≤ 600) := by
        rcases (show k = 0 ∨ k = 1 ∨ k = 2 by omega) with rfl | rfl | rfl
        · exact ⟨0, (blk_cell hq5 rfl).1, by omega⟩
        · exact ⟨_, (blk_cell hq5 rfl).1, by omega⟩
        · exact ⟨_, (blk_cell hq5 rfl).1, by omega⟩
      have hl5 := heap_lt hq5
      have HBV := Lib.hid hbv
      clear hq5 hbv
      go_wp2_with (first
        | (go_at_call 33; refine (HGO.out _).mono ?_; rintro e w6 ⟨hb6, v, rfl, hg6⟩)
        | (go_at_call 26; refine (HNB.out _ _ _ hg6 HBV.out (HT5.out.below hb6)).mono ?_; rintro e w7 ⟨rfl, hb7⟩))
      go_roundw
      case rel => exact ⟨k + 1, by omega, by go_num, Lib.hid (HB.out.trans ((hb6.trans (hb7.mono hb6.size)).mono HB.out.size))⟩
      case measure => simp [intOf]; omega
    · have hge : ¬ (k : Int) < 3 := by omega
      have HB5 := Lib.hid (HS.out.trans (HB.out.mono (Nat.le_of_lt hl0)))
      clear HQ hl0 HB
      go_upto_region 10 with (go_at_call 25; refine (HP1.out _).mono ?_; rintro e w6 ⟨v, rfl, hb6, hg6⟩; obtain ⟨a1, a2, a3, c1, c2, c3, rfl⟩ := gformS hg6.at_)
      have hbS : Below w6.heap.size w6 (w6.alloc (.cells #[.slice a1 eh.terms.length c1, .slice a2 eh.nons.length c2, .slice a3 eh.prods.length c3] 29)) := (Below.refl _ _).alloc (Nat.le_refl _) _
      have HQ7 := Lib.hid (heap_alloc_new w6 (.cells #[.slice a1 eh.terms.length c1, .slice a2 eh.nons.length c2, .slice a3 eh.prods.length c3] 29))
      have HG7 := Lib.hid (hg6.at_.below hbS)
      have HT7 := Lib.hid ((HT5.out.below hb6).below hbS)
      have HB7 := Lib.hid ((HB5.out.trans (hb6.mono (by rw [← HB0.out]; exact HB5.out.size))).trans (hbS.mono (Nat.le_trans (by rw [← HB0.out]; exact HB5.out.size) hb6.size)))
      clear hb6 hg6 hbS HT5 HB5
      generalize w6.alloc (.cells #[.slice a1 eh.terms.length c1, .slice a2 eh.nons.length c2, .slice a3 eh.prods.length c3] 29) = S7 at *
      generalize w6.heap.size = B7 at *
      have HF := Lib.hid fun (W : World) (hW : Below S7.heap.size S7 W) => (show (W.cell? ⟨B7, 0, none⟩ = some (.slice a1 eh.terms.length c1) ∧ W.cell? ⟨B7, 1, none⟩ = some (.slice a2 eh.nons.length c2) ∧ W.cell? ⟨B7, 2, none⟩ = some (.slice a3 eh.prods.length c3)) ∧ B7 < W.heap.size from by
        have hq := (hW.block B7 (heap_lt HQ7.out)).trans HQ7.out
        exact ⟨⟨(blk_cell (i := 0) hq rfl).1, (blk_cell (i := 1) hq rfl).1, (blk_cell (i := 2) hq rfl).1⟩, heap_lt hq⟩)
      obtain ⟨⟨x0, x1, x2⟩, xl⟩ := HF.out S7 (Below.refl _ _)
      go_upto_region 13 with (first
        | (go_at_call 26; (with_reducible refine (HNH.out _ _ 9 HG7.out HT7.out).mono ?_); rintro e w8 ⟨rfl, hb8⟩; obtain ⟨⟨y0, y1, y2⟩, yl⟩ := HF.out w8 hb8)
        | (go_at_call 26; (with_reducible refine (HNZ.out _ 9).mono ?_); rintro e w9 ⟨rfl, hb9⟩; have hb89 := hb8.trans (hb9.mono hb8.size); obtain ⟨⟨z0, z1, z2⟩, zl⟩ := HF.out w9 hb89)
        | (go_at_call 26; (with_reducible refine (HNH.out _ _ 0 (HG7.out.below hb89) (HT7.out.below hb89)).mono ?_); rintro e w10 ⟨rfl, hb10⟩))
      have HB10 := Lib.hid (hb89.trans (hb10.mono hb89.size))
      have HT10 := Lib.hid (HT7.out.below HB10.out)
      clear hb8 hb9 hb89 hb10 x0 x1 x2 xl y0 y1 y2 yl z0 z1 z2 zl HF HG7 HT7 HQ7
      go_wp2_with (go_at_call 32; (with_reducible refine (HWK.out _ HT10.out).mono ?_); rintro e w11 ⟨rfl, hb11⟩)
      go_ret
      have hz7 : B0 ≤ S7.heap.size := by rw [← HB0.out]; exact HB7.out.size
      have hz10 : B0 ≤ w10.heap.size := Nat.le_trans hz7 HB10.out.size
      exact ⟨rfl, by rw [HB0.out]; exact (HB7.out.trans (HB10.out.mono hz7)).trans (hb11.mono hz10)⟩
end Go.Proofs.YtejjdfmobiegdaaDoor
