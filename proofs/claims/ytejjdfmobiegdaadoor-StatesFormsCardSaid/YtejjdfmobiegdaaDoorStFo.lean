/- StatesForms: walked. -/
import Derived.Test.YtejjdfmobiegdaaDoorStErr
import Derived.Test.YtejjdfmobiegdaaDoorStS
import Derived.Deep.RegionHeld3
set_option linter.unusedVariables false
namespace Go.Proofs.YtejjdfmobiegdaaDoor
open Go.RowKit
open Doc

def fs0 : Gr := ⟨[[97], [98]], [[83], [65]], [(100, [101, 101]), (101, [1, 101]), (101, [2])]⟩
theorem fs_parse : parse [83, 58, 32, 65, 32, 65, 10, 65, 58, 32, 97, 32, 65, 32, 124, 32, 98, 10] = .ok fs0 := by decide +kernel
theorem fs_check : CheckG fs0 := (chk_iff fs0).1 (by decide +kernel)
theorem fs_fru : Fru fs0 100 := (fru_C fs_check).1 (by decide +kernel)
theorem fs_fix : fixB fs0 = true := by decide +kernel
def fsL : List StP := [⟨[(-1, 0, 0), (0, 0, 0), (1, 0, 1), (1, 0, 2), (2, 0, 1), (2, 0, 2)], 0, [(101, 4), (100, 3), (2, 2), (1, 1)]⟩, ⟨[(1, 0, 1), (1, 0, 2), (1, 1, 1), (1, 1, 2), (2, 0, 1), (2, 0, 2)], 1, [(101, 5), (2, 2), (1, 1)]⟩, ⟨[(2, 1, 1), (2, 1, 2)], 2, []⟩, ⟨[(-1, 1, 0)], 100, []⟩, ⟨[(0, 1, 0), (1, 0, 0), (2, 0, 0)], 101, [(101, 8), (2, 7), (1, 6)]⟩, ⟨[(1, 2, 1), (1, 2, 2)], 101, []⟩, ⟨[(1, 0, 0), (1, 1, 0), (2, 0, 0)], 1, [(101, 9), (2, 7), (1, 6)]⟩, ⟨[(2, 1, 0)], 2, []⟩, ⟨[(0, 2, 0)], 101, []⟩, ⟨[(1, 2, 0)], 101, []⟩]
theorem fs_mach : machS (kC fs0) fs0 10 = some fsL := by decide +kernel
theorem fs_k : kOf fs0 = kC fs0 := (kOf_eq (kC_is fs_check fs_fix)).symm
def fsT : List (Int × Int × Int) := [(0, 1, 1), (0, 2, 2), (0, 100, 3), (0, 101, 4), (1, 1, 1), (1, 2, 2), (1, 101, 5), (4, 1, 6), (4, 2, 7), (4, 101, 8), (6, 1, 6), (6, 2, 7), (6, 101, 9), (2, 1, -1), (3, 1, -1), (9, 100, -1), (10, 1, -1), (-1, 1, -1)]
theorem fsT_go : ∀ x ∈ fsT, goI fsL x.1 x.2.1 = x.2.2 ∧ (-1 ≤ x.1 ∧ x.1 ≤ 10) ∧ 1 ≤ x.2.1 ∧ x.2.1 ≤ 101 := by decide
def fsB : List Int := [0, 1, 2, 100, 101, 101, 1, 2, 101, 101]
theorem fsB_by : ∀ k, k < 10 → byI fsL (k : Nat) = fsB.getD k 0 := by decide
theorem fs_it2 : itI fsL 2 = [(2, 1, 1), (2, 1, 2)] := by decide
theorem fs_it7 : itI fsL 7 = [(2, 1, 0)] := by decide
theorem fs_it10 : itI fsL 10 = [] := by decide
set_option maxRecDepth 100000 in
set_option maxHeartbeats 16000000 in
theorem statesForms_walk (n : Int) (w : World) (HT : Sl.Tab w) :
    Calls Tryd.prog 5 #[.int .i64 n] w fun e w' => e = .returned (.bool true) ∧ Below w.heap.size w w' := by
  have HTT := Lib.hid HT
  obtain ⟨m, hm, hml⟩ : ∃ m : Nat, n % 100 = (m : Int) ∧ m < 100 := ⟨(n % 100).toNat, by omega, by omega⟩
  have HWI := Lib.hid fun W => within_any n 100 (by omega) (by omega) W
  rw [hm] at HWI
  have hw1 : IntKind.i64.wrap (10 + (m : Int)) = 10 + (m : Int) := IntWalk.i64_in _ (by omega)
  have HP1 := Lib.hid fun W => rparse_ok ⟨#[83, 58, 32, 65, 32, 65, 10, 65, 58, 32, 97, 32, 65, 32, 124, 32, 98, 10]⟩ fs0 W (by decide) fs_parse
  have HOK := Lib.hid fun v W (h : GramAt W v fs0) (hT : Sl.Tab W) => snew_ok (b := 10 + (m : Int)) h fs_check hT fs_fru (by omega) (all := fsL) (by rw [fs_k]; exact mach_as fs_mach (by show 10 ≤ _; omega))
  have HFW := Lib.hid fun v W (h : GramAt W v fs0) (hT : Sl.Tab W) => snew_few (b := 9) h fs_check hT fs_fru (by omega) (by rw [fs_k]; exact mach_few fs_mach (by decide) (by decide))
  unfold OkTo at HOK
  unfold NilTo at HFW
  clear HT hm
  go_enter Tryd.func5, Tryd.ntmps5
  go_upto_region 2 with (go_at_call 25; refine (HP1.out _).mono ?_; rintro e w6 ⟨v, rfl, hb6, hg6⟩; obtain ⟨a1, a2, a3, c1, c2, c3, rfl⟩ := gformS hg6.at_)
  have hbS : Below w6.heap.size w6 (w6.alloc (.cells #[.slice a1 fs0.terms.length c1, .slice a2 fs0.nons.length c2, .slice a3 fs0.prods.length c3] 29)) := (Below.refl _ _).alloc (Nat.le_refl _) _
  have HQ7 := Lib.hid (heap_alloc_new w6 (.cells #[.slice a1 fs0.terms.length c1, .slice a2 fs0.nons.length c2, .slice a3 fs0.prods.length c3] 29))
  have HG7 := Lib.hid (hg6.at_.below hbS)
  have HT7 := Lib.hid ((HTT.out.below hb6).below hbS)
  have HB7 := Lib.hid (hb6.trans (hbS.mono hb6.size))
  clear hb6 hg6 hbS
  generalize w6.alloc (.cells #[.slice a1 fs0.terms.length c1, .slice a2 fs0.nons.length c2, .slice a3 fs0.prods.length c3] 29) = S7 at *
  generalize w6.heap.size = B7 at *
  have HF := Lib.hid fun (W : World) (hW : Below S7.heap.size S7 W) => (show (W.cell? ⟨B7, 0, none⟩ = some (.slice a1 fs0.terms.length c1) ∧ W.cell? ⟨B7, 1, none⟩ = some (.slice a2 fs0.nons.length c2) ∧ W.cell? ⟨B7, 2, none⟩ = some (.slice a3 fs0.prods.length c3)) ∧ B7 < W.heap.size from by
    have hq := (hW.block B7 (heap_lt HQ7.out)).trans HQ7.out
    exact ⟨⟨(blk_cell (i := 0) hq rfl).1, (blk_cell (i := 1) hq rfl).1, (blk_cell (i := 2) hq rfl).1⟩, heap_lt hq⟩)
  have hr7 : Below S7.heap.size S7 S7 := Below.refl _ _
  obtain ⟨⟨x0, x1, x2⟩, xl⟩ := HF.out S7 hr7
  have HOS := Lib.hid (HOK.out _ S7 HG7.out HT7.out)
  clear hr7 HOK HP1
  go_upto_region 6 with (first
    | (go_at_call 12; (with_reducible refine (HWI.out _).mono ?_); rintro e w1 ⟨rfl, hw⟩; rw [hw]; clear hw)
    | (go_at_call 26; (with_reducible refine HOS.out.mono ?_); rintro e w8 ⟨B, G, sa, sc, ss, rfl, hb8, hps, _, hm8⟩))
  have hsl : ss.length = 10 := by have : (plS ss).length = 10 := by rw [hps]; rfl
                                  simpa [plS] using this
  have HW8 := Lib.hid hb8
  have HXM := Lib.hid fun (W : World) (hW : Below w8.heap.size w8 W) => (⟨hm8.below hW, HT7.out.below (hb8.trans (hW.mono hb8.size)), HF.out W (hb8.trans (hW.mono hb8.size)), HG7.out.below (hb8.trans (hW.mono hb8.size))⟩ : MacAt W B _ fs0 G sa sc ss ∧ Sl.Tab W ∧ ((W.cell? ⟨B7, 0, none⟩ = some (.slice a1 fs0.terms.length c1) ∧ W.cell? ⟨B7, 1, none⟩ = some (.slice a2 fs0.nons.length c2) ∧ W.cell? ⟨B7, 2, none⟩ = some (.slice a3 fs0.prods.length c3)) ∧ B7 < W.heap.size) ∧ GramAt W _ fs0)
  have HLN := Lib.hid fun (W : World) (hW : Below w8.heap.size w8 W) => (mlen_any B _ fs0 G sa sc ss W (HXM.out W hW).1)
  rw [hsl] at HLN
  rw [show ((10 : Nat) : Int) = 10 from rfl] at HLN
  have HIT := Lib.hid fun (i : Int) (W : World) (hW : Below w8.heap.size w8 W) => mitems_any B _ fs0 G sa sc ss i W (HXM.out W hW).1
  rw [hps] at HIT
  have HGO := Lib.hid fun (i s : Int) (h1 : -1000 ≤ s) (h2 : s ≤ 1000) (W : World) (hW : Below w8.heap.size w8 W) => mgo_any B _ fs0 G sa sc ss i s (by omega) (by omega) W (HXM.out W hW).1
  rw [hps] at HGO
  have HBY := Lib.hid fun (i : Int) (W : World) (hW : Below w8.heap.size w8 W) => mby_any B _ fs0 G sa sc ss i W (HXM.out W hW).1
  rw [hps] at HBY
  have HWK := Lib.hid fun W (hW : Below w8.heap.size w8 W) => wakes12_any W (HXM.out W hW).2.1
  have hr8 : Below w8.heap.size w8 w8 := Below.refl _ _
  have HR8 := Lib.hid hr8
  clear hb8 hps hm8 hsl hr8 x0 x1 x2 xl HOS
  go_wp2_with (go_at_call 27; (with_reducible refine (HLN.out w8 HR8.out).mono ?_); rintro e w9 ⟨rfl, hw⟩; rw [hw]; clear hw)
  have hA : Below w8.heap.size w8 (w8.alloc (.cells #[.int .i64 0, .int .i64 1, .int .i64 1, .int .i64 0, .int .i64 2, .int .i64 2, .int .i64 0, .int .i64 100, .int .i64 3, .int .i64 0, .int .i64 101, .int .i64 4, .int .i64 1, .int .i64 1, .int .i64 1, .int .i64 1, .int .i64 2, .int .i64 2, .int .i64 1, .int .i64 101, .int .i64 5, .int .i64 4, .int .i64 1, .int .i64 6, .int .i64 4, .int .i64 2, .int .i64 7, .int .i64 4, .int .i64 101, .int .i64 8, .int .i64 6, .int .i64 1, .int .i64 6, .int .i64 6, .int .i64 2, .int .i64 7, .int .i64 6, .int .i64 101, .int .i64 9, .int .i64 2, .int .i64 1, .int .i64 (-1), .int .i64 3, .int .i64 1, .int .i64 (-1), .int .i64 9, .int .i64 100, .int .i64 (-1), .int .i64 10, .int .i64 1, .int .i64 (-1), .int .i64 (-1), .int .i64 1, .int .i64 (-1)] 48)) := (Below.refl _ _).alloc (Nat.le_refl _) _
  have HQA := Lib.hid (show (w8.alloc (.cells #[.int .i64 0, .int .i64 1, .int .i64 1, .int .i64 0, .int .i64 2, .int .i64 2, .int .i64 0, .int .i64 100, .int .i64 3, .int .i64 0, .int .i64 101, .int .i64 4, .int .i64 1, .int .i64 1, .int .i64 1, .int .i64 1, .int .i64 2, .int .i64 2, .int .i64 1, .int .i64 101, .int .i64 5, .int .i64 4, .int .i64 1, .int .i64 6, .int .i64 4, .int .i64 2, .int .i64 7, .int .i64 4, .int .i64 101, .int .i64 8, .int .i64 6, .int .i64 1, .int .i64 6, .int .i64 6, .int .i64 2, .int .i64 7, .int .i64 6, .int .i64 101, .int .i64 9, .int .i64 2, .int .i64 1, .int .i64 (-1), .int .i64 3, .int .i64 1, .int .i64 (-1), .int .i64 9, .int .i64 100, .int .i64 (-1), .int .i64 10, .int .i64 1, .int .i64 (-1), .int .i64 (-1), .int .i64 1, .int .i64 (-1)] 48)).heap[w8.heap.size]? = some (.cells (itsV fsT).toArray 48) from heap_alloc_new w8 _)
  have HBA := Lib.hid hA
  clear hA
  generalize w8.alloc (.cells #[.int .i64 0, .int .i64 1, .int .i64 1, .int .i64 0, .int .i64 2, .int .i64 2, .int .i64 0, .int .i64 100, .int .i64 3, .int .i64 0, .int .i64 101, .int .i64 4, .int .i64 1, .int .i64 1, .int .i64 1, .int .i64 1, .int .i64 2, .int .i64 2, .int .i64 1, .int .i64 101, .int .i64 5, .int .i64 4, .int .i64 1, .int .i64 6, .int .i64 4, .int .i64 2, .int .i64 7, .int .i64 4, .int .i64 101, .int .i64 8, .int .i64 6, .int .i64 1, .int .i64 6, .int .i64 6, .int .i64 2, .int .i64 7, .int .i64 6, .int .i64 101, .int .i64 9, .int .i64 2, .int .i64 1, .int .i64 (-1), .int .i64 3, .int .i64 1, .int .i64 (-1), .int .i64 9, .int .i64 100, .int .i64 (-1), .int .i64 10, .int .i64 1, .int .i64 (-1), .int .i64 (-1), .int .i64 1, .int .i64 (-1)] 48) = SA at *
  generalize hBA : w8.heap.size = BA at *
  have HZ := Lib.hid fun (W : World) (h : Below BA w8 W) => (by rw [← hBA]; exact h.size : BA ≤ W.heap.size)
  have HZ8 := Lib.hid (show S7.heap.size ≤ BA by rw [← hBA]; exact HW8.out.size)
  clear hBA
  have hl0 := heap_lt HQA.out
  go_loopw [71] (fun i wr => ∃ k : Nat, k ≤ 18 ∧ i = .int .i64 k ∧ Hid (Below SA.heap.size SA wr)) (fun i _ => 18 - (intOf i).toNat)
  case atStart => exact ⟨0, by omega, rfl, Lib.hid (Below.refl _ _)⟩
  case round =>
    obtain ⟨k, hk, rfl, HB⟩ := hrel
    rename World => w5
    have HBW := Lib.hid (HBA.out.trans (HB.out.mono (Nat.le_of_lt hl0)))
    by_cases hlt : k < 18
    · have hlt' : (k : Int) < 18 := by omega
      obtain ⟨⟨ta, tb, tc⟩, htx⟩ : ∃ x, fsT[k]? = some x := ⟨_, List.getElem?_eq_getElem (show k < fsT.length from hlt)⟩
      have hq5 := (HB.out.block BA hl0).trans HQA.out
      have t0 := (blk_cell (i := k * 3) hq5 (by rw [List.getElem?_toArray]; exact (its_at htx).1)).1
      have t1 := (blk_cell (i := k * 3 + 1) hq5 (by rw [List.getElem?_toArray]; exact (its_at htx).2.1)).1
      have t2 := (blk_cell (i := k * 3 + 2) hq5 (by rw [List.getElem?_toArray]; exact (its_at htx).2.2)).1
      have t3 := heap_lt hq5
      obtain ⟨g1, g2, g3, g4⟩ := fsT_go _ (List.mem_of_getElem? htx)
      simp only at g1 g2 g3 g4 t0 t1 t2
      have hA5 : Below w5.heap.size w5 (w5.alloc (.cells #[.int .i64 ta, .int .i64 tb, .int .i64 tc] 48)) := (Below.refl _ _).alloc (Nat.le_refl _) _
      have HQX := Lib.hid (heap_alloc_new w5 (.cells #[.int .i64 ta, .int .i64 tb, .int .i64 tc] 48))
      have HBX := Lib.hid (HBW.out.trans (hA5.mono (HZ.out _ HBW.out)))
      have HBS := Lib.hid (HB.out.trans (hA5.mono HB.out.size))
      have HGX := Lib.hid fun (W : World) (hW : Below BA w8 W) => HGO.out ta tb (by omega) (by omega) W hW
      rw [g1] at HGX
      clear hA5 hq5 htx g1 g2 g3 g4
      go_upto_region 12 with fail
      generalize w5.alloc (.cells #[.int .i64 ta, .int .i64 tb, .int .i64 tc] 48) = SX at *
      generalize w5.heap.size = BX at *
      have q0 := (blk_cell (i := 0) HQX.out rfl).1
      have q1 := (blk_cell (i := 1) HQX.out rfl).1
      have q2 := (blk_cell (i := 2) HQX.out rfl).1
      have q3 := heap_lt HQX.out
      have HBD := Lib.hid HBX.out.drew
      go_region_held3 (fun w' => ((w'.cell? ⟨BX, 0, none⟩ = some (.int .i64 ta) ∧ w'.cell? ⟨BX, 1, none⟩ = some (.int .i64 tb) ∧ w'.cell? ⟨BX, 2, none⟩ = some (.int .i64 tc)) ∧ BX < w'.heap.size) ∧ Hid (Below BA w8 w'))
        (first | assumption | (exact ⟨⟨⟨q0, q1, q2⟩, q3⟩, HBD⟩) | go_keep)
        (first | (go_at_call 28; (with_reducible refine (HGX.out _ (Hid.out (And.right (show _ ∧ Hid (Below BA w8 _) by assumption)))).mono ?_); rintro e wz ⟨rfl, hwz⟩; obtain rfl := hwz.symm))
      all_goals
        go_wp2
        go_roundw
        case rel => exact ⟨k + 1, by omega, by go_num, Lib.hid HBS.out.drew⟩
        case measure => simp [intOf]; omega
    · have hge : ¬ (k : Int) < 18 := by omega
      clear HQA HB hl0
      go_wp2_with fail
      have HQB := Lib.hid (show (w5.alloc (.cells #[.int .i64 0, .int .i64 1, .int .i64 2, .int .i64 100, .int .i64 101, .int .i64 101, .int .i64 1, .int .i64 2, .int .i64 101, .int .i64 101] 3)).heap[w5.heap.size]? = some (.cells (nums fsB).toArray 3) from heap_alloc_new w5 _)
      have hAB : Below w5.heap.size w5 (w5.alloc (.cells #[.int .i64 0, .int .i64 1, .int .i64 2, .int .i64 100, .int .i64 101, .int .i64 101, .int .i64 1, .int .i64 2, .int .i64 101, .int .i64 101] 3)) := (Below.refl _ _).alloc (Nat.le_refl _) _
      have HBB := Lib.hid (HBW.out.trans (hAB.mono (HZ.out _ HBW.out)))
      clear hAB
      generalize w5.alloc (.cells #[.int .i64 0, .int .i64 1, .int .i64 2, .int .i64 100, .int .i64 101, .int .i64 101, .int .i64 1, .int .i64 2, .int .i64 101, .int .i64 101] 3) = SB at *
      generalize w5.heap.size = BB at *
      have hl1 := heap_lt HQB.out
      go_loopw [92] (fun i wr => ∃ k : Nat, k ≤ 10 ∧ i = .int .i64 k ∧ Hid (Below SB.heap.size SB wr)) (fun i _ => 10 - (intOf i).toNat)
      case atStart => exact ⟨0, by omega, rfl, Lib.hid (Below.refl _ _)⟩
      case round =>
        clear hlt hge hk
        obtain ⟨k, hk, rfl, HB⟩ := hrel
        rename World => w7
        have HBW7 := Lib.hid (HBB.out.trans (HB.out.mono (HZ.out _ HBB.out)))
        by_cases hlt : k < 10
        · have hlt' : (k : Int) < 10 := by omega
          have hq5 := (HB.out.block BB hl1).trans HQB.out
          have t0 := (blk_cell (i := k) hq5 (by rw [List.getElem?_toArray]; exact nums_at (x := fsB.getD k 0) (by rw [List.getD_eq_getElem?_getD, List.getElem?_eq_getElem (show k < fsB.length from hlt)]; rfl))).1
          have t3 := heap_lt hq5
          have hby := HBY.out (k : Int) w7 HBW7.out
          rw [fsB_by k hlt] at hby
          have HBX := Lib.hid hby
          clear hq5 hby
          generalize fsB.getD k 0 = bv at *
          go_wp2_with (go_at_call 29; (with_reducible refine HBX.out.mono ?_); rintro e wc ⟨rfl, hw⟩; rw [hw]; clear hw)
          go_roundw
          case rel => exact ⟨k + 1, by omega, by go_num, HB⟩
          case measure => simp [intOf]; omega
        · have hge : ¬ (k : Int) < 10 := by omega
          obtain ⟨⟨x0, x1, x2⟩, xl⟩ := (HXM.out w7 HBW7.out).2.2.1
          have HFS := Lib.hid (HFW.out _ w7 (HXM.out w7 HBW7.out).2.2.2 (HXM.out w7 HBW7.out).2.1)
          have h2 := fun W hW => HIT.out 2 W hW
          have h7 := fun W hW => HIT.out 7 W hW
          have h10 := fun W hW => HIT.out 10 W hW
          rw [fs_it2] at h2
          rw [fs_it7] at h7
          rw [fs_it10] at h10
          have H2 := Lib.hid (show ∀ W, Below BA w8 W → Calls Tryd.prog 31 #[.pointer (some ⟨B, 0, none⟩), .int .i64 2] W (fun e w' => ∃ (a : Option Addr) (c : Nat), e = .returned (.slice a 2 c) ∧ ItsAt w' a [(2, 1, 1), (2, 1, 2)] ∧ Below W.heap.size W w') from fun W hW => (h2 W hW).mono fun e w' ⟨a, c, he, ho, _, hb⟩ => ⟨a, c, he, ho.its, hb⟩)
          have H7 := Lib.hid (show ∀ W, Below BA w8 W → Calls Tryd.prog 31 #[.pointer (some ⟨B, 0, none⟩), .int .i64 7] W (fun e w' => ∃ (a : Option Addr) (c : Nat), e = .returned (.slice a 1 c) ∧ ItsAt w' a [(2, 1, 0)] ∧ Below W.heap.size W w') from fun W hW => (h7 W hW).mono fun e w' ⟨a, c, he, ho, _, hb⟩ => ⟨a, c, he, ho.its, hb⟩)
          have H10 := Lib.hid (show ∀ W, Below BA w8 W → Calls Tryd.prog 31 #[.pointer (some ⟨B, 0, none⟩), .int .i64 10] W (fun e w' => ∃ (a : Option Addr) (c : Nat), e = .returned (.slice a 0 c) ∧ Below W.heap.size W w') from fun W hW => (h10 W hW).mono fun e w' ⟨a, c, he, ho, _, hb⟩ => ⟨a, c, he, hb⟩)
          have HS2 := Lib.hid fun (W : World) (a : Option Addr) (c : Nat) (ha : ItsAt W a [(2, 1, 1), (2, 1, 2)]) => (show Calls Tryd.prog 30 #[.slice a 2 c, .slice (some ⟨W.heap.size, 0, none⟩) 2 2] (W.alloc (.cells #[.int .i64 2, .int .i64 1, .int .i64 1, .int .i64 2, .int .i64 1, .int .i64 2] 53)) (fun e w' => e = .returned (.bool true) ∧ Below W.heap.size W w') from
            (keepSameI_any a (some ⟨W.heap.size, 0, none⟩) c 2 [(2, 1, 1), (2, 1, 2)] [(2, 1, 1), (2, 1, 2)] _ (Cells.below ha ((Below.refl _ _).alloc (Nat.le_refl _) _)) (cells_new W (#[.int .i64 2, .int .i64 1, .int .i64 1, .int .i64 2, .int .i64 1, .int .i64 2] : Array Value) 53) (by simp) (by simp)).mono fun e w' ⟨he, n, hw⟩ => ⟨he, by rw [hw]; exact below_drews ((Below.refl _ _).alloc (Nat.le_refl _) _) n⟩)
          have HS7 := Lib.hid fun (W : World) (a : Option Addr) (c : Nat) (ha : ItsAt W a [(2, 1, 0)]) => (show Calls Tryd.prog 30 #[.slice a 1 c, .slice (some ⟨W.heap.size, 0, none⟩) 1 1] (W.alloc (.cells #[.int .i64 2, .int .i64 1, .int .i64 0] 53)) (fun e w' => e = .returned (.bool true) ∧ Below W.heap.size W w') from
            (keepSameI_any a (some ⟨W.heap.size, 0, none⟩) c 1 [(2, 1, 0)] [(2, 1, 0)] _ (Cells.below ha ((Below.refl _ _).alloc (Nat.le_refl _) _)) (cells_new W (#[.int .i64 2, .int .i64 1, .int .i64 0] : Array Value) 53) (by simp) (by simp)).mono fun e w' ⟨he, n, hw⟩ => ⟨he, by rw [hw]; exact below_drews ((Below.refl _ _).alloc (Nat.le_refl _) _) n⟩)
          clear h2 h7 h10 HQB hl1 HB
          go_upto_region 22 with (go_at_call 26; (with_reducible refine HFS.out.mono ?_); rintro e wa ⟨rfl, hba⟩)
          have HVA := Lib.hid (HBW7.out.trans (hba.mono (HZ.out _ HBW7.out)))
          clear hba x0 x1 x2 xl
          go_wp2_with (first
            | (go_at_call 31; (with_reducible refine (H2.out wa HVA.out).mono ?_); rintro e wb ⟨ab, cb, rfl, hib, hbb⟩; have HVB := Lib.hid (HVA.out.trans (hbb.mono (HZ.out _ HVA.out))))
            | (go_at_call 30; (with_reducible refine (HS2.out wb ab cb hib).mono ?_); rintro e wc ⟨rfl, hbc⟩; have HVC := Lib.hid (HVB.out.trans (hbc.mono (HZ.out _ HVB.out))))
            | (go_at_call 31; (with_reducible refine (H7.out wc HVC.out).mono ?_); rintro e wd ⟨ad, cd, rfl, hid, hbd⟩; have HVD := Lib.hid (HVC.out.trans (hbd.mono (HZ.out _ HVC.out))))
            | (go_at_call 30; (with_reducible refine (HS7.out wd ad cd hid).mono ?_); rintro e we ⟨rfl, hbe⟩; have HVE := Lib.hid (HVD.out.trans (hbe.mono (HZ.out _ HVD.out))))
            | (go_at_call 31; (with_reducible refine (H10.out we HVE.out).mono ?_); rintro e wf ⟨af, cf, rfl, hbf⟩; have HVF := Lib.hid (HVE.out.trans (hbf.mono (HZ.out _ HVE.out))))
            | (go_at_call 32; (with_reducible refine (HWK.out wf HVF.out).mono ?_); rintro e wg ⟨rfl, hbg⟩; have HVG := Lib.hid (HVF.out.trans (hbg.mono (HZ.out _ HVF.out)))))
          go_ret
          exact ⟨rfl, HB7.out.trans ((HW8.out.trans (HVG.out.mono HZ8.out)).mono HB7.out.size)⟩
end Go.Proofs.YtejjdfmobiegdaaDoor
