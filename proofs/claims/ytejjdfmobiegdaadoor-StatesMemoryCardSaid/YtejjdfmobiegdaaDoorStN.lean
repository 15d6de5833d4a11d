/- states: symbols, lead: walked. -/
import Derived.Test.YtejjdfmobiegdaaDoorStM
set_option linter.unusedVariables false
namespace Go.Proofs.YtejjdfmobiegdaaDoor
open Go.RowKit
open Doc

def sySt (k : Nat) : List Int := (List.range k).map fun (i : Nat) => (1 : Int) + (i : Int)
def sySn (t k : Nat) : List Int := sySt t ++ (List.range k).map fun (i : Nat) => (100 : Int) + (i : Int)
theorem sySt_succ (k : Nat) : sySt (k + 1) = sySt k ++ [1 + (k : Int)] := by unfold sySt; rw [List.range_succ, List.map_append]; rfl
theorem sySt_len (k : Nat) : (sySt k).length = k := by simp [sySt]
theorem sySn_succ (t k : Nat) : sySn t (k + 1) = sySn t k ++ [100 + (k : Int)] := by unfold sySn; rw [List.range_succ, List.map_append, ← List.append_assoc]; rfl
theorem sySn_len (t k : Nat) : (sySn t k).length = t + k := by simp [sySn, sySt]
theorem sySn_zero (t : Nat) : sySn t 0 = sySt t := by simp [sySn]
set_option maxRecDepth 100000 in
set_option maxHeartbeats 4000000 in
theorem msyms_any (B base : Nat) (g : Gr) (G : GrL) (sa : Option Addr) (sc : Nat) (ss : List StL) (w : World) (h : MacAt w B base g G sa sc ss) (ht : g.terms.length ≤ 1000) (hn : g.nons.length ≤ 1000) :
    Calls Tryd.prog 91 #[.pointer (some ⟨B, 0, none⟩)] w fun e w' => ∃ (a : Option Addr) (c : Nat), e = .returned (.slice a (symsG g).length c) ∧ w'.ownsRow w.heap.size 3 1 (.slice a (symsG g).length c) (symsG g).length (nums (symsG g)) ∧ Below w.heap.size w w' := by
  have HM := Lib.hid h
  have HF := Lib.hid fun (W : World) (hW : Below w.heap.size w W) => (show (W.cell? ⟨B, 0, none⟩ = some (.slice G.a1 g.terms.length G.c1) ∧ W.cell? ⟨B, 1, none⟩ = some (.slice G.a2 g.nons.length G.c2)) ∧ B < W.heap.size from ⟨⟨(blk_cell (i := 0) (h.below hW).q rfl).1, (blk_cell (i := 1) (h.below hW).q rfl).1⟩, heap_lt (h.below hW).q⟩)
  obtain ⟨⟨x0, x1⟩, xl⟩ := HF.out w (Below.refl _ _)
  have HSY := Lib.hid (show symsG g = sySn g.terms.length g.nons.length from rfl)
  rw [HSY.out]
  clear h
  go_enter Tryd.func91, Tryd.ntmps91
  go_wp2_with fail
  go_loopw [3, 12] (fun v i wr => ∃ (k : Nat) (a : Option Addr) (c n : Nat), k ≤ g.terms.length ∧ i = .int .i64 k ∧ v = .slice a n c ∧ Hid (n = (sySt k).length) ∧ Hid (wr.ownsRow w.heap.size 3 1 (.slice a (sySt k).length c) (sySt k).length (nums (sySt k))) ∧ Hid (Below w.heap.size w wr)) (fun _ i _ => g.terms.length - (intOf i).toNat)
  case atStart => exact ⟨0, none, 0, 0, Nat.zero_le _, rfl, rfl, Lib.hid rfl, Lib.hid (World.ownsRow_nil _ _ _ _), Lib.hid (Below.refl _ _)⟩
  case round =>
    obtain ⟨k, a, c, n, hk, rfl, rfl, HN, HO, HB⟩ := hrel
    rename World => w5
    obtain ⟨⟨y0, y1⟩, yl⟩ := HF.out _ HB.out
    by_cases hlt : k < g.terms.length
    · have hlt' : (k : Int) < g.terms.length := by omega
      have hw1 : IntKind.i64.wrap (1 + (k : Int)) = 1 + (k : Int) := IntWalk.i64_in _ (by omega)
      have HO2 := Lib.hid (HO.out.alloc (.cells #[.int .i64 (1 + (k : Int))] 3))
      have hkl := sySt_len k
      have HKL := Lib.hid hkl
      rw [hkl] at HN
      have hnk := HN.out
      subst hnk
      rw [hkl] at HO2
      have HBZ := Lib.hid HB.out.size
      have HSS := Lib.hid (sySt_succ n)
      clear hkl
      go_wp2_with (at_builtin; refine wpList_app rfl (.tmp 15) (.tmp 18) rfl w.heap.size a n c (sySt n) rfl HO2.out (by have := HBZ.out; simp; omega) (some ⟨w5.heap.size, 0, none⟩) [1 + (n : Int)] 1 rfl (cells_new w5 (#[.int .i64 (1 + (n : Int))] : Array Value) 3) (by simp; omega) ?_; intro va vc w6 ho6 hg6; rw [← HSS.out] at ho6; have HB6 := Lib.hid ((HB.out.alloc HB.out.size _).grown hg6 (by have := HBZ.out; simp; omega) (fun q hq => (own_block HO2.out hq).1)); have HO6 := Lib.hid ho6; clear ho6 hg6)
      go_roundw
      case rel => exact ⟨n + 1, va, vc, n + 1, by omega, by go_num, rfl, Lib.hid (by rw [sySt_len]), Lib.hid (by rw [sySt_len]; exact HO6.out), HB6⟩
      case measure => simp [intOf]; omega
    · have hge : ¬ (k : Int) < g.terms.length := by omega
      have hkt : k = g.terms.length := by omega
      have HO3 := Lib.hid (show w5.ownsRow w.heap.size 3 1 (.slice a (sySn g.terms.length 0).length c) (sySn g.terms.length 0).length (nums (sySn g.terms.length 0)) by rw [sySn_zero, ← hkt]; exact HO.out)
      have HN3 := Lib.hid (show n = (sySn g.terms.length 0).length by rw [sySn_zero, ← hkt]; exact HN.out)
      clear HO HN hkt
      go_wp2_with fail
      go_loopw [3, 27] (fun v i wr => ∃ (k : Nat) (a : Option Addr) (c n : Nat), k ≤ g.nons.length ∧ i = .int .i64 k ∧ v = .slice a n c ∧ Hid (n = (sySn g.terms.length k).length) ∧ Hid (wr.ownsRow w.heap.size 3 1 (.slice a (sySn g.terms.length k).length c) (sySn g.terms.length k).length (nums (sySn g.terms.length k))) ∧ Hid (Below w.heap.size w wr)) (fun _ i _ => g.nons.length - (intOf i).toNat)
      case atStart => exact ⟨0, a, c, n, Nat.zero_le _, rfl, rfl, HN3, HO3, HB⟩
      case round =>
        clear HO3 HN3 HB y0 y1 yl hge hk
        obtain ⟨k, a, c, n, hk, rfl, rfl, HN, HO, HB⟩ := hrel
        rename World => w7
        obtain ⟨⟨y0, y1⟩, yl⟩ := HF.out _ HB.out
        by_cases hlt : k < g.nons.length
        · have hlt' : (k : Int) < g.nons.length := by omega
          have hw1 : IntKind.i64.wrap (100 + (k : Int)) = 100 + (k : Int) := IntWalk.i64_in _ (by omega)
          have HO2 := Lib.hid (HO.out.alloc (.cells #[.int .i64 (100 + (k : Int))] 3))
          rw [← HN.out] at HO2
          have hnk := HN.out
          rw [sySn_len] at hnk
          have hn3 : n ≤ 2000 := by omega
          have HNK := Lib.hid hnk
          have HBZ := Lib.hid HB.out.size
          have HSS := Lib.hid (sySn_succ g.terms.length k)
          clear hnk
          go_wp2_with (at_builtin; refine wpList_app rfl (.tmp 30) (.tmp 33) rfl w.heap.size a n c (sySn g.terms.length k) rfl HO2.out (by have := HBZ.out; simp; omega) (some ⟨w7.heap.size, 0, none⟩) [100 + (k : Int)] 1 rfl (cells_new w7 (#[.int .i64 (100 + (k : Int))] : Array Value) 3) (by simp; omega) ?_; intro va vc w8 ho8 hg8; rw [← HSS.out] at ho8; have HB8 := Lib.hid ((HB.out.alloc HB.out.size _).grown hg8 (by have := HBZ.out; simp; omega) (fun q hq => (own_block HO2.out hq).1)); have HO8 := Lib.hid ho8; clear ho8 hg8)
          go_roundw
          case rel => exact ⟨k + 1, va, vc, n + 1, by omega, by go_num, rfl, Lib.hid (by rw [sySn_len, HNK.out]; omega), Lib.hid (by rw [show (sySn g.terms.length (k + 1)).length = n + 1 by rw [sySn_len, HNK.out]; omega]; exact HO8.out), HB8⟩
          case measure => simp [intOf]; omega
        · have hge : ¬ (k : Int) < g.nons.length := by omega
          obtain rfl : k = g.nons.length := by omega
          have HE := Lib.hid (show ∃ (a' : Option Addr) (c' : Nat), Ending.returned (.slice a n c) = .returned (.slice a' (sySn g.terms.length g.nons.length).length c') ∧ w7.ownsRow w.heap.size 3 1 (.slice a' (sySn g.terms.length g.nons.length).length c') (sySn g.terms.length g.nons.length).length (nums (sySn g.terms.length g.nons.length)) ∧ Below w.heap.size w w7 from ⟨a, c, by rw [HN.out], HO.out, HB.out⟩)
          clear HN HO HB HM
          go_wp2
          go_ret
          exact HE.out
end Go.Proofs.YtejjdfmobiegdaaDoor
