/- DeriveForms' numbers and trees. DeriveForms: walked. -/
import Derived.Test.YtgfkkbpnphbdgaaDerTs
import Derived.Test.YtgfkkbpnphbdgaaDErr
import Derived.Deep.RegionHeld3
import Derived.Test.YtgfkkbpnphbdgaaTreeF
import Derived.Test.YtgfkkbpnphbdgaaRParse
import Derived.Test.YtgfkkbpnphbdgaaGParse
import Derived.Deep.Cut
set_option linter.unusedVariables false
set_option linter.unusedSimpArgs false
namespace Go.Proofs.Ytgfkkbpnphbdgaa
open Go.RowKit
open Doc Dr

def gf9 : Gr := ⟨[[97]], [[83], [84]], [(100, [100, 100]), (100, [1]), (100, [101]), (101, []), (101, [100])]⟩
def gf9T : List UInt8 := [83, 58, 32, 83, 32, 83, 32, 124, 32, 97, 32, 124, 32, 84, 10, 84, 58, 32, 124, 32, 83, 10]
theorem gf9_parse : parse gf9T = .ok gf9 := by decide +kernel
theorem gf9_check : CheckG gf9 := (chk_iff gf9).1 (by decide +kernel)
def want9 : List Nat := [0, 1, 1, 2, 5, 14, 42]
theorem f9n0 : num 200 bw9.prods [] (wholeJ [] 100) = 0 := by decide +kernel
theorem f9n1 : num 200 bw9.prods [1] (wholeJ [1] 100) = 1 := by decide +kernel
theorem f9n2 : num 200 bw9.prods [1, 1] (wholeJ [1, 1] 100) = 1 := by decide +kernel
theorem f9n3 : num 200 bw9.prods [1, 1, 1] (wholeJ [1, 1, 1] 100) = 2 := by decide +kernel
theorem f9n4 : num 200 bw9.prods [1, 1, 1, 1] (wholeJ [1, 1, 1, 1] 100) = 5 := by decide +kernel
theorem f9n5 : num 200 bw9.prods [1, 1, 1, 1, 1] (wholeJ [1, 1, 1, 1, 1] 100) = 14 := by decide +kernel
theorem f9n6 : num 200 bw9.prods [1, 1, 1, 1, 1, 1] (wholeJ [1, 1, 1, 1, 1, 1] 100) = 42 := by decide +kernel
set_option maxRecDepth 100000 in
theorem f9a : all gf9.prods [] (wholeJ [] 100) = [[.mk 100 2 [.mk 101 3 []]]] := by kernel_rfl
set_option maxRecDepth 100000 in
theorem f9b : all gf9.prods [100] (wholeJ [100] 100) = [[.mk 100 (-1) []]] := by kernel_rfl
set_option maxRecDepth 100000 in
theorem f9c : all bw9.prods [1, 1, 1] (wholeJ [1, 1, 1] 100) = [[.mk 100 0 [.mk 100 1 [.mk 1 (-1) []], .mk 100 0 [.mk 100 1 [.mk 1 (-1) []], .mk 100 1 [.mk 1 (-1) []]]]], [.mk 100 0 [.mk 100 0 [.mk 100 1 [.mk 1 (-1) []], .mk 100 1 [.mk 1 (-1) []]], .mk 100 1 [.mk 1 (-1) []]]]] := by kernel_rfl
theorem make_k (k : Nat) (hk : k < 7) (W : World) : (Instr.makeSlice 30 (.int .i64 (k : Int)) (.int .i64 (k : Int))).run Try.prog W = .ok (.slice (some ⟨W.heap.size, 0, none⟩) k k) (W.alloc (.cells (nums (List.replicate k 0)).toArray 3)) := by
  rcases (show k = 0 ∨ k = 1 ∨ k = 2 ∨ k = 3 ∨ k = 4 ∨ k = 5 ∨ k = 6 by omega) with rfl | rfl | rfl | rfl | rfl | rfl | rfl
  all_goals kernel_rfl
end Go.Proofs.Ytgfkkbpnphbdgaa

set_option linter.unusedVariables false
set_option linter.unusedSimpArgs false
namespace Go.Proofs.Ytgfkkbpnphbdgaa
open Go.RowKit
open Doc Dr

def onesZ (k j : Nat) : List Int := List.replicate j 1 ++ List.replicate (k - j) 0
theorem onesZ_set {k j : Nat} (h : j < k) : (nums (onesZ k j)).toArray.set! j (.int .i64 1) = (nums (onesZ k (j + 1))).toArray := by
  rw [Array.set!_eq_setIfInBounds, List.setIfInBounds_toArray]
  congr 1
  unfold onesZ nums
  rw [← List.map_set (f := fun x => Value.int .i64 x) (l := List.replicate j 1 ++ List.replicate (k - j) 0) (i := j) (a := (1 : Int))]
  congr 1
  rw [List.set_append_right _ _ (by simp), List.length_replicate, Nat.sub_self, show k - j = (k - (j + 1)) + 1 by omega, List.replicate_succ, List.set_cons_zero, List.replicate_succ', List.append_assoc]
  rfl
theorem onesZ_at {k j : Nat} (h : j < k) : (nums (onesZ k j)).toArray[j]? = some (.int .i64 0) := by
  rw [List.getElem?_toArray]
  exact nums_at (by unfold onesZ; rw [List.getElem?_append_right (by simp), List.length_replicate, Nat.sub_self, List.getElem?_replicate, if_pos (by omega)])
theorem onesZ_all (k : Nat) : onesZ k k = List.replicate k 1 := by unfold onesZ; simp
theorem f9_num (k : Nat) (hk : k < 7) : num 200 bw9.prods (List.replicate k 1) (wholeJ (List.replicate k 1) 100) = want9.getD k 0 := by
  rcases (show k = 0 ∨ k = 1 ∨ k = 2 ∨ k = 3 ∨ k = 4 ∨ k = 5 ∨ k = 6 by omega) with rfl | rfl | rfl | rfl | rfl | rfl | rfl
  · exact f9n0
  · exact f9n1
  · exact f9n2
  · exact f9n3
  · exact f9n4
  · exact f9n5
  · exact f9n6
theorem min_num (m : Nat) (ps : List (Int × List Int)) (u : List Int) (root : Int) (hm : m ≤ 200) : num m ps u (wholeJ u root) = min m (num 200 ps u (wholeJ u root)) := by rw [num_all, num_all]; omega
theorem f9_can (k : Nat) (hk : k < 7) : num 1 bw9.prods (List.replicate k 1) (wholeJ (List.replicate k 1) 100) = if k = 0 then 0 else 1 := by
  rw [min_num _ _ _ _ (by omega), f9_num k hk]
  rcases (show k = 0 ∨ k = 1 ∨ k = 2 ∨ k = 3 ∨ k = 4 ∨ k = 5 ∨ k = 6 by omega) with rfl | rfl | rfl | rfl | rfl | rfl | rfl <;> rfl
theorem cells_ofF {W : World} {b : Nat} {cs : Array Value} {ty : TypeId} {l : List Value} (h : W.heap[b]? = some (.cells cs ty)) (e : cs.toList = l) : Cells W (some ⟨b, 0, none⟩) l :=
  .inr ⟨b, 0, rfl, heap_lt h, fun j v hj => by rw [Nat.zero_add]; exact (blk_cell h (by rw [← e] at hj; simpa using hj)).1⟩
def trA : Tr := .mk 100 2 [.mk 101 3 []]
def trB : Tr := .mk 100 0 [.mk 100 1 [.mk 1 (-1) []], .mk 100 0 [.mk 100 1 [.mk 1 (-1) []], .mk 100 1 [.mk 1 (-1) []]]]
def trC : Tr := .mk 100 0 [.mk 100 0 [.mk 100 1 [.mk 1 (-1) []], .mk 100 1 [.mk 1 (-1) []]], .mk 100 1 [.mk 1 (-1) []]]
theorem trA_text : printT gf9 trA = [40, 83, 32, 40, 84, 41, 41] := by decide +kernel
theorem trB_text : printT bw9 trB = [40, 83, 32, 40, 83, 32, 97, 41, 32, 40, 83, 32, 40, 83, 32, 97, 41, 32, 40, 83, 32, 97, 41, 41, 41] := by decide +kernel
theorem trC_text : printT bw9 trC = [40, 83, 32, 40, 83, 32, 40, 83, 32, 97, 41, 32, 40, 83, 32, 97, 41, 41, 32, 40, 83, 32, 97, 41, 41] := by decide +kernel
theorem short_ok {g : Gr} (h : CheckG g) : ShortN g := ⟨(check_tiny h).t.2, (check_tiny h).n.2⟩
theorem fits_ok {g : Gr} (h : CheckG g) : Fits g := ⟨by have := h.t8; omega, by have := h.n8; omega, by have := h.p24; omega, fun p hp => by have := (h.pv p hp).2.1; omega⟩
theorem two_trees {g : Gr} {u : List Int} {M : Nat} {w w' : World} {e : Ending} {tr tr2 : Tr} {root : Int} (hA : AskP g root u M) (hl : (all g.prods u (wholeJ u root)).take M = [[tr], [tr2]]) (h : TreesEnd g root u M w e w') :
    ∃ (b o c : Nat) (t t2 : Tl), e = .returned (.tuple #[.slice (some ⟨b, o, none⟩) 2 c, .int .i64 0]) ∧ t.plain = tr ∧ t2.plain = tr2 ∧ Lies (fun b => w.heap.size ≤ b) w' t ∧ Lies (fun b => w.heap.size ≤ b) w' t2 ∧ b < w'.heap.size ∧ (w'.cell? ⟨b, o, none⟩ = some (.int .i64 t.sym) ∧ w'.cell? ⟨b, o + 1, none⟩ = some (.int .i64 t.prod) ∧ w'.cell? ⟨b, o + 2, none⟩ = some (.slice t.a t.kids.length t.c)) ∧ (w'.cell? ⟨b, o + 3, none⟩ = some (.int .i64 t2.sym) ∧ w'.cell? ⟨b, o + 4, none⟩ = some (.int .i64 t2.prod) ∧ w'.cell? ⟨b, o + 5, none⟩ = some (.slice t2.a t2.kids.length t2.c)) := by
  unfold TreesEnd at h
  rw [if_pos (askB_true hA)] at h
  obtain ⟨a, c, ts, he, ho, hk, hp⟩ := h
  rw [Int.toNat_natCast, hl] at hp
  match ts, hp with
  | [t, t2], hp =>
    have hpt : t.plain = tr ∧ t2.plain = tr2 := by simpa using hp
    obtain ⟨b, o, rfl, hb, hc⟩ := (own_cells ho).1.get (by simp [tls, tl3])
    have h0 := hc 0 _ rfl
    rw [Nat.add_zero] at h0
    exact ⟨b, o, c, t, t2, he, hpt.1, hpt.2, hk t List.mem_cons_self, hk t2 (by simp), hb, ⟨h0, hc 1 _ rfl, hc 2 _ rfl⟩, hc 3 _ rfl, hc 4 _ rfl, hc 5 _ rfl⟩
theorem print_at {g : Gr} (hc : CheckG g) {t : Tl} {tr : Tr} {txt : List UInt8} {P : Nat → Prop} {v : Value} {W : World} (hg : GramAt W v g) (hl : Lies P W t) (hp : t.plain = tr) (hm : mildT tr) (hz : sizeT tr ≤ 9600) (ht : printT g tr = txt) :
    Calls Try.prog 15 #[v, .agg #[.int .i64 t.sym, .int .i64 t.prod, .slice t.a t.kids.length t.c]] W fun e w' => e = .returned (.string ⟨txt.toArray⟩) ∧ Below W.heap.size W w' :=
  (rprint_any t P v g W hg (fits_ok hc) (short_ok hc) hl (by rw [hp]; exact hm) (by rw [hp]; exact hz)).mono fun e w' h => ⟨by rw [h.1, hp, ht], h.2⟩
set_option maxRecDepth 100000 in
set_option maxHeartbeats 16000000 in
theorem deriveForms_walk (z : Int) (hz : wideI z) (w : World) : Calls Try.prog 3 #[.int .i64 z] w fun e w' => e = .returned (.bool true) ∧ Below w.heap.size w w' := by
  have HGP := Lib.hid (show Calls Try.prog 9 #[.string ⟨#[83, 58, 32, 83, 32, 83, 32, 124, 32, 97, 32, 124, 32, 84, 10, 84, 58, 32, 124, 32, 83, 10]⟩] w fun e w' => Below w.heap.size w w' ∧ ∃ (at_ an ap : Option Addr) (n1 n2 n3 ct cn cp : Nat), e = .returned (.tuple #[.agg #[.slice at_ n1 ct, .slice an n2 cn, .slice ap n3 cp], .int .i64 0, .int .i64 0, .int .i64 0]) ∧ GramAt w' (.agg #[.slice at_ n1 ct, .slice an n2 cn, .slice ap n3 cp]) gf9 from (rparse_ok ⟨#[83, 58, 32, 83, 32, 83, 32, 124, 32, 97, 32, 124, 32, 84, 10, 84, 58, 32, 124, 32, 83, 10]⟩ gf9 w (by decide) gf9_parse).mono fun e w' ⟨v, he, hb, hg⟩ => by
    have hg0 := hg.at_
    obtain ⟨at_, an, ap, ct, cn, cp, ls, rfl, _⟩ := hg.at_
    exact ⟨hb, at_, an, ap, _, _, _, ct, cn, cp, he, hg0⟩)
  have HGB := Lib.hid fun W => (bad_any 0 W).mono fun e w' ⟨hb, ts, ns, ls, at_, an, ap, ct, cn, cp, he, hr, hp⟩ => (by
    rw [bw9_parse] at hp
    have hg : bw9 = ⟨ts, ns, ls.map Lay.plain⟩ := End.ok.inj hp
    exact ⟨hb, at_, an, ap, _, _, _, ct, cn, cp, he, by rw [hg]; exact hr.gram⟩ : Below W.heap.size W w' ∧ ∃ (bt bn bp : Option Addr) (n4 n5 n6 cu cv cw : Nat), e = Ending.returned (.agg #[.slice bt n4 cu, .slice bn n5 cv, .slice bp n6 cw]) ∧ GramAt w' (.agg #[.slice bt n4 cu, .slice bn n5 cv, .slice bp n6 cw]) bw9)
  obtain ⟨k, hd, hkl⟩ : ∃ k : Nat, z % 7 = k ∧ k < 7 := ⟨(z % 7).toNat, by omega, by omega⟩
  have HWI := Lib.hid fun W => (within_any z 7 (by omega) (by omega) W).mono fun e w' h => (⟨h.1.trans (by rw [hd]), h.2⟩ : e = Ending.returned (.int .i64 k) ∧ w' = W)
  have hmk := make_k k hkl
  have HWK := Lib.hid wakes9_any
  clear hd
  go_enter Try.func3, Try.ntmps3
  go_upto_region 4 with (go_at_call 9; (with_reducible refine HGP.out.mono ?_); rintro e w2 ⟨hb2, at_, an, ap, n1, n2, n3, ct, cn, cp, rfl, hg2⟩)
  have hbA := box_belowT w2 (.cells #[.slice at_ n1 ct, .slice an n2 cn, .slice ap n3 cp] 25)
  have HQ := Lib.hid (heap_alloc_new w2 (.cells #[.slice at_ n1 ct, .slice an n2 cn, .slice ap n3 cp] 25))
  have HG := Lib.hid (hg2.below hbA)
  have HB := Lib.hid (hb2.trans (hbA.mono hb2.size))
  clear hb2 hg2 HGP hbA
  generalize w2.alloc (.cells #[.slice at_ n1 ct, .slice an n2 cn, .slice ap n3 cp] 25) = S at *
  generalize w2.heap.size = BG at *
  go_upto_region 5 with (go_at_call 10; (with_reducible refine (HGB.out _).mono ?_); rintro e w3 ⟨hb3, bt, bn, bp, n4, n5, n6, cu, cv, cw, rfl, hg3⟩)
  have hbA := box_belowT w3 (.cells #[.slice bt n4 cu, .slice bn n5 cv, .slice bp n6 cw] 25)
  have HQH := Lib.hid (heap_alloc_new w3 (.cells #[.slice bt n4 cu, .slice bn n5 cv, .slice bp n6 cw] 25))
  have HH := Lib.hid (hg3.below hbA)
  have HBS := Lib.hid (hb3.trans (hbA.mono hb3.size))
  have HG3 := Lib.hid (HG.out.below HBS.out)
  have HQ3 := Lib.hid ((HBS.out.block _ (heap_lt HQ.out)).trans HQ.out)
  have HB3 := Lib.hid (HB.out.trans (HBS.out.mono HB.out.size))
  clear hb3 hg3 HGB hbA HB HG HQ HBS
  generalize w3.alloc (.cells #[.slice bt n4 cu, .slice bn n5 cv, .slice bp n6 cw] 25) = S3 at *
  generalize w3.heap.size = BH at *
  go_upto_region 9 with (go_at_call 11; (with_reducible refine (HWI.out _).mono ?_); rintro e w9 ⟨rfl, hw9⟩; rw [hw9]; clear hw9)
  obtain ⟨hbT, hsT, qT0, qT1⟩ := twin_alloc S3 (.cells #[.int .i64 0, .int .i64 1, .int .i64 1, .int .i64 2, .int .i64 5, .int .i64 14, .int .i64 42] 3) (.cells (nums (List.replicate k 0)).toArray 3)
  have HQW := Lib.hid qT0
  have HQN := Lib.hid (show _ = some (Obj.cells (nums (onesZ k 0)).toArray 3) from qT1)
  have HG5 := Lib.hid (HG3.out.below hbT)
  have HH5 := Lib.hid (HH.out.below hbT)
  have HQ5 := Lib.hid ((hbT.block _ (heap_lt HQ3.out)).trans HQ3.out)
  have HQH5 := Lib.hid ((hbT.block _ (heap_lt HQH.out)).trans HQH.out)
  have HB5 := Lib.hid (HB3.out.trans (hbT.mono HB3.out.size))
  have HLB := Lib.hid (⟨heap_lt HQ3.out, heap_lt HQH.out⟩ : BG < S3.heap.size ∧ BH < S3.heap.size)
  have HBT := Lib.hid hbT
  clear hbT hsT qT0 qT1 hmk HG5 HH5 HQ5 HQH5
  generalize (S3.alloc (.cells #[.int .i64 0, .int .i64 1, .int .i64 1, .int .i64 2, .int .i64 5, .int .i64 14, .int .i64 42] 3)).alloc (.cells (nums (List.replicate k 0)).toArray 3) = S5 at *
  have HNE := Lib.hid (show S3.heap.size + 1 ≠ S3.heap.size by omega)
  generalize hNB : S3.heap.size + 1 = NB at *
  have HNB := Lib.hid hNB
  clear hNB
  go_loopw [31] (fun iv wr => ∃ j : Nat, iv = .int .i64 j ∧ j ≤ k ∧ Hid (wr.heap[NB]? = some (.cells (nums (onesZ k j)).toArray 3)) ∧ Hid (S5.grownBy wr (some NB))) (fun iv _ => k - (intOf iv).toNat)
  case atStart => exact ⟨0, rfl, by omega, HQN, Lib.hid ⟨rfl, rfl, rfl, Nat.le_refl _, fun _ _ _ => rfl⟩⟩
  case round =>
    obtain ⟨j, rfl, hj, HQJ, HGJ⟩ := hrel
    by_cases hjl : j < k
    · have e1 : (j : Int) < k := by omega
      obtain ⟨x0, s0⟩ := blk_cell (i := j) HQJ.out (onesZ_at hjl)
      have lx := heap_lt HQJ.out
      have HST := Lib.hid (show (wr.setCell ⟨NB, j, none⟩ (.int .i64 1)).heap[NB]? = some (.cells (nums (onesZ k (j + 1))).toArray 3) by rw [heap_set wr NB j _ _ _ HQJ.out (by unfold nums onesZ; simp; omega), onesZ_set hjl])
      have HGS := Lib.hid (show S5.grownBy (wr.setCell ⟨NB, j, none⟩ (.int .i64 1)) (some NB) from ⟨HGJ.out.os, HGJ.out.tape, HGJ.out.output, by simp [World.setCell]; exact HGJ.out.size, fun i hi hn => (Below.heap_setCell _ _ _ _ (fun e => hn (by rw [e]))).trans (HGJ.out.block i hi hn)⟩)
      have HJL := Lib.hid hjl
      clear hjl
      go_wp2
      exact ⟨⟨j + 1, by go_num, by have := HJL.out; omega, HST, HGS⟩, by have := HJL.out; simp [intOf]; omega⟩
    · have e1 : ¬ (j : Int) < k := by omega
      have hjk : j = k := by omega
      rw [hjk, onesZ_all] at HQJ
      have hbw : Below S3.heap.size S3 wr := HBT.out.grown HGJ.out HBT.out.size (fun x hx => by cases hx; have := HNB.out; omega)
      have HBW := Lib.hid hbw
      have HBW0 := Lib.hid (HB3.out.trans (hbw.mono HB3.out.size))
      have HQG := Lib.hid ((hbw.block _ HLB.out.1).trans HQ3.out)
      have HQH6 := Lib.hid ((hbw.block _ HLB.out.2).trans HQH.out)
      have HGW := Lib.hid (HG3.out.below hbw)
      have HHW := Lib.hid (HH.out.below hbw)
      have HUW := Lib.hid (cells_ofF HQJ.out (l := nums (List.replicate k 1)) rfl)
      have hqw := (HGJ.out.block S3.heap.size (heap_lt HQW.out) (fun e => HNE.out (Option.some.inj e).symm)).trans HQW.out
      have HQW6 := Lib.hid hqw
      have hwk : (#[.int .i64 0, .int .i64 1, .int .i64 1, .int .i64 2, .int .i64 5, .int .i64 14, .int .i64 42] : Array Value)[k]? = some (.int .i64 ((want9.getD k 0 : Nat) : Int)) := by
        rcases (show k = 0 ∨ k = 1 ∨ k = 2 ∨ k = 3 ∨ k = 4 ∨ k = 5 ∨ k = 6 by omega) with rfl | rfl | rfl | rfl | rfl | rfl | rfl <;> rfl
      have hlen : (List.replicate k (1 : Int)).length = k := List.length_replicate
      have hsy : (List.replicate k (1 : Int)).all (symB bw9) = true := List.all_eq_true.2 fun x hx => by rw [(List.mem_replicate.1 hx).2]; decide
      have HCT := Lib.hid (show ∀ W, Below wr.heap.size wr W → Calls Try.prog 12 #[.agg #[.slice bt n4 cu, .slice bn n5 cv, .slice bp n6 cw], .int .i64 100, .slice (some ⟨NB, 0, none⟩) k k, .int .i64 200] W fun e w' => e = .returned (.int .i64 ((want9.getD k 0 : Nat) : Int)) ∧ Below W.heap.size W w' from fun W hW => count_at bw9_check (M := 200) (c := k) (HHW.out.below hW) (HUW.out.below hW) hlen (ask_is bw9_check (by decide) (by omega) (by decide) hsy) (f9_num k hkl))
      have HCN := Lib.hid (show ∀ W, Below wr.heap.size wr W → Calls Try.prog 13 #[.agg #[.slice bt n4 cu, .slice bn n5 cv, .slice bp n6 cw], .int .i64 100, .slice (some ⟨NB, 0, none⟩) k k] W fun e w' => e = .returned (.bool (decide ((if k = 0 then 0 else 1) = 1))) ∧ Below W.heap.size W w' from fun W hW => can_at bw9_check (c := k) (HHW.out.below hW) (HUW.out.below hW) hlen (ask_is bw9_check (by decide) (by omega) (by decide) hsy) (f9_can k hkl))
      generalize hWV : want9.getD k 0 = wv at *
      generalize S3.heap.size = WB at *
      have c0 := (blk_cell (i := 0) HQH6.out rfl).1
      have c1 := (blk_cell (i := 1) HQH6.out rfl).1
      have c2 := (blk_cell (i := 2) HQH6.out rfl).1
      have lh := heap_lt HQH6.out
      have wk0 := (blk_cell (i := k) HQW6.out hwk).1
      have lw := heap_lt HQW6.out
      have e7 : (k : Int) < 7 := by omega
      clear hjk hjl hwk hlen hsy hWV hqw hbw
      go_upto_region 13 with fail
      go_cut [53] from 38 to 52 (fun v wx => v = .bool false ∧ Hid (Below wr.heap.size wr wx))
      case first =>
        have HBD := Lib.hid (show Below wr.heap.size wr wr.drew from (Below.refl _ _).drew)
        have HKQ : Hid (∀ w', Hid (Below wr.heap.size wr w') → (((w'.cell? ⟨BH, 0, none⟩ = some (.slice bt n4 cu) ∧ w'.cell? ⟨BH, 1, none⟩ = some (.slice bn n5 cv) ∧ w'.cell? ⟨BH, 2, none⟩ = some (.slice bp n6 cw)) ∧ w'.cell? ⟨WB, k, none⟩ = some (.int .i64 (wv : Int))) ∧ (BH < w'.heap.size ∧ WB < w'.heap.size)) ∧ Hid (Below wr.heap.size wr w')) := Lib.hid fun w' h => ⟨⟨⟨⟨(h.out.cell (p := ⟨BH, 0, none⟩) lh).trans c0, (h.out.cell (p := ⟨BH, 1, none⟩) lh).trans c1, (h.out.cell (p := ⟨BH, 2, none⟩) lh).trans c2⟩, (h.out.cell (p := ⟨WB, k, none⟩) lw).trans wk0⟩, Nat.lt_of_lt_of_le lh h.out.size, Nat.lt_of_lt_of_le lw h.out.size⟩, h⟩
        by_cases hk0 : k = 0
        · have hkI : ¬ (0 : Int) < (k : Int) := by omega
          have hkN : ¬ 0 < k := by omega
          rw [show decide ((if k = 0 then 0 else 1) = 1) = false by rw [if_pos hk0]; rfl] at HCN
          clear hk0
          go_region_held3 (fun w' => (((w'.cell? ⟨BH, 0, none⟩ = some (.slice bt n4 cu) ∧ w'.cell? ⟨BH, 1, none⟩ = some (.slice bn n5 cv) ∧ w'.cell? ⟨BH, 2, none⟩ = some (.slice bp n6 cw)) ∧ w'.cell? ⟨WB, k, none⟩ = some (.int .i64 (wv : Int))) ∧ (BH < w'.heap.size ∧ WB < w'.heap.size)) ∧ Hid (Below wr.heap.size wr w')) (first | exact HKQ.out _ (by assumption)) (first
            | (go_at_call 12; (with_reducible refine (HCT.out _ HBD.out).mono ?_); rintro e w5 ⟨rfl, hb5⟩; have HBY5 := Lib.hid (HBD.out.trans (hb5.mono HBD.out.size)); clear hb5)
            | (go_at_call 13; (with_reducible refine (HCN.out _ HBY5.out).mono ?_); rintro e w6 ⟨rfl, hb6⟩; have HBY6 := Lib.hid (HBY5.out.trans (hb6.mono HBY5.out.size)); clear hb6))
          all_goals
            go_wp2
            go_meet
            case rel => exact ⟨rfl, HBY6⟩
        · have hkI : (0 : Int) < (k : Int) := by omega
          have hkN : 0 < k := by omega
          rw [show decide ((if k = 0 then 0 else 1) = 1) = true by rw [if_neg hk0]; rfl] at HCN
          clear hk0
          go_region_held3 (fun w' => (((w'.cell? ⟨BH, 0, none⟩ = some (.slice bt n4 cu) ∧ w'.cell? ⟨BH, 1, none⟩ = some (.slice bn n5 cv) ∧ w'.cell? ⟨BH, 2, none⟩ = some (.slice bp n6 cw)) ∧ w'.cell? ⟨WB, k, none⟩ = some (.int .i64 (wv : Int))) ∧ (BH < w'.heap.size ∧ WB < w'.heap.size)) ∧ Hid (Below wr.heap.size wr w')) (first | exact HKQ.out _ (by assumption)) (first
            | (go_at_call 12; (with_reducible refine (HCT.out _ HBD.out).mono ?_); rintro e w5 ⟨rfl, hb5⟩; have HBY5 := Lib.hid (HBD.out.trans (hb5.mono HBD.out.size)); clear hb5)
            | (go_at_call 13; (with_reducible refine (HCN.out _ HBY5.out).mono ?_); rintro e w6 ⟨rfl, hb6⟩; have HBY6 := Lib.hid (HBY5.out.trans (hb6.mono HBY5.out.size)); clear hb6))
          all_goals
            go_wp2
            go_meet
            case rel => exact ⟨rfl, HBY6⟩
      case rest =>
        obtain ⟨rfl, HBX⟩ := hcut
        rename World => W1
        have HBT1 := Lib.hid (HBW0.out.trans (HBX.out.mono HBW0.out.size))
        have HQG1 := Lib.hid ((HBX.out.block _ (heap_lt HQG.out)).trans HQG.out)
        have HQH1 := Lib.hid ((HBX.out.block _ (heap_lt HQH6.out)).trans HQH6.out)
        have HG1 := Lib.hid (HGW.out.below HBX.out)
        have HH1 := Lib.hid (HHW.out.below HBX.out)
        have HT15 := Lib.hid (show ∀ W, GramAt W (.agg #[.slice at_ n1 ct, .slice an n2 cn, .slice ap n3 cp]) gf9 → Calls Try.prog 14 #[.agg #[.slice at_ n1 ct, .slice an n2 cn, .slice ap n3 cp], .int .i64 100, .slice none 0 0, .int .i64 9] W fun e w' => Below W.heap.size W w' ∧ ∃ (b o c : Nat) (t : Tl), e = .returned (.tuple #[.slice (some ⟨b, o, none⟩) 1 c, .int .i64 0]) ∧ t.plain = trA ∧ Lies (fun b => W.heap.size ≤ b) w' t ∧ b < w'.heap.size ∧ (w'.cell? ⟨b, o, none⟩ = some (.int .i64 t.sym) ∧ w'.cell? ⟨b, o + 1, none⟩ = some (.int .i64 t.prod) ∧ w'.cell? ⟨b, o + 2, none⟩ = some (.slice t.a t.kids.length t.c)) from fun W hW => (trees_calls _ gf9 100 none 0 [] 9 W hW (check_tiny gf9_check).mid ⟨by decide, by decide⟩ (.inl rfl) (by decide) (fun s hs => by cases hs)).mono fun e w' h => by
          obtain ⟨b, o, c, t, h1, h2, h3, h4, h5, h6, h7⟩ := one_tree (M := 9) (tr := trA) (ask_is gf9_check (by decide) (by decide) (by decide) (by decide)) (by rw [f9a]; rfl) h.1
          exact ⟨h.2, b, o, c, t, h1, h2, h3, h4, h5, h6, h7⟩)
        have HT18 := Lib.hid (show ∀ (a : Option Addr) W, GramAt W (.agg #[.slice at_ n1 ct, .slice an n2 cn, .slice ap n3 cp]) gf9 → Cells W a (nums [100]) → Calls Try.prog 14 #[.agg #[.slice at_ n1 ct, .slice an n2 cn, .slice ap n3 cp], .int .i64 100, .slice a 1 1, .int .i64 9] W fun e w' => Below W.heap.size W w' ∧ ∃ (b o c : Nat), e = .returned (.tuple #[.slice (some ⟨b, o, none⟩) 1 c, .int .i64 0]) ∧ b < w'.heap.size ∧ w'.cell? ⟨b, o + 1, none⟩ = some (.int .i64 (-1)) from fun a W hW hU => (trees_calls _ gf9 100 a 1 [100] 9 W hW (check_tiny gf9_check).mid ⟨by decide, by decide⟩ hU (by decide) (fun s hs => by rw [List.mem_singleton.1 hs]; exact ⟨by decide, by decide⟩)).mono fun e w' h => by
          obtain ⟨b, o, c, t, h1, h2, _, h3, _, h4, _⟩ := one_tree (M := 9) (tr := .mk 100 (-1) []) (ask_is gf9_check (by decide) (by decide) (by decide) (by decide)) (by rw [f9b]; rfl) h.1
          have h5 : t.prod = -1 := by rw [← Tl.plain_prod, h2]; rfl
          exact ⟨h.2, b, o, c, h1, h3, by rw [h4, h5]⟩)
        have HT21 := Lib.hid (show ∀ (a : Option Addr) W, GramAt W (.agg #[.slice bt n4 cu, .slice bn n5 cv, .slice bp n6 cw]) bw9 → Cells W a (nums [1, 1, 1]) → Calls Try.prog 14 #[.agg #[.slice bt n4 cu, .slice bn n5 cv, .slice bp n6 cw], .int .i64 100, .slice a 3 3, .int .i64 9] W fun e w' => Below W.heap.size W w' ∧ ∃ (b o c : Nat) (t t2 : Tl), e = .returned (.tuple #[.slice (some ⟨b, o, none⟩) 2 c, .int .i64 0]) ∧ t.plain = trB ∧ t2.plain = trC ∧ Lies (fun b => W.heap.size ≤ b) w' t ∧ Lies (fun b => W.heap.size ≤ b) w' t2 ∧ b < w'.heap.size ∧ (w'.cell? ⟨b, o, none⟩ = some (.int .i64 t.sym) ∧ w'.cell? ⟨b, o + 1, none⟩ = some (.int .i64 t.prod) ∧ w'.cell? ⟨b, o + 2, none⟩ = some (.slice t.a t.kids.length t.c)) ∧ (w'.cell? ⟨b, o + 3, none⟩ = some (.int .i64 t2.sym) ∧ w'.cell? ⟨b, o + 4, none⟩ = some (.int .i64 t2.prod) ∧ w'.cell? ⟨b, o + 5, none⟩ = some (.slice t2.a t2.kids.length t2.c)) from fun a W hW hU => (trees_calls _ bw9 100 a 3 [1, 1, 1] 9 W hW (check_tiny bw9_check).mid ⟨by decide, by decide⟩ hU (by decide) (fun s hs => by simp at hs; subst hs; exact ⟨by decide, by decide⟩)).mono fun e w' h => by
          exact ⟨h.2, two_trees (M := 9) (ask_is bw9_check (by decide) (by decide) (by decide) (by decide)) (by rw [f9c]; rfl) h.1⟩)
        clear c0 c1 c2 lh wk0 lw HCT HCN HQW6 HUW HQG HQH6 HGW HHW HBW HQJ HGJ
        have g0 := (blk_cell (i := 0) HQG1.out rfl).1
        have g1 := (blk_cell (i := 1) HQG1.out rfl).1
        have g2 := (blk_cell (i := 2) HQG1.out rfl).1
        have lg := heap_lt HQG1.out
        go_upto_region 16 with (go_at_call 14; (with_reducible refine (HT15.out _ HG1.out).mono ?_); rintro e w3 ⟨hb3, b, o, c, t, rfl, hpl, hli, hbl, t0, t1, t2⟩)
        have HB3 := Lib.hid (HBT1.out.trans (hb3.mono HBT1.out.size))
        have HQG3 := Lib.hid ((hb3.block _ lg).trans HQG1.out)
        have HQH3' := Lib.hid ((hb3.block _ (heap_lt HQH1.out)).trans HQH1.out)
        have HG3' := Lib.hid (HG1.out.below hb3)
        have HH3' := Lib.hid (HH1.out.below hb3)
        have HP16 := Lib.hid (show ∀ W, Below w3.heap.size w3 W → Calls Try.prog 15 #[.agg #[.slice at_ n1 ct, .slice an n2 cn, .slice ap n3 cp], .agg #[.int .i64 t.sym, .int .i64 t.prod, .slice t.a t.kids.length t.c]] W fun e w' => e = .returned (.string ⟨#[40, 83, 32, 40, 84, 41, 41]⟩) ∧ Below W.heap.size W w' from fun W hW => print_at gf9_check (HG3'.out.below hW) (hli.under hW) hpl (by unfold trA; simp [mildT, mildK, mildI]) (by decide +kernel) trA_text)
        clear g0 g1 g2 lg hb3 HBX
        have g0 := (blk_cell (i := 0) HQG3.out rfl).1
        have g1 := (blk_cell (i := 1) HQG3.out rfl).1
        have g2 := (blk_cell (i := 2) HQG3.out rfl).1
        have lg := heap_lt HQG3.out
        go_cut [73] from 59 to 72 (fun v wx => v = .bool false ∧ Hid (Below w3.heap.size w3 wx))
        case first =>
          have HBD := Lib.hid (show Below w3.heap.size w3 w3.drew from (Below.refl _ _).drew)
          have HKQ : Hid (∀ w', Hid (Below w3.heap.size w3 w') → (((w'.cell? ⟨BG, 0, none⟩ = some (.slice at_ n1 ct) ∧ w'.cell? ⟨BG, 1, none⟩ = some (.slice an n2 cn) ∧ w'.cell? ⟨BG, 2, none⟩ = some (.slice ap n3 cp)) ∧ (w'.cell? ⟨b, o, none⟩ = some (.int .i64 t.sym) ∧ w'.cell? ⟨b, o + 1, none⟩ = some (.int .i64 t.prod) ∧ w'.cell? ⟨b, o + 2, none⟩ = some (.slice t.a t.kids.length t.c))) ∧ (BG < w'.heap.size ∧ b < w'.heap.size)) ∧ Hid (Below w3.heap.size w3 w')) := Lib.hid fun w' h => ⟨⟨⟨⟨(h.out.cell (p := ⟨BG, 0, none⟩) lg).trans g0, (h.out.cell (p := ⟨BG, 1, none⟩) lg).trans g1, (h.out.cell (p := ⟨BG, 2, none⟩) lg).trans g2⟩, (h.out.cell (p := ⟨b, o, none⟩) hbl).trans t0, (h.out.cell (p := ⟨b, o + 1, none⟩) hbl).trans t1, (h.out.cell (p := ⟨b, o + 2, none⟩) hbl).trans t2⟩, Nat.lt_of_lt_of_le lg h.out.size, Nat.lt_of_lt_of_le hbl h.out.size⟩, h⟩
          clear hpl hli
          go_region_held3 (fun w' => (((w'.cell? ⟨BG, 0, none⟩ = some (.slice at_ n1 ct) ∧ w'.cell? ⟨BG, 1, none⟩ = some (.slice an n2 cn) ∧ w'.cell? ⟨BG, 2, none⟩ = some (.slice ap n3 cp)) ∧ (w'.cell? ⟨b, o, none⟩ = some (.int .i64 t.sym) ∧ w'.cell? ⟨b, o + 1, none⟩ = some (.int .i64 t.prod) ∧ w'.cell? ⟨b, o + 2, none⟩ = some (.slice t.a t.kids.length t.c))) ∧ (BG < w'.heap.size ∧ b < w'.heap.size)) ∧ Hid (Below w3.heap.size w3 w')) (first | exact HKQ.out _ (by assumption)) (first
            | (go_at_call 15; (with_reducible refine (HP16.out _ HBD.out).mono ?_); rintro e w5 ⟨rfl, hb5⟩; have HBY5 := Lib.hid (HBD.out.trans (hb5.mono HBD.out.size)); clear hb5))
          all_goals
            go_wp2
            go_meet
            case rel => exact ⟨rfl, HBY5⟩
        case rest =>
          obtain ⟨rfl, HBX⟩ := hcut
          rename World => W4
          have HB4 := Lib.hid (HB3.out.trans (HBX.out.mono HB3.out.size))
          have HQG4 := Lib.hid ((HBX.out.block _ (heap_lt HQG3.out)).trans HQG3.out)
          have HQH4 := Lib.hid ((HBX.out.block _ (heap_lt HQH3'.out)).trans HQH3'.out)
          have HG4 := Lib.hid (HG3'.out.below HBX.out)
          have HH4 := Lib.hid (HH3'.out.below HBX.out)
          clear g0 g1 g2 lg t0 t1 t2 hbl hpl hli
          have g0 := (blk_cell (i := 0) HQG4.out rfl).1
          have g1 := (blk_cell (i := 1) HQG4.out rfl).1
          have g2 := (blk_cell (i := 2) HQG4.out rfl).1
          have lg := heap_lt HQG4.out
          go_upto_region 19 with (go_at_call 14; (with_reducible refine (HT18.out (some ⟨W4.heap.size, 0, none⟩) (W4.alloc (.cells #[.int .i64 100] 3)) (HG4.out.below (box_belowT W4 _)) (cells_new W4 _ _)).mono ?_); rintro e w5 ⟨hb5, b5, o5, c5, rfl, hbl5, hc5⟩)
          have HBS5 := Lib.hid ((box_belowT W4 (.cells #[.int .i64 100] 3)).trans (hb5.mono (box_belowT W4 _).size))
          have HB5' := Lib.hid (HB4.out.trans (HBS5.out.mono HB4.out.size))
          have HQH5 := Lib.hid ((HBS5.out.block _ (heap_lt HQH4.out)).trans HQH4.out)
          have HH5 := Lib.hid (HH4.out.below HBS5.out)
          clear g0 g1 g2 lg hb5
          have h0 := (blk_cell (i := 0) HQH5.out rfl).1
          have h1 := (blk_cell (i := 1) HQH5.out rfl).1
          have h2 := (blk_cell (i := 2) HQH5.out rfl).1
          have lh := heap_lt HQH5.out
          go_upto_region 22 with (go_at_call 14; (with_reducible refine (HT21.out (some ⟨w5.heap.size, 0, none⟩) (w5.alloc (.cells #[.int .i64 1, .int .i64 1, .int .i64 1] 3)) (HH5.out.below (box_belowT w5 _)) (cells_new w5 _ _)).mono ?_); rintro e w6 ⟨hb6, b, o, c, t, t', rfl, hp1, hp2, hl1, hl2, hbl, ⟨t0, t1, t2⟩, t3, t4, t5⟩)
          have HBS6 := Lib.hid ((box_belowT w5 (.cells #[.int .i64 1, .int .i64 1, .int .i64 1] 3)).trans (hb6.mono (box_belowT w5 _).size))
          have HB6' := Lib.hid (HB5'.out.trans (HBS6.out.mono HB5'.out.size))
          have HQH6' := Lib.hid ((HBS6.out.block _ (heap_lt HQH5.out)).trans HQH5.out)
          have HH6' := Lib.hid (HH5.out.below HBS6.out)
          clear h0 h1 h2 lh hb6 hbl5 hc5
          have h0 := (blk_cell (i := 0) HQH6'.out rfl).1
          have h1 := (blk_cell (i := 1) HQH6'.out rfl).1
          have h2 := (blk_cell (i := 2) HQH6'.out rfl).1
          have lh := heap_lt HQH6'.out
          have HPA := Lib.hid (show ∀ W, Below w6.heap.size w6 W → Calls Try.prog 15 #[.agg #[.slice bt n4 cu, .slice bn n5 cv, .slice bp n6 cw], .agg #[.int .i64 t.sym, .int .i64 t.prod, .slice t.a t.kids.length t.c]] W fun e w' => e = .returned (.string ⟨#[40, 83, 32, 40, 83, 32, 97, 41, 32, 40, 83, 32, 40, 83, 32, 97, 41, 32, 40, 83, 32, 97, 41, 41, 41]⟩) ∧ Below W.heap.size W w' from fun W hW => print_at bw9_check (HH6'.out.below hW) (hl1.under hW) hp1 (by unfold trB; simp [mildT, mildK, mildI]) (by decide +kernel) trB_text)
          have HPB := Lib.hid (show ∀ W, Below w6.heap.size w6 W → Calls Try.prog 15 #[.agg #[.slice bt n4 cu, .slice bn n5 cv, .slice bp n6 cw], .agg #[.int .i64 t'.sym, .int .i64 t'.prod, .slice t'.a t'.kids.length t'.c]] W fun e w' => e = .returned (.string ⟨#[40, 83, 32, 40, 83, 32, 40, 83, 32, 97, 41, 32, 40, 83, 32, 97, 41, 41, 32, 40, 83, 32, 97, 41, 41]⟩) ∧ Below W.heap.size W w' from fun W hW => print_at bw9_check (HH6'.out.below hW) (hl2.under hW) hp2 (by unfold trC; simp [mildT, mildK, mildI]) (by decide +kernel) trC_text)
          have HBD := Lib.hid (show Below w6.heap.size w6 w6.drew from (Below.refl _ _).drew)
          have HKQ : Hid (∀ w', Hid (Below w6.heap.size w6 w') → (((w'.cell? ⟨BH, 0, none⟩ = some (.slice bt n4 cu) ∧ w'.cell? ⟨BH, 1, none⟩ = some (.slice bn n5 cv) ∧ w'.cell? ⟨BH, 2, none⟩ = some (.slice bp n6 cw)) ∧ (w'.cell? ⟨b, o, none⟩ = some (.int .i64 t.sym) ∧ w'.cell? ⟨b, o + 1, none⟩ = some (.int .i64 t.prod) ∧ w'.cell? ⟨b, o + 2, none⟩ = some (.slice t.a t.kids.length t.c)) ∧ (w'.cell? ⟨b, o + 3, none⟩ = some (.int .i64 t'.sym) ∧ w'.cell? ⟨b, o + 4, none⟩ = some (.int .i64 t'.prod) ∧ w'.cell? ⟨b, o + 5, none⟩ = some (.slice t'.a t'.kids.length t'.c))) ∧ (BH < w'.heap.size ∧ b < w'.heap.size)) ∧ Hid (Below w6.heap.size w6 w')) := Lib.hid fun w' h => ⟨⟨⟨⟨(h.out.cell (p := ⟨BH, 0, none⟩) lh).trans h0, (h.out.cell (p := ⟨BH, 1, none⟩) lh).trans h1, (h.out.cell (p := ⟨BH, 2, none⟩) lh).trans h2⟩, ⟨(h.out.cell (p := ⟨b, o, none⟩) hbl).trans t0, (h.out.cell (p := ⟨b, o + 1, none⟩) hbl).trans t1, (h.out.cell (p := ⟨b, o + 2, none⟩) hbl).trans t2⟩, (h.out.cell (p := ⟨b, o + 3, none⟩) hbl).trans t3, (h.out.cell (p := ⟨b, o + 4, none⟩) hbl).trans t4, (h.out.cell (p := ⟨b, o + 5, none⟩) hbl).trans t5⟩, Nat.lt_of_lt_of_le lh h.out.size, Nat.lt_of_lt_of_le hbl h.out.size⟩, h⟩
          clear hp1 hp2 hl1 hl2
          go_region_held3 (fun w' => (((w'.cell? ⟨BH, 0, none⟩ = some (.slice bt n4 cu) ∧ w'.cell? ⟨BH, 1, none⟩ = some (.slice bn n5 cv) ∧ w'.cell? ⟨BH, 2, none⟩ = some (.slice bp n6 cw)) ∧ (w'.cell? ⟨b, o, none⟩ = some (.int .i64 t.sym) ∧ w'.cell? ⟨b, o + 1, none⟩ = some (.int .i64 t.prod) ∧ w'.cell? ⟨b, o + 2, none⟩ = some (.slice t.a t.kids.length t.c)) ∧ (w'.cell? ⟨b, o + 3, none⟩ = some (.int .i64 t'.sym) ∧ w'.cell? ⟨b, o + 4, none⟩ = some (.int .i64 t'.prod) ∧ w'.cell? ⟨b, o + 5, none⟩ = some (.slice t'.a t'.kids.length t'.c))) ∧ (BH < w'.heap.size ∧ b < w'.heap.size)) ∧ Hid (Below w6.heap.size w6 w')) (first | exact HKQ.out _ (by assumption)) (first
            | (go_at_call 15; (with_reducible refine (HPA.out _ HBD.out).mono ?_); rintro e w7 ⟨rfl, hb7⟩; have HBY7 := Lib.hid (HBD.out.trans (hb7.mono HBD.out.size)); clear hb7)
            | (go_at_call 15; (with_reducible refine (HPB.out _ HBY7.out).mono ?_); rintro e w8 ⟨rfl, hb8⟩; have HBY8 := Lib.hid (HBY7.out.trans (hb8.mono HBY7.out.size)); clear hb8)
            | (go_at_call 16; (with_reducible refine (HWK.out _).mono ?_); rintro e w9 ⟨rfl, hb9⟩; have HBY9 := Lib.hid (HBY8.out.trans (hb9.mono HBY8.out.size)); clear hb9))
          all_goals
            go_wp2
            go_ret
            exact ⟨rfl, HB6'.out.trans (HBY9.out.mono HB6'.out.size)⟩
end Go.Proofs.Ytgfkkbpnphbdgaa
