/- The document's own firsts of a row: walked. -/
import Derived.Test.YtflfmcikfiaoiaaRTrim
import Derived.Test.YtflfmcikfiaoiaaFirstN
import Derived.Test.YtflfmcikfiaoiaaFind
import Derived.Deep.Cut
set_option linter.unusedVariables false
namespace Go.Proofs.Ytflfmcikfiaoiaa
open Go.RowKit
open Doc

theorem ne_zero_bitR {x i : Nat} (h : x.testBit i = true) : x ≠ 0 := by
  rintro rfl
  simp at h
set_option maxHeartbeats 1000000 in
theorem rsome_any (b n S : Nat) (w : World) (hB : BsAt w b n S) (hS : ∀ i, S.testBit i = true → i < n) (hn : n ≤ 64) :
    Calls Try.prog 74 #[.slice (some ⟨b, 0, none⟩) n n] w fun e w' => e = .returned (.bool (!decide (S = 0))) ∧ w' = w := by
  have HB := Lib.hid hB
  have HSB := Lib.hid hS
  clear hB hS
  go_enter Try.func74, Try.ntmps74
  go_wp2
  go_loop [7] (fun i => ∃ k : Nat, k ≤ n ∧ i = .int .i64 k ∧ Hid (∀ j, j < k → S.testBit j = false)) (fun i => n - (intOf i).toNat)
  case atStart => exact ⟨0, Nat.zero_le _, rfl, Lib.hid fun j hj => by omega⟩
  case round =>
    obtain ⟨k, hk, rfl, HZ⟩ := hrel
    by_cases hlt : k < n
    · have hc := (HB.out.cell hlt).1
      have hbl := heap_lt HB.out
      have e1 : (k : Int) < n := by omega
      cases hbi : S.testBit k with
      | true =>
        have hr : (!decide (S = 0)) = true := by
          rw [decide_eq_false (ne_zero_bitR hbi)]; rfl
        rw [hbi] at hc
        have HR := Lib.hid hr
        clear hbi hr
        go_wp2
        go_ret
        exact ⟨ret_bool HR.out.symm, rfl⟩
      | false =>
        rw [hbi] at hc
        have HZ2 : Hid (∀ j, j < k + 1 → S.testBit j = false) := Lib.hid fun j hj => by
          by_cases h : j = k
          · subst h; exact hbi
          · exact HZ.out j (by omega)
        clear hbi
        go_wp2
        exact ⟨⟨k + 1, by omega, by go_num, HZ2⟩, by simp [intOf]; omega⟩
    · have e1 : ¬ (k : Int) < n := by omega
      have hr : (!decide (S = 0)) = false := by
        have : S = 0 := Nat.eq_of_testBit_eq fun i => by
          rw [Nat.zero_testBit]
          cases h : S.testBit i with
          | false => rfl
          | true => have := HSB.out i h; have := HZ.out i (by omega); rw [h] at this; cases this
        rw [decide_eq_true this]; rfl
      have HR := Lib.hid hr
      clear hr
      go_wp2
      go_ret
      exact ⟨ret_bool HR.out.symm, rfl⟩

/-- Rows of truths in a row, as they lie. -/
structure MatAt (w : World) (mb t : Nat) (bl : List Nat) (F : List Nat) : Prop where
  q : w.heap[mb]? = some (.cells (bl.map fun b => Value.slice (some ⟨b, 0, none⟩) (t + 1) (t + 1)).toArray 51)
  r : ∀ (i b : Nat), bl[i]? = some b → BsAt w b (t + 1) (F.getD i 0)
  len : bl.length = F.length
  nd : ∀ (i j b : Nat), bl[i]? = some b → bl[j]? = some b → i = j
  far : mb ∉ bl
theorem MatAt.below {w w' : World} {mb t : Nat} {bl F : List Nat} (h : MatAt w mb t bl F) (hb : Below w.heap.size w w') : MatAt w' mb t bl F :=
  ⟨(hb.block mb (heap_lt h.q)).trans h.q, fun i b hi => (hb.block b (heap_lt (h.r i b hi))).trans (h.r i b hi), h.len, h.nd, h.far⟩
theorem MatAt.cell {w : World} {mb t : Nat} {bl F : List Nat} (h : MatAt w mb t bl F) {i b : Nat} (hi : bl[i]? = some b) : w.cell? ⟨mb, i, none⟩ = some (.slice (some ⟨b, 0, none⟩) (t + 1) (t + 1)) :=
  (blk_cell (i := i) (u := .slice (some ⟨b, 0, none⟩) (t + 1) (t + 1)) h.q (by rw [List.getElem?_toArray, List.getElem?_map, hi]; rfl)).1

/-- A set without nought. -/
def clr (R : Nat) : Nat := sless R 1
theorem clr_bit {R : Nat} (h : R < 18446744073709551616) (i : Nat) : (clr R).testBit i = (R.testBit i && !decide (i = 0)) := bit_less_one h i
theorem clr_one : clr 1 = 0 := by decide
/-- The digits from 1 to k - 1 of X, put to R's. -/
def upTo (X k : Nat) : Nat := asN X k
theorem mk_bools_at (t : Nat) (ht : t ≤ 8) (W : World) : (Instr.makeSlice 51 (.int .i64 ((t : Int) + 1)) (.int .i64 ((t : Int) + 1))).run Try.prog W = .ok (.slice (some ⟨W.heap.size, 0, none⟩) (t + 1) (t + 1)) (W.alloc (.cells (bs (t + 1) 0).toArray 4)) := make_bools (t + 1) (by omega) W
theorem goOn_clr_low {R X : Nat} (hR : R < 18446744073709551616) (hX : X < 18446744073709551616) (h0 : R.testBit 0 = true) : clr (goOnF R X) = clr R ||| clr X := Nat.eq_of_testBit_eq fun i => by
  have hG : goOnF R X < 18446744073709551616 := by
    unfold goOnF
    split
    · exact or_lt _ _ (Nat.lt_of_le_of_lt (sub_le (fun j hj => by rw [bit_less_one hR] at hj; rw [Bool.and_eq_true] at hj; exact hj.1)) hR) hX
    · exact hR
  rw [clr_bit hG, goOn_bit hR, if_pos h0, Nat.testBit_or, clr_bit hR, clr_bit hX]
  cases R.testBit i <;> cases X.testBit i <;> cases decide (i = 0) <;> rfl
theorem goOn_stay {R X : Nat} (h0 : R.testBit 0 = false) : goOnF R X = R := by
  unfold goOnF
  rw [has_zero_bit, h0]; rfl
theorem goOn_zero {R X : Nat} (hR : R < 18446744073709551616) (h0 : R.testBit 0 = true) : (goOnF R X).testBit 0 = X.testBit 0 := by
  rw [goOn_bit hR, if_pos h0]; simp
theorem clr_dig {s : Int} (h1 : 1 ≤ s) : clr (sdig s) = sdig s := Nat.eq_of_testBit_eq fun i => by
  rw [clr_bit (dig_lt s), bit_dig]
  by_cases h : i = 0
  · subst h; simp; omega
  · simp [h]
theorem alone_symB (g : Gr) (F : List Nat) (hF : F.length = g.nons.length) (ht : g.terms.length ≤ 63) (s : Int) : (aloneF g.terms.length F s = 0) ↔ (symB g s = false ∨ (nonB g s = true ∧ F.getD (s - 100).toNat 0 = 0)) := by
  unfold aloneF symB nonB
  rw [hF]
  by_cases h1 : 1 ≤ s ∧ s ≤ (g.terms.length : Int)
  · rw [if_pos h1]
    have hb : (sdig s).testBit s.toNat = true := by rw [bit_dig, decide_eq_true_eq]; omega
    have := ne_zero_bitR hb
    have h2 : ¬ (100 ≤ s) := by omega
    simp [this, h1, h2]
  · rw [if_neg h1]
    by_cases h2 : 100 ≤ s ∧ s < 100 + (g.nons.length : Int)
    · rw [if_pos h2]
      simp [h2]
    · rw [if_neg h2]
      have h3 : (decide (1 ≤ s) && decide (s ≤ (g.terms.length : Int))) = false := by
        rw [Bool.eq_false_iff]; intro h; rw [Bool.and_eq_true, decide_eq_true_eq, decide_eq_true_eq] at h; exact h1 h
      have h4 : (decide (100 ≤ s) && decide (s < 100 + (g.nons.length : Int))) = false := by
        rw [Bool.eq_false_iff]; intro h; rw [Bool.and_eq_true, decide_eq_true_eq, decide_eq_true_eq] at h; exact h2 h
      rw [h3, h4]; simp
theorem BsAt.put {w : World} {b n S S' : Nat} (h : BsAt w b n S) {i : Nat} (hi : i < n) (v : Bool) (h1 : S'.testBit i = v) (h2 : ∀ j, j ≠ i → S'.testBit j = S.testBit j) : BsAt (w.setCell ⟨b, i, none⟩ (.bool v)) b n S' := by
  unfold BsAt
  rw [heap_set w b i _ _ _ h (by simp [bs]; exact hi)]
  simp only [Array.set!_eq_setIfInBounds, List.setIfInBounds_toArray]
  congr 3
  apply List.ext_getElem?
  intro j
  rw [List.getElem?_set]
  by_cases hij : i = j
  · subst hij
    rw [if_pos rfl, if_pos (by simp [bs]; exact hi), bs_at hi, h1]
  · rw [if_neg hij]
    by_cases hj : j < n
    · rw [bs_at hj, bs_at hj, h2 j (Ne.symm hij)]
    · rw [List.getElem?_eq_none (by simp [bs]; omega), List.getElem?_eq_none (by simp [bs]; omega)]

theorem clr_as1 (R X : Nat) (hR : R < 18446744073709551616) : clr R ||| clr (asN X 1) = clr R := Nat.eq_of_testBit_eq fun i => by
  rw [Nat.testBit_or, clr_bit (asN_lt X 1), asN_bit X 1 i (by omega)]
  by_cases h : i = 0
  · subst h; simp
  · have : decide (i < 1) = false := decide_eq_false (by omega)
    rw [this]; simp
theorem row_step {R X t : Nat} (h1 : 1 ≤ t) (h63 : t ≤ 63) : (clr R ||| clr (asN X (t + 1))).testBit t = ((clr R ||| clr (asN X t)).testBit t || X.testBit t) ∧ ∀ j, j ≠ t → (clr R ||| clr (asN X (t + 1))).testBit j = (clr R ||| clr (asN X t)).testBit j := by
  constructor
  · rw [Nat.testBit_or, Nat.testBit_or, clr_bit (asN_lt X _), clr_bit (asN_lt X _), asN_bit X _ _ (by omega), asN_bit X _ _ (by omega)]
    have h2 : decide (t < t + 1) = true := decide_eq_true (by omega)
    have h3 : decide (t < t) = false := decide_eq_false (by omega)
    have h4 : decide (t = 0) = false := decide_eq_false (by omega)
    rw [h2, h3, h4]; simp
  · intro j hj
    rw [Nat.testBit_or, Nat.testBit_or, clr_bit (asN_lt X _), clr_bit (asN_lt X _), asN_bit X _ _ (by omega), asN_bit X _ _ (by omega)]
    have : decide (j < t + 1) = decide (j < t) := decide_eq_decide.2 (by omega)
    rw [this]
def RowEnd (B t X : Nat) (e : Ending) (w' : World) : Prop := ∃ b, e = .returned (.slice (some ⟨b, 0, none⟩) (t + 1) (t + 1)) ∧ BsAt w' b (t + 1) X ∧ B ≤ b

set_option maxRecDepth 100000 in
set_option maxHeartbeats 16000000 in
theorem firstOf_any (v : Value) (g : Gr) (mb : Nat) (bl F : List Nat) (la : Option Addr) (lc : Nat) (l : List Int) (w : World) (hg : GramAt w v g) (hck : CheckG g) (hm : MatAt w mb g.terms.length bl F) (hF : F.length = g.nons.length) (hlow : LowF g.terms.length F) (hl : Cells w la (nums l)) (hll : l.length ≤ 1000000) (hlw : ∀ s ∈ l, -9223372036854775808 ≤ s ∧ s ≤ 9223372036854775807) :
    Calls Try.prog 29 #[v, .slice (some ⟨mb, 0, none⟩) g.nons.length g.nons.length, .slice la l.length lc] w fun e w' => Below w.heap.size w w' ∧ RowEnd w.heap.size g.terms.length (ofF g.terms.length F l 1) e w' := by
  have hg0 := hg
  obtain ⟨a1, a2, a3, c1, c2, c3, ls, rfl, hp, k1, k2, k3, k4, k5, k6, k7⟩ := hg
  have hS := box_below w (.cells #[.slice a1 g.terms.length c1, .slice a2 g.nons.length c2, .slice a3 ls.length c3] 28)
  have q0 := heap_alloc_new w (.cells #[.slice a1 g.terms.length c1, .slice a2 g.nons.length c2, .slice a3 ls.length c3] 28)
  have HS := Lib.hid hS
  have HG := Lib.hid (hg0.below hS)
  have HM := Lib.hid (hm.below hS)
  have HL := Lib.hid (hl.below hS)
  have HQ0 := Lib.hid q0
  have HCK := Lib.hid hck
  have HLW := Lib.hid hlw
  have HLF := Lib.hid hlow
  have HFL := Lib.hid hF
  have ht8 := hck.t8
  have hn8 := hck.n8
  have hn1 := hck.n1
  have l0 := heap_lt q0
  have y0 := (blk_cell (i := 0) (u := .slice a1 g.terms.length c1) q0 rfl).1
  have hmk := fun W => mk_bools_at g.terms.length ht8 W
  have hnil : ∀ W, (binOp .eql 47 (.slice (some ⟨mb, 0, none⟩) g.nons.length g.nons.length) (.slice none 0 0)).run Try.prog W = .ok (.bool false) W := fun _ => rfl
  clear hg0 hp k1 k2 k3 k4 hS q0 hck hlw hlow hF hm hl
  go_enter Try.func29, Try.ntmps29
  go_upto_region 1 with fail
  generalize hS1 : w.alloc (.cells #[.slice a1 g.terms.length c1, .slice a2 g.nons.length c2, .slice a3 ls.length c3] 28) = S1 at *
  clear hS1
  go_upto_region 5 with fail
  have hb1 := box_below S1 (.cells (bs (g.terms.length + 1) 0).toArray 4)
  have q1 := heap_alloc_new S1 (.cells (bs (g.terms.length + 1) 0).toArray 4)
  have HB1 := Lib.hid hb1
  have HQ1 : Hid (BsAt (S1.alloc (.cells (bs (g.terms.length + 1) 0).toArray 4)) S1.heap.size (g.terms.length + 1) (clr 1)) := Lib.hid (by rw [clr_one]; exact q1)
  clear hb1 q1 y0
  generalize hS2 : S1.alloc (.cells (bs (g.terms.length + 1) 0).toArray 4) = S2 at *
  clear hS2
  generalize hOB : S1.heap.size = OB at *
  have HOB := Lib.hid hOB
  clear hOB
  go_upto_region 6 with fail
  have HK : Hid (∀ W, Below S1.heap.size S1 W → (W.cell? ⟨w.heap.size, 0, none⟩ = some (.slice a1 g.terms.length c1) ∧ W.cell? ⟨w.heap.size, 1, none⟩ = some (.slice a2 g.nons.length c2) ∧ W.cell? ⟨w.heap.size, 2, none⟩ = some (.slice a3 ls.length c3)) ∧ w.heap.size < W.heap.size) := Lib.hid fun W hW => by
    have hq := (hW.block w.heap.size (by have := HOB.out; omega)).trans HQ0.out
    exact ⟨⟨(blk_cell (i := 0) (u := .slice a1 g.terms.length c1) hq rfl).1, (blk_cell (i := 1) (u := .slice a2 g.nons.length c2) hq rfl).1, (blk_cell (i := 2) (u := .slice a3 ls.length c3) hq rfl).1⟩, heap_lt hq⟩
  have HZE : Hid (∀ W, Below S1.heap.size S1 W → ofF g.terms.length F l 1 = 0 → Below w.heap.size w (W.alloc (.cells (bs (g.terms.length + 1) 0).toArray 4)) ∧ RowEnd w.heap.size g.terms.length (ofF g.terms.length F l 1) (.returned (.slice (some ⟨W.heap.size, 0, none⟩) (g.terms.length + 1) (g.terms.length + 1))) (W.alloc (.cells (bs (g.terms.length + 1) 0).toArray 4))) := Lib.hid fun W hW h0 => by
    have h1 := HS.out.trans (hW.mono HS.out.size)
    exact ⟨h1.trans ((box_below W _).mono h1.size), W.heap.size, rfl, by rw [h0]; exact heap_alloc_new W _, h1.size⟩
  go_loopw [8, 23] (fun em i wr => ∃ (k R : Nat), k ≤ l.length ∧ i = .int .i64 k ∧ em = .bool (R.testBit 0) ∧ Hid (ofF g.terms.length F l 1 = ofF g.terms.length F (l.drop k) R) ∧ Hid (LowB g.terms.length R) ∧ Hid (BsAt wr OB (g.terms.length + 1) (clr R)) ∧ Hid (Below OB S1 wr)) (fun _ i _ => l.length - (intOf i).toNat)
  case atStart => exact ⟨0, 1, by omega, rfl, rfl, Lib.hid rfl, Lib.hid (low_one _), HQ1, Lib.hid (HB1.out.mono (by have := HOB.out; omega))⟩
  case round =>
    obtain ⟨k, R, hk, rfl, rfl, HOF, HRL, HBO, HBL⟩ := hrel
    have hS1 : Below S1.heap.size S1 wr := by rw [HOB.out]; exact HBL.out
    have hOBl := heap_lt HBO.out
    by_cases hkl : k < l.length
    · obtain ⟨s, hs⟩ : ∃ s, l[k]? = some s := ⟨_, List.getElem?_eq_getElem hkl⟩
      obtain ⟨b4, o4, hla, hb4, hc4⟩ := (HL.out.below hS1).get (by unfold nums; intro e; rw [List.map_eq_nil_iff] at e; rw [e] at hkl; simp at hkl)
      have u0 := hc4 k _ (nums_at hs)
      subst hla
      have e1 : (k : Int) < l.length := by omega
      obtain ⟨hsl, hsu⟩ := HLW.out s (List.mem_of_getElem? hs)
      have HGR := Lib.hid (HG.out.below hS1)
      have HST := Lib.hid (of_drop (t := g.terms.length) (F := F) hs R)
      have HLA := Lib.hid (low_alone (t := g.terms.length) HLF.out s)
      have HSY := Lib.hid (alone_symB g F HFL.out (by omega) s)
      have HRlt := Lib.hid (low_lt HRL.out (show g.terms.length ≤ 63 by omega))
      have HS1R := Lib.hid hS1
      have HIS := Lib.hid (is_any _ g s wr HGR.out (by omega))
      have HNI := Lib.hid (nonIs_any _ g s wr HGR.out (by omega))
      obtain ⟨⟨y0, y1, y2⟩, y3⟩ := HK.out wr hS1
      have HBX : Hid (∀ W, Below wr.heap.size wr W → Below OB S1 W) := Lib.hid fun W h => HBL.out.trans (h.mono (by omega))
      have HBY : Hid (∀ W, Below wr.heap.size wr W → Below S1.heap.size S1 W) := Lib.hid fun W h => HS1R.out.trans (h.mono HS1R.out.size)
      clear hc4 hs hS1
      have hterm : (1 ≤ s ∧ s ≤ (g.terms.length : Int)) ∨ (100 ≤ s ∧ s < 100 + (g.nons.length : Int)) ∨ symB g s = false := by
        unfold symB nonB
        by_cases h1 : 1 ≤ s ∧ s ≤ (g.terms.length : Int)
        · exact .inl h1
        · by_cases h2 : 100 ≤ s ∧ s < 100 + (g.nons.length : Int)
          · exact .inr (.inl h2)
          · refine .inr (.inr ?_)
            rw [Bool.eq_false_iff]
            intro h
            simp only [Bool.or_eq_true, Bool.and_eq_true, decide_eq_true_eq] at h
            exact h.elim h1 h2
      cases hem : R.testBit 0 with
      | false =>
        have HNX : Hid (ofF g.terms.length F l 1 = if aloneF g.terms.length F s = 0 then 0 else ofF g.terms.length F (l.drop (k + 1)) R) := Lib.hid (by rw [HOF.out, HST.out, goOn_stay hem])
        have HEM := Lib.hid hem
        clear hem HST
        rcases hterm with ht | hn | hno
        · have hsy : symB g s = true := by unfold symB; simp [ht]
          have ha0 : aloneF g.terms.length F s ≠ 0 := fun h => by
            rcases HSY.out.1 h with h | ⟨h, _⟩
            · rw [hsy] at h; cases h
            · unfold nonB at h; rw [Bool.and_eq_true, decide_eq_true_eq] at h; omega
          have HN2 : Hid (ofF g.terms.length F l 1 = ofF g.terms.length F (l.drop (k + 1)) R) := Lib.hid (by rw [HNX.out, if_neg ha0])
          have e3 : ¬ (100 ≤ s) := by omega
          rw [hsy] at HIS
          clear hsy ha0 ht
          go_wp2_with (go_at_call 67; refine HIS.out.mono ?_; rintro e w5 ⟨rfl, hb5⟩)
          exact ⟨⟨k + 1, R, by omega, by go_num, by rw [HEM.out], HN2, HRL, Lib.hid ((hb5.block _ hOBl).trans HBO.out), Lib.hid (HBX.out _ hb5)⟩, by simp [intOf]; omega⟩
        · obtain ⟨i, hi⟩ := Int.eq_ofNat_of_zero_le (show 0 ≤ s - 100 by omega)
          have hin : i < g.nons.length := by omega
          have hsn : s < 100 + (g.nons.length : Int) := by omega
          have h100 : 100 ≤ s := by omega
          obtain ⟨rb, hrb⟩ : ∃ rb, bl[i]? = some rb := ⟨_, List.getElem?_eq_getElem (by have := HM.out.len; have := HFL.out; omega)⟩
          have hto : (s - 100).toNat = i := by omega
          have hal : aloneF g.terms.length F s = F.getD i 0 := by
            unfold aloneF
            rw [if_neg (by omega), if_pos (by rw [HFL.out]; omega), hto]
          have hXl : LowB g.terms.length (F.getD i 0) := HLF.out i
          have HCELL : Hid (∀ W, Below S1.heap.size S1 W → W.cell? ⟨mb, i, none⟩ = some (.slice (some ⟨rb, 0, none⟩) (g.terms.length + 1) (g.terms.length + 1)) ∧ mb < W.heap.size) := Lib.hid fun W hW => ⟨(HM.out.below hW).cell hrb, heap_lt (HM.out.below hW).q⟩
          have HROW : Hid (∀ W, Below S1.heap.size S1 W → BsAt W rb (g.terms.length + 1) (F.getD i 0)) := Lib.hid fun W hW => (HM.out.below hW).r i rb hrb
          have HSOM : Hid (∀ W, Below S1.heap.size S1 W → Calls Try.prog 74 #[.slice (some ⟨rb, 0, none⟩) (g.terms.length + 1) (g.terms.length + 1)] W fun e w' => e = .returned (.bool (!decide (F.getD i 0 = 0))) ∧ w' = W) := Lib.hid fun W hW => rsome_any rb (g.terms.length + 1) (F.getD i 0) W (HROW.out W hW) (fun j hj => by have := hXl j hj; omega) (by omega)
          have hrbl : rb < OB := by have := heap_lt (HM.out.r i rb hrb); have := HOB.out; omega
          have hsy : symB g s = true := by unfold symB nonB; simp [h100, hsn]
          have hnb : nonB g s = true := by unfold nonB; simp [h100, hsn]
          rw [hsy] at HIS
          rw [hal] at HNX
          generalize F.getD i 0 = X at *
          by_cases hX : X = 0
          · have HN2 : Hid (ofF g.terms.length F l 1 = 0) := Lib.hid (by rw [HNX.out, if_pos hX])
            rw [decide_eq_true hX] at HSOM
            clear hX hsy hnb hal hto hn hrb
            go_wp2_with (first
              | (go_at_call 67; refine HIS.out.mono ?_; rintro e w5 ⟨rfl, hb5⟩; obtain ⟨⟨z0, z1, z2⟩, z3⟩ := HK.out w5 (HBY.out _ hb5); obtain ⟨m0, m1⟩ := HCELL.out w5 (HBY.out _ hb5))
              | (go_at_call 74; refine (HSOM.out w5 (HBY.out _ hb5)).mono ?_; rintro e w6 ⟨rfl, rfl⟩))
            go_ret
            exact HZE.out _ (HBY.out _ hb5) HN2.out
          · have HN2 : Hid (ofF g.terms.length F l 1 = ofF g.terms.length F (l.drop (k + 1)) R) := Lib.hid (by rw [HNX.out, if_neg hX])
            rw [decide_eq_false hX] at HSOM
            clear hX hsy hnb hal hto hn hrb
            go_wp2_with (first
              | (go_at_call 67; refine HIS.out.mono ?_; rintro e w5 ⟨rfl, hb5⟩; obtain ⟨⟨z0, z1, z2⟩, z3⟩ := HK.out w5 (HBY.out _ hb5); obtain ⟨m0, m1⟩ := HCELL.out w5 (HBY.out _ hb5))
              | (go_at_call 74; refine (HSOM.out w5 (HBY.out _ hb5)).mono ?_; rintro e w6 ⟨rfl, rfl⟩))
            exact ⟨⟨k + 1, R, by omega, by go_num, by rw [HEM.out], HN2, HRL, Lib.hid ((hb5.block _ hOBl).trans HBO.out), Lib.hid (HBX.out _ hb5)⟩, by simp [intOf]; omega⟩
        · have ha0 : aloneF g.terms.length F s = 0 := HSY.out.2 (.inl hno)
          have HN2 : Hid (ofF g.terms.length F l 1 = 0) := Lib.hid (by rw [HNX.out, if_pos ha0])
          rw [hno] at HIS
          clear hno ha0
          go_wp2_with (go_at_call 67; refine HIS.out.mono ?_; rintro e w5 ⟨rfl, hb5⟩; obtain ⟨⟨z0, z1, z2⟩, z3⟩ := HK.out w5 (HBY.out _ hb5))
          go_ret
          exact HZE.out _ (HBY.out _ hb5) HN2.out
      | true =>
        have HNX : Hid (ofF g.terms.length F l 1 = if aloneF g.terms.length F s = 0 then 0 else ofF g.terms.length F (l.drop (k + 1)) (goOnF R (aloneF g.terms.length F s))) := Lib.hid (by rw [HOF.out, HST.out])
        have HGZ := Lib.hid fun X => goOn_zero (X := X) HRlt.out hem
        have HGC := Lib.hid fun X (hX : X < 18446744073709551616) => goOn_clr_low HRlt.out hX hem
        have HGL : Hid (LowB g.terms.length (goOnF R (aloneF g.terms.length F s))) := Lib.hid (low_goOn (by omega) HRL.out HLA.out)
        clear hem HST
        rcases hterm with ht | hn | hno
        · obtain ⟨n, rfl⟩ : ∃ n : Nat, s = n := ⟨s.toNat, by omega⟩
          have ha : aloneF g.terms.length F (n : Int) = sdig (n : Int) := by unfold aloneF; rw [if_pos ht]
          have hb : (sdig (n : Int)).testBit n = true := by rw [bit_dig, decide_eq_true_eq]; omega
          have ha0 : aloneF g.terms.length F (n : Int) ≠ 0 := by rw [ha]; exact ne_zero_bitR hb
          rw [ha] at HGL
          have HN2 : Hid (ofF g.terms.length F l 1 = ofF g.terms.length F (l.drop (k + 1)) (goOnF R (sdig (n : Int)))) := Lib.hid (by rw [HNX.out, if_neg ha0, ha])
          have hput := HBO.out.put (i := n) (S' := clr (goOnF R (sdig (n : Int)))) (by omega) true (by rw [HGC.out _ (dig_lt _), Nat.testBit_or, clr_dig (by omega), hb]; simp) (fun j hj => by
            rw [HGC.out _ (dig_lt _), Nat.testBit_or, clr_dig (by omega), bit_dig]
            have : decide ((n : Int) = (j : Int) ∧ j < 64) = false := by rw [decide_eq_false_iff_not]; omega
            rw [this, Bool.or_false])
          obtain ⟨hc, hfr⟩ := HBO.out.cell (i := n) (by omega)
          have HPUT := Lib.hid hput
          have HE0 : Hid ((goOnF R (sdig (n : Int))).testBit 0 = false) := Lib.hid (by rw [HGZ.out, bit_dig, decide_eq_false_iff_not]; omega)
          have HBS := Lib.hid (HBL.out.setCell (p := ⟨OB, n, none⟩) (Nat.le_refl _) (.bool true))
          have e3 : (1 : Int) ≤ (n : Int) := by omega
          have e4 : (n : Int) ≤ (g.terms.length : Int) := by omega
          have e5 : (n : Int) < (g.terms.length : Int) + 1 := by omega
          clear ha hb ha0 hput ht HLA HSY HNX HGC HGZ
          generalize goOnF R (sdig (n : Int)) = R2 at *
          go_wp2
          exact ⟨⟨k + 1, R2, by omega, by go_num, by rw [HE0.out], HN2, HGL, HPUT, HBS⟩, by simp [intOf]; omega⟩
        · obtain ⟨i, hi⟩ := Int.eq_ofNat_of_zero_le (show 0 ≤ s - 100 by omega)
          have hin : i < g.nons.length := by omega
          have hsn : s < 100 + (g.nons.length : Int) := by omega
          have h100 : 100 ≤ s := by omega
          obtain ⟨rb, hrb⟩ : ∃ rb, bl[i]? = some rb := ⟨_, List.getElem?_eq_getElem (by have := HM.out.len; have := HFL.out; omega)⟩
          have hto : (s - 100).toNat = i := by omega
          have hal : aloneF g.terms.length F s = F.getD i 0 := by
            unfold aloneF
            rw [if_neg (by omega), if_pos (by rw [HFL.out]; omega), hto]
          have hXl : LowB g.terms.length (F.getD i 0) := HLF.out i
          have HCELL : Hid (∀ W, Below S1.heap.size S1 W → W.cell? ⟨mb, i, none⟩ = some (.slice (some ⟨rb, 0, none⟩) (g.terms.length + 1) (g.terms.length + 1)) ∧ mb < W.heap.size) := Lib.hid fun W hW => ⟨(HM.out.below hW).cell hrb, heap_lt (HM.out.below hW).q⟩
          have HROW : Hid (∀ W, Below S1.heap.size S1 W → BsAt W rb (g.terms.length + 1) (F.getD i 0)) := Lib.hid fun W hW => (HM.out.below hW).r i rb hrb
          have HSOM : Hid (∀ W, Below S1.heap.size S1 W → Calls Try.prog 74 #[.slice (some ⟨rb, 0, none⟩) (g.terms.length + 1) (g.terms.length + 1)] W fun e w' => e = .returned (.bool (!decide (F.getD i 0 = 0))) ∧ w' = W) := Lib.hid fun W hW => rsome_any rb (g.terms.length + 1) (F.getD i 0) W (HROW.out W hW) (fun j hj => by have := hXl j hj; omega) (by omega)
          have hrbl : rb < OB := by have := heap_lt (HM.out.r i rb hrb); have := HOB.out; omega
          have hsy : symB g s = true := by unfold symB nonB; simp [h100, hsn]
          have hnb : nonB g s = true := by unfold nonB; simp [h100, hsn]
          rw [hnb] at HNI
          rw [hal] at HNX HGL
          have htn : ¬ s ≤ (g.terms.length : Int) := by omega
          have h1s : 1 ≤ s := by omega
          have hXlt := low_lt hXl (show g.terms.length ≤ 63 by omega)
          have HXL := Lib.hid hXl
          have HXT := Lib.hid hXlt
          have HZX := Lib.hid (HGZ.out (F.getD i 0))
          have HCX := Lib.hid (HGC.out _ hXlt)
          clear hXl hXlt HGZ HGC HLA HSY
          generalize F.getD i 0 = X at *
          by_cases hX : X = 0
          · have HN2 : Hid (ofF g.terms.length F l 1 = 0) := Lib.hid (by rw [HNX.out, if_pos hX])
            rw [decide_eq_true hX] at HSOM
            clear hX hsy hnb hal hto hn hrb
            go_wp2_with (first
              | (go_at_call 66; refine HNI.out.mono ?_; rintro e w5 ⟨rfl, hb5⟩; obtain ⟨⟨z0, z1, z2⟩, z3⟩ := HK.out w5 (HBY.out _ hb5); obtain ⟨m0, m1⟩ := HCELL.out w5 (HBY.out _ hb5))
              | (go_at_call 74; refine (HSOM.out w5 (HBY.out _ hb5)).mono ?_; rintro e w6 ⟨rfl, rfl⟩))
            go_ret
            exact HZE.out _ (HBY.out _ hb5) HN2.out
          · have HN2 : Hid (ofF g.terms.length F l 1 = ofF g.terms.length F (l.drop (k + 1)) (goOnF R X)) := Lib.hid (by rw [HNX.out, if_neg hX])
            rw [decide_eq_false hX] at HSOM
            clear hX hsy hnb hal hto hn hrb HNX
            go_upto_region 19 with (first
              | (go_at_call 66; refine HNI.out.mono ?_; rintro e w5 ⟨rfl, hb5⟩; obtain ⟨⟨z0, z1, z2⟩, z3⟩ := HK.out w5 (HBY.out _ hb5); obtain ⟨m0, m1⟩ := HCELL.out w5 (HBY.out _ hb5))
              | (go_at_call 74; refine (HSOM.out w5 (HBY.out _ hb5)).mono ?_; rintro e w6 ⟨rfl, rfl⟩))
            go_loopw [12] (fun tt wz => ∃ t' : Nat, 1 ≤ t' ∧ t' ≤ g.terms.length + 1 ∧ tt = .int .i64 t' ∧ Hid (BsAt wz OB (g.terms.length + 1) (clr R ||| clr (asN X t'))) ∧ Hid (Below OB S1 wz)) (fun tt _ => g.terms.length + 1 - (intOf tt).toNat)
            case atStart => exact ⟨1, by omega, by omega, rfl, Lib.hid (by rw [clr_as1 R X HRlt.out]; exact (hb5.block _ hOBl).trans HBO.out), Lib.hid (HBX.out _ hb5)⟩
            case round =>
              clear z0 z1 z2 z3 m0 m1
              rename World => wz
              obtain ⟨t2, ht1, ht2, rfl, HBZ, HLZ⟩ := hrel
              have hSz : Below S1.heap.size S1 wz := by rw [HOB.out]; exact HLZ.out
              have hrow := HROW.out wz hSz
              have hrl := heap_lt hrow
              have hol := heap_lt HBZ.out
              by_cases htl : t2 ≤ g.terms.length
              · have e6 : (t2 : Int) < (g.terms.length : Int) + 1 := by omega
                obtain ⟨hr1, hr2⟩ := row_step (R := R) (X := X) ht1 (by omega)
                have c1 := (HBZ.out.cell (i := t2) (by omega)).1
                have c1f := (HBZ.out.cell (i := t2) (by omega)).2
                have c2 := (hrow.cell (i := t2) (by omega)).1
                have HP := Lib.hid fun v (hv : (clr R ||| clr (asN X (t2 + 1))).testBit t2 = v) => HBZ.out.put (i := t2) (S' := clr R ||| clr (asN X (t2 + 1))) (by omega) v hv hr2
                have HBS := Lib.hid fun v => HLZ.out.setCell (p := ⟨OB, t2, none⟩) (Nat.le_refl _) (.bool v)
                have hne : rb ≠ OB := by omega
                have HR1 := Lib.hid hr1
                clear hr1 hr2 hSz hrow
                generalize (clr R ||| clr (asN X t2)).testBit t2 = a at *
                generalize X.testBit t2 = b at *
                cases a <;> cases b
                all_goals
                  go_wp2
                  exact ⟨⟨t2 + 1, by omega, by omega, by go_num, Lib.hid (HP.out _ (by rw [HR1.out]; rfl)), Lib.hid (HBS.out _)⟩, by simp [intOf]; omega⟩
              · have e6 : ¬ (t2 : Int) < (g.terms.length : Int) + 1 := by omega
                obtain rfl : t2 = g.terms.length + 1 := by omega
                have c2 := (hrow.cell (i := 0) (by omega)).1
                have HBN : Hid (BsAt wz OB (g.terms.length + 1) (clr (goOnF R X))) := Lib.hid (by
                  rw [HCX.out]
                  have : asN X (g.terms.length + 1) = X := asN_self (by omega) fun j hj => by have := HXL.out j hj; omega
                  have hz := HBZ.out
                  rw [this] at hz
                  exact hz)
                clear hSz hrow
                generalize X.testBit 0 = xb at *
                go_wp2
                exact ⟨⟨k + 1, goOnF R X, by omega, by go_num, by rw [HZX.out], HN2, HGL, HBN, HLZ⟩, by simp [intOf]; omega⟩
        · have ha0 : aloneF g.terms.length F s = 0 := HSY.out.2 (.inl hno)
          have HN2 : Hid (ofF g.terms.length F l 1 = 0) := Lib.hid (by rw [HNX.out, if_pos ha0])
          have hnb : nonB g s = false := by
            unfold symB at hno; rw [Bool.or_eq_false_iff] at hno; exact hno.2
          have htt : ¬ (1 ≤ s ∧ s ≤ (g.terms.length : Int)) := fun h => by unfold symB at hno; simp [h] at hno
          rw [hnb] at HNI
          clear hno ha0 hnb
          by_cases h1 : 1 ≤ s
          · have h2 : ¬ s ≤ (g.terms.length : Int) := fun h => htt ⟨h1, h⟩
            clear htt
            go_wp2_with (go_at_call 66; refine HNI.out.mono ?_; rintro e w5 ⟨rfl, hb5⟩; obtain ⟨⟨z0, z1, z2⟩, z3⟩ := HK.out w5 (HBY.out _ hb5))
            go_ret
            exact HZE.out _ (HBY.out _ hb5) HN2.out
          · clear htt
            go_wp2_with (go_at_call 66; refine HNI.out.mono ?_; rintro e w5 ⟨rfl, hb5⟩; obtain ⟨⟨z0, z1, z2⟩, z3⟩ := HK.out w5 (HBY.out _ hb5))
            go_ret
            exact HZE.out _ (HBY.out _ hb5) HN2.out
    · have e1 : ¬ (k : Int) < l.length := by omega
      have hfin : ofF g.terms.length F l 1 = R := by rw [HOF.out, List.drop_eq_nil_of_le (by omega)]; rfl
      have HRlt := low_lt HRL.out (show g.terms.length ≤ 63 by omega)
      have hput := HBO.out.put (i := 0) (S' := R) (by omega) (R.testBit 0) rfl (fun j hj => by rw [clr_bit HRlt]; simp [hj])
      obtain ⟨hc, hfr⟩ := HBO.out.cell (i := 0) (by omega)
      have HPUT := Lib.hid hput
      have HFIN := Lib.hid hfin
      have HBF := Lib.hid (HS.out.trans (((show Below S1.heap.size S1 wr from hS1).setCell (p := ⟨OB, 0, none⟩) (by have := HOB.out; simp; omega) (.bool (R.testBit 0))).mono (by have := HS.out.size; omega)))
      have hOBw : w.heap.size ≤ OB := by have := HOB.out; have := HS.out.size; omega
      clear hput hfin hS1
      generalize R.testBit 0 = em at *
      go_wp2
      go_ret
      exact ⟨HBF.out, OB, rfl, by rw [HFIN.out]; exact HPUT.out, hOBw⟩
end Go.Proofs.Ytflfmcikfiaoiaa
