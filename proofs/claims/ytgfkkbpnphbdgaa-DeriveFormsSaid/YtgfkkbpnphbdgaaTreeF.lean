/- Trees: Print of the program, and the document's own PrintTree: contracts over any world. -/
import Derived.Test.YtgfkkbpnphbdgaaTreeC
import Derived.Test.YtgfkkbpnphbdgaaWriteG
set_option linter.unusedVariables false
namespace Go.Proofs.Ytgfkkbpnphbdgaa
open Go.RowKit
open Doc

theorem ret_str {a b : List UInt8} (h : a = b) : Ending.returned (.string ⟨a.toArray⟩) = .returned (.string ⟨b.toArray⟩) := by rw [h]
theorem text_un (g : Gr) (s p : Int) (a : Option Addr) (c : Nat) (ks : List Tl) : textT g (Tl.mk s p a c ks).plain = if p = -1 then nameG g s else (40 :: nameG g s) ++ (textK g (ks.map Tl.plain) ++ [41]) := by
  rw [Tl.plain_mk, textT]
theorem textK_drop (g : Gr) (ks : List Tl) (k : Nat) {kt : Tl} (h1 : ks[k]? = some kt) : textK g ((ks.map Tl.plain).drop k) = (32 :: textT g kt.plain) ++ textK g ((ks.map Tl.plain).drop (k + 1)) := by
  have l1 := (List.getElem?_eq_some_iff.1 (map_at h1)).1
  rw [List.drop_eq_getElem_cons l1, textK, (List.getElem?_eq_some_iff.1 (map_at h1)).2]
def printT (g : Gr) (t : Tr) : List UInt8 := if checkT g t t.sym = true then textT g t else []
/-- Names that are short. -/
def ShortN (g : Gr) : Prop := (∀ x ∈ g.terms, x.length ≤ 100) ∧ ∀ x ∈ g.nons, x.length ≤ 100
theorem ShortN.t {g : Gr} (h : ShortN g) : ∀ x ∈ g.terms, x.length ≤ 1000000 := fun x hx => by have := h.1 x hx; omega
theorem ShortN.n {g : Gr} (h : ShortN g) : ∀ x ∈ g.nons, x.length ≤ 1000000 := fun x hx => by have := h.2 x hx; omega
theorem getD_len {l : List (List UInt8)} (h : ∀ x ∈ l, x.length ≤ 100) (k : Nat) : (l.getD k []).length ≤ 100 := by
  rw [List.getD_eq_getElem?_getD]
  cases hk : l[k]? with
  | none => simp
  | some x => exact h x (List.mem_of_getElem? hk)
theorem name_len {g : Gr} (h : ShortN g) (s : Int) : (nameG g s).length ≤ 100 := by
  unfold nameG
  split
  · simp
  · split
    · exact getD_len h.1 _
    · split
      · exact getD_len h.2 _
      · simp
theorem text_len {g : Gr} (h : ShortN g) (t : Tr) : (textT g t).length + 1 ≤ 103 * sizeT t := by
  induction t using Tr.ind with
  | h s p ks ih =>
    have hn := name_len h s
    have aux : ∀ l : List Tr, (∀ k ∈ l, (textT g k).length + 1 ≤ 103 * sizeT k) → (textK g l).length ≤ 103 * sizeK l := by
      intro l
      induction l with
      | nil => intro _; simp [textK]
      | cons t l ih2 =>
        intro hh
        have h1 := hh t List.mem_cons_self
        have h2 := ih2 fun k hk => hh k (List.mem_cons_of_mem _ hk)
        simp only [textK, sizeK, List.length_append, List.length_cons]
        omega
    have hk := aux ks ih
    rw [textT, sizeT]
    split
    · omega
    · simp only [List.length_append, List.length_cons, List.length_nil]
      omega

set_option maxRecDepth 100000 in
set_option maxHeartbeats 4000000 in
theorem rtext_any (t : Tl) : ∀ (P : Nat → Prop) (v : Value) (g : Gr) (w : World), GramAt w v g → Fits g → ShortN g → Lies P w t → mildT t.plain → sizeT t.plain ≤ 1000000 → (textT g t.plain).length ≤ 1000000 →
    Calls Try.prog 39 #[v, t.v] w fun e w' => e = .returned (.string ⟨(textT g t.plain).toArray⟩) ∧ Below w.heap.size w w' := by
  induction t using Tl.ind with
  | h s p a c ks ih =>
    intro P v g w hg hf hsh hl hm hz hlen
    have HIH := Lib.hid ih
    have HG0 := Lib.hid hg
    have HF := Lib.hid hf
    have hkl := size_len s p a c ks
    obtain ⟨a1, a2, a3, c1, c2, c3, ls, rfl, hp, k1, k2, k3, k4, k5, k6, k7⟩ := hg
    clear hp k1 k2 k3 k4 k5 k6 k7
    have HU := Lib.hid (text_un g s p a c ks)
    have HM : Hid (mildI s ∧ mildI p ∧ ∀ k ∈ ks, mildT k.plain) := Lib.hid (by
      rw [Tl.plain_mk, mildT] at hm
      exact ⟨hm.1, hm.2.1, fun k hk => mildK_mem hm.2.2 _ (List.mem_map_of_mem hk)⟩)
    have HZ : Hid (∀ k ∈ ks, sizeT k.plain ≤ 1000000) := Lib.hid fun k hk => by have := size_kid (s := s) (p := p) (a := a) (c := c) hk; omega
    have hks : ks.length ≤ 1000000 := by omega
    obtain ⟨hbS, hsS, q0, q1⟩ := twin_alloc w (.cells #[.slice a1 g.terms.length c1, .slice a2 g.nons.length c2, .slice a3 ls.length c3] 25) (.cells #[.int .i64 s, .int .i64 p, .slice a ks.length c] 39)
    have HBS := Lib.hid hbS
    have HQ0 := Lib.hid q0
    have HQ1 := Lib.hid q1
    have HL := Lib.hid hl
    have HSN := Lib.hid hsh
    have HLE := Lib.hid hlen
    have HNM := Lib.hid fun (W : World) (hW : Below w.heap.size w W) => symName_any _ g s W (HG0.out.below hW) hf.2.1 hf.1
    clear ih hz hbS q0 q1 hl hkl hsS hm hsh hlen hf
    show Calls _ _ #[.agg #[.slice a1 g.terms.length c1, .slice a2 g.nons.length c2, .slice a3 ls.length c3], .agg #[.int .i64 s, .int .i64 p, .slice a ks.length c]] _ _
    go_enter Try.func39, Try.ntmps39
    go_upto_region 1 with fail
    generalize (w.alloc (.cells #[.slice a1 g.terms.length c1, .slice a2 g.nons.length c2, .slice a3 ls.length c3] 25)).alloc (.cells #[.int .i64 s, .int .i64 p, .slice a ks.length c] 39) = S at *
    have HCL : Hid (∀ W, Below S.heap.size S W → (W.cell? ⟨w.heap.size, 0, none⟩ = some (.slice a1 g.terms.length c1) ∧ W.cell? ⟨w.heap.size, 1, none⟩ = some (.slice a2 g.nons.length c2) ∧ W.cell? ⟨w.heap.size, 2, none⟩ = some (.slice a3 ls.length c3) ∧ W.cell? ⟨w.heap.size + 1, 0, none⟩ = some (.int .i64 s) ∧ W.cell? ⟨w.heap.size + 1, 1, none⟩ = some (.int .i64 p) ∧ W.cell? ⟨w.heap.size + 1, 2, none⟩ = some (.slice a ks.length c)) ∧ w.heap.size < W.heap.size ∧ w.heap.size + 1 < W.heap.size) := Lib.hid fun W hW => by
      have z0 := (hW.block _ (heap_lt HQ0.out)).trans HQ0.out
      have z1 := (hW.block _ (heap_lt HQ1.out)).trans HQ1.out
      exact ⟨⟨(blk_cell z0 rfl).1, (blk_cell z0 rfl).1, (blk_cell z0 rfl).1, (blk_cell z1 rfl).1, (blk_cell z1 rfl).1, (blk_cell z1 rfl).1⟩, heap_lt z0, heap_lt z1⟩
    obtain ⟨⟨g0, g1, g2, t0, t1, t2⟩, l0, l1⟩ := HCL.out S (Below.refl _ _)
    by_cases hp : p = -1
    · subst hp
      have HU2 := Lib.hid (HU.out.trans (if_pos rfl))
      clear HU
      go_wp2_with (go_at_call 23; refine (HNM.out _ HBS.out).mono ?_; rintro e w1 ⟨rfl, hb1⟩)
      go_ret
      exact ⟨ret_str HU2.out.symm, HBS.out.trans (hb1.mono HBS.out.size)⟩
    · have e0 : (p == -1) = false := beq_eq_false_iff_ne.2 hp
      have HU2 := Lib.hid (HU.out.trans (if_neg hp))
      have HLN := Lib.hid (show (40 :: nameG g s).length + ((textK g (ks.map Tl.plain)).length + 1) ≤ 1000000 by have := HLE.out; rw [HU2.out] at this; simp only [List.length_append, List.length_cons, List.length_nil] at this ⊢; omega)
      have hcat : ∀ W, (Op.stringOp .add ⟨#[40]⟩ ⟨(nameG g s).toArray⟩).run Try.prog W = .ok (.string ⟨(40 :: nameG g s).toArray⟩) W := fun W => cat2_run [40] (nameG g s) W (by have := name_len HSN.out s; simp only [List.length_cons, List.length_nil]; omega)
      clear HU hp
      go_upto_region 4 with (go_at_call 23; refine (HNM.out _ HBS.out).mono ?_; rintro e w1 ⟨rfl, hb1⟩)
      have HB1 := Lib.hid hb1
      clear hb1 g0 g1 g2 t0 t1 t2 l0 l1 hcat
      obtain ⟨⟨g0, g1, g2, t0, t1, t2⟩, l0, l1⟩ := HCL.out _ HB1.out
      go_wp2
      clear g0 g1 g2 t0 t1 t2 l0 l1
      go_loopw [5, 23] (fun sv i wr => ∃ (k : Nat) (acc2 : List UInt8), k ≤ ks.length ∧ i = .int .i64 k ∧ sv = .string ⟨acc2.toArray⟩ ∧ Below S.heap.size S wr ∧ Hid ((40 :: nameG g s) ++ (textK g (ks.map Tl.plain) ++ [41]) = acc2 ++ (textK g ((ks.map Tl.plain).drop k) ++ [41]))) (fun _ i _ => ks.length - (intOf i).toNat)
      case atStart => exact ⟨0, 40 :: nameG g s, Nat.zero_le _, rfl, rfl, HB1.out, Lib.hid (by simp)⟩
      case round =>
        obtain ⟨k, acc2, hk, rfl, rfl, hbe, HR⟩ := hrel
        have hbw := HBS.out.trans (hbe.mono HBS.out.size)
        by_cases hlt : k < ks.length
        · obtain ⟨kt, hkt⟩ : ∃ kt, ks[k]? = some kt := ⟨_, List.getElem?_eq_getElem hlt⟩
          have hmem := List.mem_of_getElem? hkt
          obtain ⟨bk, off, rfl, hbk, _, x0, x1, x2⟩ := kid_at (HL.out.under hbw) hkt
          have e1 : (k : Int) < ks.length := by omega
          have hR1 := HR.out.trans (by rw [textK_drop g ks k hkt])
          have hlenA : acc2.length + (1 + (textT g kt.plain).length) ≤ 1000000 := by
            have h1 := congrArg List.length hR1
            have h2 := HLN.out
            simp only [List.length_append, List.length_cons, List.length_nil] at h1 h2
            omega
          obtain ⟨hbA, hsA, rA⟩ := one_alloc wr (.cells #[.int .i64 kt.sym, .int .i64 kt.prod, .slice kt.a kt.kids.length kt.c] 39)
          have hbeA := hbe.trans (hbA.mono hbe.size)
          have hbwA := HBS.out.trans (hbeA.mono HBS.out.size)
          obtain ⟨⟨g0, g1, g2, t0, t1, t2⟩, l0, l1⟩ := HCL.out _ hbeA
          have y0 := (blk_cell (i := 0) rA rfl).1
          have y1 := (blk_cell (i := 1) rA rfl).1
          have y2 := (blk_cell (i := 2) rA rfl).1
          have ly := heap_lt rA
          have HC := Lib.hid (HIH.out kt hmem P _ g _ (HG0.out.below hbwA) HF.out HSN.out ((HL.out.kid kt hmem).under hbwA) (HM.out.2.2 kt hmem) (HZ.out kt hmem) (by omega))
          have HR1 := Lib.hid hR1
          have HBE := Lib.hid hbeA
          have hcat1 : ∀ W, (Op.stringOp .add ⟨#[32]⟩ ⟨(textT g kt.plain).toArray⟩).run Try.prog W = .ok (.string ⟨(32 :: textT g kt.plain).toArray⟩) W := fun W => cat2_run [32] (textT g kt.plain) W (by simp only [List.length_cons, List.length_nil]; omega)
          have hcat2 : ∀ W, (Op.stringOp .add ⟨acc2.toArray⟩ ⟨(32 :: textT g kt.plain).toArray⟩).run Try.prog W = .ok (.string ⟨(acc2 ++ (32 :: textT g kt.plain)).toArray⟩) W := fun W => cat2_run acc2 (32 :: textT g kt.plain) W (by simp only [List.length_cons]; omega)
          unfold Tl.v at HC
          clear hmem hbA hbe hbw hkt hR1 rA hsA HR hbeA hbwA hlenA
          obtain ⟨ksy, kp, ka, kc, kk⟩ := kt
          simp only [Tl.sym, Tl.prod, Tl.a, Tl.c, Tl.kids] at *
          go_wp2_with (go_at_call 39; refine HC.out.mono ?_; rintro e w4 ⟨rfl, hb4⟩)
          go_roundw
          case rel => exact ⟨k + 1, _, by omega, by go_num, rfl, HBE.out.trans (hb4.mono HBE.out.size), Lib.hid (by rw [HR1.out]; simp)⟩
          case measure => simp [intOf]; omega
        · have e1 : ¬ (k : Int) < ks.length := by omega
          have hR1 := HR.out.trans (by rw [List.drop_of_length_le (by simp; omega)]; rfl : acc2 ++ (textK g ((ks.map Tl.plain).drop k) ++ [41]) = acc2 ++ [41])
          have HR1 := Lib.hid hR1
          have hcat3 : ∀ W, (Op.stringOp .add ⟨acc2.toArray⟩ ⟨#[41]⟩).run Try.prog W = .ok (.string ⟨(acc2 ++ [41]).toArray⟩) W := fun W => cat2_run acc2 [41] W (by
            have h1 := congrArg List.length hR1
            have h2 := HLN.out
            simp only [List.length_append, List.length_cons, List.length_nil] at h1 h2 ⊢
            omega)
          have HBE := Lib.hid hbw
          clear hR1 hbw hbe HR
          go_wp2
          go_ret
          exact ⟨ret_str (HU2.out.trans HR1.out).symm, HBE.out⟩

set_option maxRecDepth 100000 in
set_option maxHeartbeats 2000000 in
theorem rprint_any (t : Tl) (P : Nat → Prop) (v : Value) (g : Gr) (w : World) (hg : GramAt w v g) (hf : Fits g) (hsh : ShortN g) (hl : Lies P w t) (hm : mildT t.plain) (hz : sizeT t.plain ≤ 9600) :
    Calls Try.prog 15 #[v, t.v] w fun e w' => e = .returned (.string ⟨(printT g t.plain).toArray⟩) ∧ Below w.heap.size w w' := by
  have htl := text_len hsh t.plain
  have HG0 := Lib.hid hg
  obtain ⟨a1, a2, a3, c1, c2, c3, ls, rfl, hp, k1, k2, k3, k4, k5, k6, k7⟩ := hg
  clear hp k1 k2 k3 k4 k5 k6 k7
  obtain ⟨s, p, a, c, ks⟩ := t
  obtain ⟨hbS, hsS, q0, q1⟩ := twin_alloc w (.cells #[.slice a1 g.terms.length c1, .slice a2 g.nons.length c2, .slice a3 ls.length c3] 25) (.cells #[.int .i64 s, .int .i64 p, .slice a ks.length c] 39)
  have HB := Lib.hid hbS
  have HQ0 := Lib.hid q0
  have HQ1 := Lib.hid q1
  have HCK := Lib.hid (rcheck_any (Tl.mk s p a c ks) P _ g s _ (HG0.out.below hbS) hf (hl.under hbS) hm (by omega))
  have HWR := Lib.hid fun (W : World) (hW : Below w.heap.size w W) => rtext_any (Tl.mk s p a c ks) P _ g W (HG0.out.below hW) hf hsh (hl.under hW) hm (by omega) (by omega)
  have HPT : Hid (printT g (Tl.mk s p a c ks).plain = if checkT g (Tl.mk s p a c ks).plain s = true then textT g (Tl.mk s p a c ks).plain else []) := Lib.hid (by unfold printT; rw [Tl.plain_sym]; rfl)
  unfold Tl.v at *
  simp only [Tl.sym, Tl.prod, Tl.a, Tl.c, Tl.kids] at *
  clear hf hsh hl hm hz htl hbS hsS q0 q1
  go_enter Try.func15, Try.ntmps15
  go_upto_region 1 with fail
  generalize (w.alloc (.cells #[.slice a1 g.terms.length c1, .slice a2 g.nons.length c2, .slice a3 ls.length c3] 25)).alloc (.cells #[.int .i64 s, .int .i64 p, .slice a ks.length c] 39) = S at *
  have HCL : Hid (∀ W, Below S.heap.size S W → (W.cell? ⟨w.heap.size, 0, none⟩ = some (.slice a1 g.terms.length c1) ∧ W.cell? ⟨w.heap.size, 1, none⟩ = some (.slice a2 g.nons.length c2) ∧ W.cell? ⟨w.heap.size, 2, none⟩ = some (.slice a3 ls.length c3) ∧ W.cell? ⟨w.heap.size + 1, 0, none⟩ = some (.int .i64 s) ∧ W.cell? ⟨w.heap.size + 1, 1, none⟩ = some (.int .i64 p) ∧ W.cell? ⟨w.heap.size + 1, 2, none⟩ = some (.slice a ks.length c)) ∧ w.heap.size < W.heap.size ∧ w.heap.size + 1 < W.heap.size) := Lib.hid fun W hW => by
    have z0 := (hW.block _ (heap_lt HQ0.out)).trans HQ0.out
    have z1 := (hW.block _ (heap_lt HQ1.out)).trans HQ1.out
    exact ⟨⟨(blk_cell z0 rfl).1, (blk_cell z0 rfl).1, (blk_cell z0 rfl).1, (blk_cell z1 rfl).1, (blk_cell z1 rfl).1, (blk_cell z1 rfl).1⟩, heap_lt z0, heap_lt z1⟩
  obtain ⟨⟨g0, g1, g2, t0, t1, t2⟩, l0, l1⟩ := HCL.out S (Below.refl _ _)
  cases hv : checkT g (Tl.mk s p a c ks).plain s with
  | false =>
    rw [hv] at HCK HPT
    have HP2 := Lib.hid (HPT.out.trans (if_neg (by decide)))
    clear hv HPT
    go_wp2_with (go_at_call 24; refine HCK.out.mono ?_; rintro e w1 ⟨rfl, hb1⟩)
    go_ret
    exact ⟨ret_str HP2.out.symm, HB.out.trans (hb1.mono HB.out.size)⟩
  | true =>
    rw [hv] at HCK HPT
    have HP2 := Lib.hid (HPT.out.trans (if_pos rfl))
    clear hv HPT
    go_upto_region 3 with (go_at_call 24; refine HCK.out.mono ?_; rintro e w1 ⟨rfl, hb1⟩)
    have hbW := HB.out.trans (hb1.mono HB.out.size)
    have HWW := Lib.hid (HWR.out _ hbW)
    clear g0 g1 g2 t0 t1 t2 l0 l1
    obtain ⟨⟨g0, g1, g2, t0, t1, t2⟩, l0, l1⟩ := HCL.out _ hb1
    have HBW := Lib.hid hbW
    clear hb1 hbW HWR HCL
    go_wp2_with (go_at_call 39; refine HWW.out.mono ?_; rintro e w4 ⟨rfl, hb4⟩)
    go_ret
    exact ⟨ret_str HP2.out.symm, HBW.out.trans (hb4.mono HBW.out.size)⟩

end Go.Proofs.Ytgfkkbpnphbdgaa
