/- derive: Trees. -/
import Derived.Test.YtgfkkbpnphbdgaaDerTr
set_option linter.unusedVariables false
set_option linter.unusedSimpArgs false
namespace Go.Proofs.Ytgfkkbpnphbdgaa
open Go.RowKit
open Doc Dr

/-- How Trees ends: the first of all, in their order, in memory of its own. -/
def TreesEnd (g : Gr) (root : Int) (u : List Int) (m : Int) (w : World) (e : Ending) (w' : World) : Prop :=
  if askB g root u m = true then ∃ (a : Option Addr) (c : Nat) (ts : List Tl), e = .returned (.tuple #[.slice a ts.length c, .int .i64 0]) ∧ w'.ownsRow w.heap.size 39 3 (.slice a ts.length c) ts.length (tls ts) ∧ (∀ t ∈ ts, Lies (fun b => w.heap.size ≤ b) w' t) ∧ ts.map (fun t => [t.plain]) = (all g.prods u (wholeJ u root)).take m.toNat
  else e = .returned (.tuple #[.slice none 0 0, .int .i64 1])
variable {g : List (Int × List Int)} {u : List Int} {m C M1 M2 pc wc : Nat} {pa wa : Option Addr} {ls : List Lay}
theorem KidsD.under {B : Nat} {W W' : World} {rv : Value} {ks : List Tl} (h : KidsD B W rv ks) (hb : Below W.heap.size W W') : KidsD B W' rv ks where
  own := own_same h.own fun x hx hl => hb.block x hl
  kids := fun t ht => (h.kids t ht).under hb
set_option maxRecDepth 100000 in
set_option maxHeartbeats 8000000 in
theorem trees_calls (v : Value) (g : Gr) (root : Int) (wa : Option Addr) (wc : Nat) (u : List Int) (m : Int) (w : World) (hg : GramAt w v g) (hm : MidG g) (hr : wideI root) (hu : Cells w wa (nums u)) (hul : u.length ≤ 1000000000000) (huw : ∀ s ∈ u, wideI s) :
    Calls Try.prog 14 #[v, .int .i64 root, .slice wa u.length wc, .int .i64 m] w fun e w' => TreesEnd g root u m w e w' ∧ Below w.heap.size w w' := by
  have HG0 := Lib.hid hg
  obtain ⟨a1, a2, a3, c1, c2, c3, ls, rfl, hp, k1, k2, k3, k4, k5, k6, k7⟩ := hg
  obtain ⟨hbS, hsS, q0⟩ := one_alloc w (.cells #[.slice a1 g.terms.length c1, .slice a2 g.nons.length c2, .slice a3 ls.length c3] 25)
  have HG := Lib.hid (HG0.out.below hbS)
  have HU := Lib.hid (hu.below hbS)
  have HB := Lib.hid hbS
  have HQ := Lib.hid q0
  have HA := Lib.hid fun W (hW : GramAt W (.agg #[.slice a1 g.terms.length c1, .slice a2 g.nons.length c2, .slice a3 ls.length c3]) g) (hU : Cells W wa (nums u)) => asked_any _ g root wa wc u m W hW hm hr hU hul huw
  clear hp k1 k2 k3 k4 k5 k6 k7 HG0 hsS q0 hbS hu huw hr hm
  unfold TreesEnd
  by_cases hA : AskP g root u m
  · obtain ⟨M, rfl⟩ : ∃ M : Nat, m = M := Int.eq_ofNat_of_zero_le hA.2.2.2.1
    have hok := okD_of hA
    rw [Int.toNat_natCast] at hok
    rw [askB_true hA] at *
    have HNC := Lib.hid fun W (hW : GramAt W (.agg #[.slice a1 g.terms.length c1, .slice a2 g.nons.length c2, .slice a3 ls.length c3]) g) (hU : Cells W wa (nums u)) => newCounter_any _ g wa wc u M W hW hU hok.len
    have hw0 := fun W => whole_any root wa wc u W hok.ul
    have HR := Lib.hid (root_in hA)
    have HOK := Lib.hid hok
    have hul12 := hok.ul
    have hml := hok.ml
    simp only [codeG, bools, none8, List.replicate, List.map_cons, List.map_nil] at hw0
    push_cast at hw0
    have HW := Lib.hid hw0
    clear hA hok hw0
    simp only [↓reduceIte, Int.toNat_natCast]
    go_enter Try.func14, Try.ntmps14
    go_upto_region 1 with fail
    generalize w.alloc (.cells #[.slice a1 g.terms.length c1, .slice a2 g.nons.length c2, .slice a3 ls.length c3] 25) = S at *
    have g0 := (blk_cell (i := 0) HQ.out rfl).1
    have g1 := (blk_cell (i := 1) HQ.out rfl).1
    have g2 := (blk_cell (i := 2) HQ.out rfl).1
    have l0 := heap_lt HQ.out
    go_upto_region 3 with (go_at_call 34; (with_reducible refine (HA.out _ HG.out HU.out).mono ?_); rintro e w2 ⟨rfl, hb2⟩)
    have HQ2 := Lib.hid ((hb2.block _ l0).trans HQ.out)
    have HG2 := Lib.hid (HG.out.below hb2)
    have HU2 := Lib.hid (HU.out.below hb2)
    have HB2 := Lib.hid (HB.out.trans (hb2.mono HB.out.size))
    clear g0 g1 g2 l0 hb2
    have g0 := (blk_cell (i := 0) HQ2.out rfl).1
    have g1 := (blk_cell (i := 1) HQ2.out rfl).1
    have g2 := (blk_cell (i := 2) HQ2.out rfl).1
    have l0 := heap_lt HQ2.out
    go_upto_region 6 with (first
      | (go_at_call 35; (with_reducible refine (HNC.out _ HG2.out HU2.out).mono ?_); rintro e w3 ⟨hb3, C, M1, M2, pa, pc, ls', rfl, hc3, hM1, hM2⟩; have HB3 := Lib.hid (HB2.out.trans (hb3.mono HB2.out.size)); have HC3 := Lib.hid hc3; have HM := Lib.hid (⟨Nat.le_trans HB2.out.size hM1, Nat.le_trans HB2.out.size hM2⟩ : w.heap.size ≤ M1 ∧ w.heap.size ≤ M2); clear hc3 hM1 hM2)
      | (go_at_call 37; (with_reducible refine (HW.out _).mono ?_); rintro e w4 ⟨rfl, hb4⟩; have HC4 := Lib.hid (HC3.out.below hb4); have HB4 := Lib.hid (HB3.out.trans (hb4.mono HB3.out.size))))
    have hbX := box_belowT w4 (.cells #[.int .i64 root, .int .i64 0, .int .i64 (u.length : Int), .bool false, .bool false, .bool false, .bool false, .bool false, .bool false, .bool false, .bool false] 86)
    have HQX := Lib.hid (heap_alloc_new w4 (.cells #[.int .i64 root, .int .i64 0, .int .i64 (u.length : Int), .bool false, .bool false, .bool false, .bool false, .bool false, .bool false, .bool false, .bool false] 86))
    have HC5 := Lib.hid (HC4.out.below hbX)
    have HB5 := Lib.hid (HB4.out.trans (hbX.mono HB4.out.size))
    clear g0 g1 g2 l0 hbX
    generalize w4.alloc (.cells #[.int .i64 root, .int .i64 0, .int .i64 (u.length : Int), .bool false, .bool false, .bool false, .bool false, .bool false, .bool false, .bool false, .bool false] 86) = S5 at *
    generalize w4.heap.size = XB at *
    have ht := trees_any HOK.out root ⟨0, u.length, none8⟩ HR.out (inD_whole u) HC5.out
    have hfind := fun (q : Nat) (W : World) (hq : q < M) (hl : q < (all g.prods u (.goal root ⟨0, u.length, none8⟩)).length) (hW : Ctr g.prods u M C M1 M2 pa pc wa wc ls' W) => tree_any HOK.out root ⟨0, u.length, none8⟩ HR.out (inD_whole u) q hq hl hW
    unfold JobEnd at ht
    rw [num_all] at ht
    unfold TreeEndD at hfind
    have HALL := Lib.hid (show all g.prods u (wholeJ u root) = all g.prods u (.goal root ⟨0, u.length, none8⟩) from rfl)
    generalize all g.prods u (.goal root ⟨0, u.length, none8⟩) = AL at *
    obtain ⟨N, hN⟩ : ∃ N, min M AL.length = N := ⟨_, rfl⟩
    rw [hN] at ht
    simp only [codeG, bools, none8, List.replicate, List.map_cons, List.map_nil] at ht hfind
    push_cast at ht hfind
    have HT := Lib.hid ht
    have HFD := Lib.hid hfind
    have HN := Lib.hid hN
    have hN200 : N ≤ 200 := by omega
    clear ht hfind hN
    obtain ⟨r0, r1, r2, r3, r4, r5, r6, r7, r8, r9, r10, l0⟩ := goalD_cells HQX.out
    go_upto_region 7 with (go_at_call 36; (with_reducible refine HT.out.mono ?_); rintro e w6 ⟨rfl, hk6, hc6⟩)
    have HC6 := Lib.hid hc6
    have HB6 := Lib.hid (HB5.out.trans (hk6.out HM.out.1 HM.out.2 HB5.out.size))
    have HQ6 := Lib.hid (HC5.out.keeps hk6 HQX.out)
    clear r0 r1 r2 r3 r4 r5 r6 r7 r8 r9 r10 l0 hk6 hc6 HT
    have HXB := Lib.hid (heap_lt HQ6.out)
    go_loopw [12, 30] (fun lv iv wr => ∃ (k : Nat) (a : Option Addr) (c : Nat) (ts : List Tl), lv = .slice a ts.length c ∧ iv = .int .i64 k ∧ ts.length = k ∧ k ≤ N ∧ Hid (KidsD w6.heap.size wr (.slice a ts.length c) ts) ∧ Hid (CtrB g.prods u M C M1 M2 pa pc wa wc ls' w6.heap.size wr) ∧ Hid (ts.map (fun t => [t.plain]) = AL.take k) ∧ Hid (Below w.heap.size w wr) ∧ Hid (wr.heap[XB]? = some (.cells #[.int .i64 root, .int .i64 0, .int .i64 (u.length : Int), .bool false, .bool false, .bool false, .bool false, .bool false, .bool false, .bool false, .bool false] 86)) ∧ Hid (w6.heap.size ≤ wr.heap.size)) (fun _ iv _ => N - (intOf iv).toNat)
    case atStart => exact ⟨0, none, 0, [], rfl, rfl, rfl, by omega, Lib.hid ⟨World.ownsRow_nil _ _ _ _, fun t ht => by cases ht⟩, Lib.hid HC6.out.atB, Lib.hid rfl, HB6, HQ6, Lib.hid (Nat.le_refl _)⟩
    case round =>
      obtain ⟨k, a, c, ts, rfl, rfl, hlen, hk, HKD, HCB, HPL, HBW, HQR, HSZ⟩ := hrel
      by_cases hkl : k < N
      · obtain ⟨i0, hi0, hz0, hz1, hz2⟩ := info_of infoTq
        have e1 : (k : Int) < N := by omega
        obtain ⟨r0, r1, r2, r3, r4, r5, r6, r7, r8, r9, r10, l0⟩ := goalD_cells HQR.out
        have hkA : k < AL.length := by have := HN.out; omega
        have HFK := Lib.hid (HFD.out k wr (by have := HN.out; omega) hkA HCB.out.ctr)
        have HLEN := Lib.hid hlen
        have hl200 : ts.length ≤ 200 := by omega
        have HKL := Lib.hid hkl
        have HKA := Lib.hid hkA
        clear hlen hkl hkA
        go_wp2_with (first
          | (go_at_call 38; (with_reducible refine HFK.out.mono ?_); rintro e w7 ⟨t, rfl, hl7, hp7, hk7, hc7⟩; have HKD7 := Lib.hid (HKD.out.kept hk7 HCB.out.low.1 HCB.out.low.2); have HCB7 := Lib.hid (HCB.out.to (hk7.row none) (fun x hx => by cases hx) hc7.mg hc7.mr); have HQ7 := Lib.hid (HCB.out.ctr.keeps hk7 HQR.out); have HBW7 := Lib.hid (HBW.out.trans (hk7.out HM.out.1 HM.out.2 HBW.out.size)); have HKA7 := Lib.hid (HKD7.out.under (box_belowT w7 (.cells #[.int .i64 t.sym, .int .i64 t.prod, .slice t.a t.kids.length t.c] 39))); have HCA7 := Lib.hid (HCB7.out.to ((KeptD.of (M1 := M1) (M2 := M2) (box_belowT w7 (.cells #[.int .i64 t.sym, .int .i64 t.prod, .slice t.a t.kids.length t.c] 39))).row none) (fun x hx => by cases hx) (hc7.below (box_belowT w7 (.cells #[.int .i64 t.sym, .int .i64 t.prod, .slice t.a t.kids.length t.c] 39))).mg (hc7.below (box_belowT w7 (.cells #[.int .i64 t.sym, .int .i64 t.prod, .slice t.a t.kids.length t.c] 39))).mr); have HLA7 := Lib.hid (hl7.under (box_belowT w7 (.cells #[.int .i64 t.sym, .int .i64 t.prod, .slice t.a t.kids.length t.c] 39))); have HP7 := Lib.hid hp7; have HS7 := Lib.hid hk7.size; have HR0 := Lib.hid (row_of_own HKD.out); clear hl7 hp7 hk7 hc7)
          | (at_builtin; refine wpList_append_lies _ rfl (.tmp 33) (.tmp 38) 34 rfl w6.heap.size 39 i0 (.agg #[.int .i64 0, .int .i64 0, .slice none 0 0]) 3 40 Try.underlying34 hi0 hz0 hz1 hz2 rfl (by decide) (.slice a ts.length c) ts.length (tls ts) rfl HKA7.out.own ⟨w7.heap.size, 0, none⟩ 1 1 [.int .i64 t.sym, .int .i64 t.prod, .slice t.a t.kids.length t.c] rfl rfl (World.news_of_block (cs := #[.int .i64 t.sym, .int .i64 t.prod, .slice t.a t.kids.length t.c]) (t := 39) (fr := (0, 0)) (heap_alloc_new w7 (.cells #[.int .i64 t.sym, .int .i64 t.prod, .slice t.a t.kids.length t.c] 39))) (by simp [Value.oneCell']) (by decide) (by unfold maxLen; omega) (by omega) (by have h1 := HSZ.out; have h2 := HS7.out; simp; omega) (w7.heap.size + 1) (by simp) ?_; intro gg cap w8 hown8 hgrow8 hat8 hlt8))
        have hkd8 : KidsD w6.heap.size w8 (.slice (some ⟨gg, 0, none⟩) (ts ++ [t]).length cap) (ts ++ [t]) := HKA7.out.grow (W0 := wr) HLA7.out HR0.out HSZ.out (by rw [tls_app]; exact hown8) hgrow8 (by rcases hat8 with h | h; exact .inl h; exact .inr (by rw [h]; simp))
        have hlen2 : (ts ++ [t]).length = ts.length + 1 := by simp
        refine ⟨⟨k + 1, some ⟨gg, 0, none⟩, cap, ts ++ [t], by rw [hlen2], by go_num, by rw [hlen2, HLEN.out], by have := HKL.out; omega, Lib.hid hkd8, Lib.hid (HCA7.out.grow hgrow8 HKA7.out.low), Lib.hid ?_, Lib.hid ((HBW7.out.alloc HBW7.out.size _).grown hgrow8 (by have := HBW7.out.size; simp; omega) (fun x hx => by have h1 := HKA7.out.low x hx; have h2 := HB6.out.size; omega)), Lib.hid ((hgrow8.block XB (Nat.lt_of_lt_of_le (heap_lt HQ7.out) (box_belowT w7 (.cells #[.int .i64 t.sym, .int .i64 t.prod, .slice t.a t.kids.length t.c] 39)).size) (fun e => by have h1 := HKA7.out.low XB e.symm; have h2 := HXB.out; omega)).trans (((box_belowT w7 (.cells #[.int .i64 t.sym, .int .i64 t.prod, .slice t.a t.kids.length t.c] 39)).block _ (heap_lt HQ7.out)).trans HQ7.out)), Lib.hid (Nat.le_trans HSZ.out (Nat.le_trans HS7.out (Nat.le_trans (box_belowT w7 (.cells #[.int .i64 t.sym, .int .i64 t.prod, .slice t.a t.kids.length t.c] 39)).size hgrow8.size)))⟩, by have := HKL.out; simp [intOf]; omega⟩
        rw [List.map_append, HPL.out, List.take_add_one, List.getElem?_eq_getElem HKA.out, List.map_cons, List.map_nil, HP7.out, List.getD_eq_getElem?_getD, List.getElem?_eq_getElem HKA.out]
        rfl
      · have e1 : ¬ (k : Int) < N := by omega
        have HKL := Lib.hid hkl
        have HLEN := Lib.hid hlen
        clear hkl hlen
        go_wp2
        go_ret2
        refine ⟨⟨a, c, ts, rfl, own_base' HKD.out.own HB6.out.size, fun t ht => (HKD.out.kids t ht).weak fun b hb _ => by have h1 := hb.1; have h2 := HB6.out.size; omega, ?_⟩, HBW.out⟩
        rw [HALL.out, HPL.out, show k = N by have := HKL.out; omega, ← HN.out]
        rcases Nat.le_total M AL.length with h | h
        · rw [Nat.min_eq_left h]
        · rw [Nat.min_eq_right h, List.take_length, List.take_of_length_le h]
  · rw [askB_false hA] at *
    clear hA
    go_enter Try.func14, Try.ntmps14
    go_upto_region 1 with fail
    generalize w.alloc (.cells #[.slice a1 g.terms.length c1, .slice a2 g.nons.length c2, .slice a3 ls.length c3] 25) = S at *
    have g0 := (blk_cell (i := 0) HQ.out rfl).1
    have g1 := (blk_cell (i := 1) HQ.out rfl).1
    have g2 := (blk_cell (i := 2) HQ.out rfl).1
    have l0 := heap_lt HQ.out
    go_wp2_with (go_at_call 34; (with_reducible refine (HA.out _ HG.out HU.out).mono ?_); rintro e w2 ⟨rfl, hb2⟩; have HB2 := Lib.hid (HB.out.trans (hb2.mono HB.out.size)))
    go_ret2
    exact ⟨rfl, HB2.out⟩
end Go.Proofs.Ytgfkkbpnphbdgaa
