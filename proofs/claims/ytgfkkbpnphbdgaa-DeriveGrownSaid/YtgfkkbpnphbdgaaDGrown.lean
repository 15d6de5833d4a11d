/- DeriveGrown: walked. DeriveGrown, of a slice that came in. -/
import Derived.Test.YtgfkkbpnphbdgaaDerP
import Derived.Test.YtgfkkbpnphbdgaaRaw
import Derived.Test.YtgfkkbpnphbdgaaTreeU
import Derived.Test.YtgfkkbpnphbdgaaTreeD
import Derived.Test.YtgfkkbpnphbdgaaTreeE
import Derived.Test.YtgfkkbpnphbdgaaRowC
set_option linter.unusedVariables false
set_option linter.unusedSimpArgs false
namespace Go.Proofs.Ytgfkkbpnphbdgaa
open Go.RowKit
open Doc Dr

theorem any_gram3 (x : RawX) (w : World) (hx : RawAt w x) :
    Calls Try.prog 22 #[x.v] w fun e w' => Below w.heap.size w w' ∧ ∃ (a1 a2 a3 : Option Addr) (c1 c2 c3 : Nat), e = .returned (.agg #[.slice a1 x.any.terms.length c1, .slice a2 x.any.nons.length c2, .slice a3 x.any.prods.length c3]) ∧ GramAt w' (.agg #[.slice a1 x.any.terms.length c1, .slice a2 x.any.nons.length c2, .slice a3 x.any.prods.length c3]) x.any :=
  (any_gram x w hx).mono fun e w' ⟨hb, at_, an, ap, ct, cn, cp, ls, he, hg, hp, _, _⟩ => by
    have hpl : ls.length = x.any.prods.length := by rw [← hp, List.length_map]
    rw [hpl] at he hg
    exact ⟨hb, at_, an, ap, ct, cn, cp, he, hg⟩
/-- What the search among all comes to. -/
theorem found_is {g : Gr} {root : Int} {t : Tr} {u : List Int} (hA : AskP g root u 200) (hc : checkT g t root = true) (hl : leavesT t = u) {ts : List Tl} (hp : ts.map (fun t => [t.plain]) = (all g.prods u (wholeJ u root)).take 200) :
    (ts.length = 200 ∨ ts.any (fun s => sameT t s.plain) = Dr.plainB t [] 0) ∧ 0 < ts.length ∧ ts.length ≤ 200 := by
  have hlen := trees_len hp
  have hd : Sp.DerF g.prods [root] u := by rw [← hl]; exact der_check g t root hc
  have hne := (all_iff g.prods u (okD_of hA).six root).2 hd
  have hpos := List.length_pos_iff.2 hne
  refine ⟨?_, by omega, by omega⟩
  by_cases h : ts.length = 200
  · exact .inl h
  · right
    have hall : ts.map (fun t => [t.plain]) = all g.prods u (wholeJ u root) := by rw [hp, List.take_of_length_le (by omega)]
    rw [Bool.eq_iff_iff, List.any_eq_true, plain_all g u (okD_of hA).six hA.2.2.2.2.2 t root hc hl, ← hall]
    constructor
    · rintro ⟨s, hs, h⟩
      exact List.mem_map.2 ⟨s, hs, by rw [(same_iff _ _).1 h]⟩
    · intro h
      obtain ⟨s, hs, e⟩ := List.mem_map.1 h
      injection e with e
      exact ⟨s, hs, (same_iff _ _).2 e.symm⟩
theorem any_take {ts : List Tl} {f : Tl → Bool} {k : Nat} {t : Tl} (hk : ts[k]? = some t) : (ts.take (k + 1)).any f = ((ts.take k).any f || f t) := by
  rw [List.take_add_one, hk, List.any_append]; simp
set_option maxRecDepth 100000 in
set_option maxHeartbeats 16000000 in
theorem deriveGrown_walk (x : RawX) (la : Option Addr) (lc : Nat) (row : List Int) (w : World) (hx : RawAt w x) (hl : Cells w la (nums row)) (hrl : row.length ≤ lc) (hlc : lc ≤ 140737488355328) :
    Calls Try.prog 7 #[x.v, .slice la row.length lc] w fun e w' => e = .returned (.bool true) ∧ Below w.heap.size w w' := by
  have hck : CheckG x.any := anyF_check x.terms x.nons x.plain
  have hAN := Lib.hid (fun W h => any_gram3 x W h)
  have HCK := Lib.hid hck
  have hn1 := hck.n1
  generalize hgg : x.any = g at *
  have HX := Lib.hid hx
  clear hx hck hgg
  obtain ⟨xp, xt, xn, xh, rows, xa, xc, word⟩ := x
  unfold RawX.v at *
  simp only at *
  have hb0 : Below w.heap.size w (w.alloc (.cells #[.int .i64 xp, .int .i64 xt, .int .i64 xn, .int .i64 xh, .slice xa rows.length xc, .string word] 46)) := (Below.refl _ _).alloc (Nat.le_refl _) _
  have HA1 := Lib.hid (hAN.out _ (HX.out.below hb0))
  have HB0 := Lib.hid hb0
  have HL := Lib.hid hl
  have HWK := Lib.hid fun W => wakes9_any W
  have hs100 : symB g 100 = true := (symB_iff g 100).2 (.inr ⟨by omega, by omega⟩)
  have HS100 := Lib.hid hs100
  clear hAN hb0 hl
  go_enter Try.func7, Try.ntmps7
  go_upto_region 2 with (go_at_call 22; refine HA1.out.mono ?_; rintro e w1 ⟨hb1, a1, a2, a3, c1, c2, c3, rfl, hg1⟩)
  have hbS := box_belowT w1 (.cells #[.slice a1 g.terms.length c1, .slice a2 g.nons.length c2, .slice a3 g.prods.length c3] 25)
  have HQ := Lib.hid (heap_alloc_new w1 (.cells #[.slice a1 g.terms.length c1, .slice a2 g.nons.length c2, .slice a3 g.prods.length c3] 25))
  have HG := Lib.hid (hg1.below hbS)
  have HB := Lib.hid ((HB0.out.trans (hb1.mono HB0.out.size)).trans (hbS.mono (Nat.le_trans HB0.out.size hb1.size)))
  have HPT := ptree_any g HCK.out a1 a2 a3 c1 c2 c3 3 (by omega) 100 la lc row (w1.alloc (.cells #[.slice a1 g.terms.length c1, .slice a2 g.nons.length c2, .slice a3 g.prods.length c3] 25)) hs100 HG.out (HL.out.below HB.out) hrl hlc
  clear hb1 hg1 hbS HA1 HX HB0 hs100
  generalize w1.alloc (.cells #[.slice a1 g.terms.length c1, .slice a2 g.nons.length c2, .slice a3 g.prods.length c3] 25) = S at *
  generalize w1.heap.size = B1 at *
  have c0 := (blk_cell (i := 0) HQ.out rfl).1
  have c1' := (blk_cell (i := 1) HQ.out rfl).1
  have c2' := (blk_cell (i := 2) HQ.out rfl).1
  have l1 := heap_lt HQ.out
  unfold PTreeEnd at HPT
  push_cast at HPT
  replace HPT := Lib.hid HPT
  go_upto_region 3 with (go_at_call 27; (with_reducible refine HPT.out.mono ?_); rintro e w2 ⟨hb2, t, ra, rc, zs', rfl, hli, hct, hsz, -, -, -⟩)
  have hbT := box_belowT w2 (.cells #[.int .i64 t.sym, .int .i64 t.prod, .slice t.a t.kids.length t.c] 39)
  have hb2T := hb2.trans (hbT.mono hb2.size)
  have HQT := Lib.hid (heap_alloc_new w2 (.cells #[.int .i64 t.sym, .int .i64 t.prod, .slice t.a t.kids.length t.c] 39))
  have HLI := Lib.hid (hli.under hbT)
  have HCT := Lib.hid hct
  have hsz9 : sizeT t.plain ≤ 9331 := Nat.le_trans hsz (bnd_le (by omega))
  have HB2 := Lib.hid (HB.out.trans (hb2T.mono HB.out.size))
  have HG2 := Lib.hid (HG.out.below hb2T)
  have HQ2 := Lib.hid ((hb2T.block _ l1).trans HQ.out)
  have HLV := Lib.hid (rleaves_any t _ _ HLI.out (by omega))
  have hlv9 := leaves_size t.plain
  unfold Tl.v at HLV
  clear c0 c1' c2' l1 hb2 hbT hb2T hli hct hsz HPT HG HQ HB
  generalize w2.alloc (.cells #[.int .i64 t.sym, .int .i64 t.prod, .slice t.a t.kids.length t.c] 39) = S2 at *
  generalize w2.heap.size = T at *
  have t0 := (blk_cell (i := 0) HQT.out rfl).1
  have t1 := (blk_cell (i := 1) HQT.out rfl).1
  have t2 := (blk_cell (i := 2) HQT.out rfl).1
  have lT := heap_lt HQT.out
  obtain ⟨u, hu⟩ : ∃ u, leavesT t.plain = u := ⟨_, rfl⟩
  rw [hu] at HLV hlv9
  have HU := Lib.hid hu
  clear hu
  go_upto_region 4 with (go_at_call 26; (with_reducible refine HLV.out.mono ?_); rintro e w3 ⟨hb3, ua, uc, rfl, ho3⟩)
  have HUC := Lib.hid (own_cells ho3).1
  have HB3 := Lib.hid (HB2.out.trans (hb3.mono HB2.out.size))
  have HG3 := Lib.hid (HG2.out.below hb3)
  have HLI3 := Lib.hid (HLI.out.under hb3)
  have HQ3 := Lib.hid ((hb3.block _ (heap_lt HQ2.out)).trans HQ2.out)
  have HQT3 := Lib.hid ((hb3.block _ lT).trans HQT.out)
  clear t0 t1 t2 lT ho3 hb3 HLV HB2 HG2 HLI HQ2 HQT
  by_cases h6 : 6 < u.length
  · have e1 : (6 : Int) < u.length := by omega
    clear h6
    go_wp2_with (go_at_call 16; (with_reducible refine (HWK.out _).mono ?_); rintro e w4 ⟨rfl, hb4⟩)
    go_ret
    exact ⟨rfl, HB3.out.trans (hb4.mono HB3.out.size)⟩
  · have e1 : ¬ (6 : Int) < u.length := by omega
    have hus : ∀ y ∈ u, symB g y = true := by rw [← HU.out]; exact leaves_sym g _ _ HCT.out
    have hA : AskP g 100 u ((200 : Nat) : Int) := ⟨HCK.out, HS100.out, by omega, by omega, by omega, hus⟩
    have hder : Sp.DerF g.prods [100] u := by rw [← HU.out]; exact der_check g _ _ HCT.out
    have hcan : canB g 100 u = true := canB_iff.2 ⟨⟨HCK.out, HS100.out, by omega, by omega, by omega, hus⟩, hder⟩
    have HA := Lib.hid hA
    have HCN := Lib.hid ((can_ask (wc := uc) hA HG3.out HUC.out).mono fun e w' h => (⟨h.1.trans (by rw [hcan]), h.2⟩ : e = Ending.returned (.bool true) ∧ Below w3.heap.size w3 w'))
    have htr := fun W (hW : Below w3.heap.size w3 W) => trees_ask (wc := uc) hA (HG3.out.below hW) (HUC.out.below hW)
    have hpl := fun W (hW : Below w3.heap.size w3 W) => plain_any t _ none 0 [] 0 W (HLI3.out.under hW) (by omega) ⟨.inl rfl, Nat.le_refl _, fun _ => rfl⟩ (by simp; omega) (by omega)
    simp only [List.length_nil] at hpl
    push_cast at htr hpl
    have HTR := Lib.hid htr
    have HPL := Lib.hid hpl
    unfold Tl.v at HPL
    clear h6 hus hA hder hcan htr hpl
    have HCL : Hid (∀ W, Below w3.heap.size w3 W → (W.cell? ⟨B1, 0, none⟩ = some (.slice a1 g.terms.length c1) ∧ W.cell? ⟨B1, 1, none⟩ = some (.slice a2 g.nons.length c2) ∧ W.cell? ⟨B1, 2, none⟩ = some (.slice a3 g.prods.length c3) ∧ W.cell? ⟨T, 0, none⟩ = some (.int .i64 t.sym) ∧ W.cell? ⟨T, 1, none⟩ = some (.int .i64 t.prod) ∧ W.cell? ⟨T, 2, none⟩ = some (.slice t.a t.kids.length t.c)) ∧ B1 < W.heap.size ∧ T < W.heap.size) := Lib.hid fun W hW => by
      have z0 := (hW.block _ (heap_lt HQ3.out)).trans HQ3.out
      have z1 := (hW.block _ (heap_lt HQT3.out)).trans HQT3.out
      exact ⟨⟨(blk_cell z0 rfl).1, (blk_cell z0 rfl).1, (blk_cell z0 rfl).1, (blk_cell z1 rfl).1, (blk_cell z1 rfl).1, (blk_cell z1 rfl).1⟩, heap_lt z0, heap_lt z1⟩
    obtain ⟨⟨c0, c1', c2', t0, t1, t2⟩, l1, lT⟩ := HCL.out w3 (Below.refl _ _)
    go_upto_region 8 with (go_at_call 13; (with_reducible refine HCN.out.mono ?_); rintro e w4 ⟨rfl, hb4⟩)
    have HB4 := Lib.hid hb4
    clear c0 c1' c2' t0 t1 t2 l1 lT hb4
    obtain ⟨⟨c0, c1', c2', t0, t1, t2⟩, l1, lT⟩ := HCL.out w4 HB4.out
    go_upto_region 9 with (go_at_call 14; (with_reducible refine (HTR.out _ HB4.out).mono ?_); rintro e w5 ⟨hb5, ta, tc, ts, rfl, hcts, htc, hlt, hpt⟩)
    have HB5 := Lib.hid (HB4.out.trans (hb5.mono HB4.out.size))
    have HCTS := Lib.hid hcts
    have HLT := Lib.hid hlt
    have HF := Lib.hid (found_is HA.out HCT.out HU.out hpt)
    have HSZ := Lib.hid fun s hs => (trees_plain HA.out hpt s hs).2.2.1
    have hts0 := HF.out.2.1
    have htl := HF.out.2.2
    have e2 : ((ts.length : Int) == 0) = false := beq_eq_false_iff_ne.2 (by omega)
    clear c0 c1' c2' t0 t1 t2 l1 lT hb5 hcts hlt hpt
    obtain ⟨⟨c0, c1', c2', t0, t1, t2⟩, l1, lT⟩ := HCL.out w5 HB5.out
    go_wp2
    clear e2
    go_loopw [11, 47] (fun fv iv wr => ∃ (k : Nat) (b : Bool), fv = .bool b ∧ iv = .int .i64 k ∧ k ≤ ts.length ∧ Hid (b = (ts.take k).any fun s => sameT t.plain s.plain) ∧ Hid (Below w5.heap.size w5 wr)) (fun _ iv _ => ts.length - (intOf iv).toNat)
    case atStart => exact ⟨0, false, rfl, rfl, by omega, Lib.hid (by simp), Lib.hid (Below.refl _ _)⟩
    case round =>
      obtain ⟨k, b, rfl, rfl, hk, HBE, HBR⟩ := hrel
      have HB6 := Lib.hid (HB5.out.trans (HBR.out.mono HB5.out.size))
      clear c0 c1' c2' t0 t1 t2 l1 lT
      obtain ⟨⟨c0, c1', c2', t0, t1, t2⟩, l1, lT⟩ := HCL.out wr HB6.out
      by_cases hkl : k < ts.length
      · obtain ⟨s, hs⟩ : ∃ s, ts[k]? = some s := ⟨_, List.getElem?_eq_getElem hkl⟩
        obtain ⟨tb, to_, hta, htb, x0, x1, x2⟩ := tls_get (HCTS.out.below HBR.out) hs
        subst hta
        have e3 : (k : Int) < ts.length := by omega
        have hms := List.mem_of_getElem? hs
        have hbN := box_belowT wr (.cells #[.int .i64 s.sym, .int .i64 s.prod, .slice s.a s.kids.length s.c] 39)
        have HST := Lib.hid (rsame_any t s _ _ (wr.alloc (.cells #[.int .i64 s.sym, .int .i64 s.prod, .slice s.a s.kids.length s.c] 39)) (HLI3.out.under (HB6.out.trans (hbN.mono HB6.out.size))) ((HLT.out s hms).under (HBR.out.trans (hbN.mono HBR.out.size))) (by omega) (HSZ.out s hms))
        unfold Tl.v at HST
        have HBN := Lib.hid (HBR.out.trans (hbN.mono HBR.out.size))
        have HKL := Lib.hid hkl
        have HST1 := Lib.hid (any_take (f := fun s => sameT t.plain s.plain) hs)
        clear hs hms hbN hkl
        cases b
        · go_wp2_with (go_at_call 21; (with_reducible refine HST.out.mono ?_); rintro e w6 ⟨rfl, hb6⟩)
          go_roundw
          case rel => exact ⟨k + 1, _, rfl, by go_num, by have := HKL.out; omega, Lib.hid (by rw [HST1.out, ← HBE.out]; rfl), Lib.hid (HBN.out.trans (hb6.mono HBN.out.size))⟩
          case measure => have := HKL.out; simp [intOf]; omega
        · go_wp2
          go_roundw
          case rel => exact ⟨k + 1, true, rfl, by go_num, by have := HKL.out; omega, Lib.hid (by rw [HST1.out, ← HBE.out]; rfl), HBN⟩
          case measure => have := HKL.out; simp [intOf]; omega
      · have e3 : ¬ (k : Int) < ts.length := by omega
        have HBA := Lib.hid (show b = ts.any fun s => sameT t.plain s.plain by have := HBE.out; rwa [List.take_of_length_le (by omega)] at this)
        have hway : ts.length = 200 ∨ (ts.length ≠ 200 ∧ b = Dr.plainB t.plain [] 0) := by
          by_cases h : ts.length = 200
          · exact .inl h
          · exact .inr ⟨h, by rcases HF.out.1 with h' | h'; exact absurd h' h; rw [HBA.out, h']⟩
        rcases hway with h200 | ⟨h200, hbp⟩
        · have e4 : ((ts.length : Int) == 200) = true := beq_iff_eq.2 (by omega)
          clear hkl h200
          go_wp2_with (go_at_call 16; (with_reducible refine (HWK.out _).mono ?_); rintro e w7 ⟨rfl, hb7⟩)
          go_ret
          exact ⟨rfl, HB3.out.trans ((HB6.out.trans (hb7.mono HB6.out.size)).mono HB3.out.size)⟩
        · have e4 : ((ts.length : Int) == 200) = false := beq_eq_false_iff_ne.2 (by omega)
          have HP6 := HPL.out wr HB6.out
          rw [← hbp] at HP6
          replace HP6 := Lib.hid HP6
          clear hkl h200 hbp HBA HBE
          cases b
          all_goals
            go_wp2_with (first
              | (go_at_call 28; (with_reducible refine HP6.out.mono ?_); rintro e w7 ⟨rfl, hb7⟩)
              | (go_at_call 16; (with_reducible refine (HWK.out _).mono ?_); rintro e w8 ⟨rfl, hb8⟩))
            go_ret
            exact ⟨rfl, HB3.out.trans ((HB6.out.trans ((hb7.trans (hb8.mono hb7.size)).mono HB6.out.size)).mono HB3.out.size)⟩
end Go.Proofs.Ytgfkkbpnphbdgaa

set_option linter.unusedVariables false
namespace Go.Proofs.Ytgfkkbpnphbdgaa
open Go.RowKit

theorem deriveGrown_row (x : RawX) (la : Option Addr) (len lc : Nat) (zs : List Int) (w : World) (hx : RawAt w x) (hr : IsRow .i64 w la len lc zs) (hs : lc * 8 ≤ 140737488351232) :
    Calls Try.prog 7 #[x.v, .slice la len lc] w fun e w' => e = .returned (.bool true) ∧ Below w.heap.size w w' := by
  obtain ⟨h1, h2⟩ := row_len hr
  have h := deriveGrown_walk x la lc (zs.take len) w hx (row_cells hr) (by omega) (by omega)
  rwa [h1] at h
end Go.Proofs.Ytgfkkbpnphbdgaa
