/- Syms: numbers as symbols, walked. DeriveTells: walked; of slices that came in. Written by mk_dtells.py. -/
import Derived.Test.YtgfkkbpnphbdgaaMoreF
import Derived.Test.YtgfkkbpnphbdgaaRaw
import Derived.Test.YtgfkkbpnphbdgaaGS
import Derived.Test.YtgfkkbpnphbdgaaRTree
import Derived.Test.YtgfkkbpnphbdgaaTreeE
import Derived.Test.YtgfkkbpnphbdgaaText
import Derived.Deep.RegionHeld3
import Derived.Deep.CutBlock
set_option linter.unusedVariables false
namespace Go.Proofs.Ytgfkkbpnphbdgaa
open Go.RowKit
open Doc

/-- What Syms gives: a row of its own, of few machine's numbers. -/
def SymsEnd (B most : Nat) (e : Ending) (w' : World) : Prop := ∃ (a : Option Addr) (c : Nat) (s : List Int), e = .returned (.slice a s.length c) ∧ s.length ≤ most ∧ (∀ x ∈ s, -9223372036854775808 ≤ x ∧ x ≤ 9223372036854775807) ∧ w'.ownsRow B 3 1 (.slice a s.length c) s.length (nums s)

theorem own_snoc {w : World} {B : Nat} {v : Value} {l : List Int} {x : Int} (h : w.ownsRow B 3 1 v (l.length + 1) (nums l ++ [.int .i64 x])) : w.ownsRow B 3 1 v (l.length + 1) (nums (l ++ [x])) := by
  have e2 : nums (l ++ [x]) = nums l ++ [.int .i64 x] := by simp [nums]
  rw [e2]; exact h
theorem snoc_wide {s : List Int} {x : Int} (h : ∀ x ∈ s, -9223372036854775808 ≤ x ∧ x ≤ 9223372036854775807) (hx : -9223372036854775808 ≤ x ∧ x ≤ 9223372036854775807) : ∀ y ∈ s ++ [x], -9223372036854775808 ≤ y ∧ y ≤ 9223372036854775807 := by
  intro y hy
  rcases List.mem_append.1 hy with hy | hy
  · exact h y hy
  · rw [List.mem_singleton.1 hy]; exact hx

theorem within_zero (n : Int) (w : World) :
    Calls Try.prog 11 #[.int .i64 n, .int .i64 0] w fun e w' => e = .returned (.int .i64 0) ∧ w' = w := by
  go_enter Try.func11, Try.ntmps11
  go_wp2
  go_ret
  exact ⟨rfl, rfl⟩
set_option maxRecDepth 100000 in
set_option maxHeartbeats 8000000 in
theorem symsM_any (v : Value) (g : Gr) (la : Option Addr) (lc : Nat) (row : List Int) (most : Nat) (w : World) (hg : GramAt w v g) (ht8 : g.terms.length ≤ 1000) (hn8 : g.nons.length ≤ 1000) (hl : Cells w la (nums row)) (hrl : row.length ≤ 17592186043904) (hrw : ∀ x ∈ row, -9223372036854775808 ≤ x ∧ x ≤ 9223372036854775807) (hm : most ≤ 10) :
    Calls Try.prog 19 #[v, .slice la row.length lc, .int .i64 most] w fun e w' => Below w.heap.size w w' ∧ SymsEnd w.heap.size most e w' := by
  obtain ⟨i0, hi0, hz0, hz1, hz2⟩ := info_of infoI
  obtain ⟨a1, a2, a3, c1, c2, c3, ls, rfl, hp, k1, k2, k3, k4, k5, k6, k7⟩ := hg
  have hS := box_below w (.cells #[.slice a1 g.terms.length c1, .slice a2 g.nons.length c2, .slice a3 ls.length c3] 25)
  have q0 := heap_alloc_new w (.cells #[.slice a1 g.terms.length c1, .slice a2 g.nons.length c2, .slice a3 ls.length c3] 25)
  have HL := Lib.hid (hl.below hS)
  have HS := Lib.hid hS
  have HQ := Lib.hid q0
  have HRW := Lib.hid hrw
  have lQ := heap_lt q0
  have y0 := (blk_cell (i := 0) (u := .slice a1 g.terms.length c1) q0 rfl).1
  have y1 := (blk_cell (i := 1) (u := .slice a2 g.nons.length c2) q0 rfl).1
  clear hp k1 k2 k3 k4 hS q0 hl hrw
  go_enter Try.func19, Try.ntmps19
  go_upto_region 1 with fail
  generalize hS1 : w.alloc (.cells #[.slice a1 g.terms.length c1, .slice a2 g.nons.length c2, .slice a3 ls.length c3] 25) = S at *
  clear hS1
  generalize hB : w.heap.size = B at *
  have HBE := Lib.hid hB
  clear hB
  go_upto_region 4 with fail
  go_loopw [7, 9] (fun s i wr => ∃ (k : Nat) (a : Option Addr) (c : Nat) (l : List Int), k ≤ most ∧ k ≤ row.length ∧ i = .int .i64 k ∧ s = .slice a l.length c ∧ l.length = k ∧ Hid (∀ x ∈ l, -9223372036854775808 ≤ x ∧ x ≤ 9223372036854775807) ∧ Hid (wr.ownsRow S.heap.size 3 1 (.slice a l.length c) l.length (nums l)) ∧ Hid (Below S.heap.size S wr)) (fun _ i _ => most - (intOf i).toNat)
  case atStart => exact ⟨0, none, 0, [], by omega, by omega, rfl, rfl, rfl, Lib.hid (by simp), Lib.hid (World.ownsRow_nil _ _ _ _), Lib.hid (Below.refl _ _)⟩
  case round =>
    obtain ⟨k, a, c, l, hkm, hkr, rfl, rfl, hlk, HW, HO, HB⟩ := hrel
    have q0 := (HB.out.block B lQ).trans HQ.out
    by_cases hlt : k < row.length ∧ k < most
    · as_aux_lemma =>
      obtain ⟨hlt, hlt3⟩ := hlt
      obtain ⟨x, hx⟩ : ∃ x, row[k]? = some x := ⟨_, List.getElem?_eq_getElem hlt⟩
      have e1 : (k : Int) < row.length := by omega
      have e2 : (k : Int) < most := by omega
      obtain ⟨rb, ro, rfl, hrb, hrc⟩ := (HL.out.below HB.out).get (by unfold nums; intro e; rw [List.map_eq_nil_iff] at e; rw [e] at hlt; simp at hlt)
      have x0 := hrc k _ (nums_at hx)
      have hxw := HRW.out x (List.mem_of_getElem? hx)
      have d0 := (blk_cell (i := 0) (u := .slice a1 g.terms.length c1) q0 rfl).1
      have d1 := (blk_cell (i := 1) (u := .slice a2 g.nons.length c2) q0 rfl).1
      have d2 := heap_lt q0
      obtain ⟨v, hvl, hwi⟩ : ∃ v : Nat, v ≤ 2000 ∧ ∀ a, Calls Try.prog 11 #[.int .i64 x, .int .i64 ((g.terms.length : Int) + g.nons.length)] (wr.drewN a) fun e w' => e = Ending.returned (.int .i64 v) ∧ ∃ n, w' = wr.drewN n := by
        by_cases h0 : (g.terms.length : Int) + g.nons.length = 0
        · refine ⟨0, by omega, fun a => ?_⟩
          rw [h0]
          exact (within_zero x (wr.drewN a)).mono fun e w' ⟨he, hw⟩ => ⟨he, a, hw⟩
        · have hn := Int.emod_nonneg x h0
          have hlt := Int.emod_lt_of_pos x (show (0 : Int) < (g.terms.length : Int) + g.nons.length by omega)
          refine ⟨(x % ((g.terms.length : Int) + g.nons.length)).toNat, by omega, fun a => ?_⟩
          exact (within_any x ((g.terms.length : Int) + g.nons.length) (by omega) (by omega) (wr.drewN a)).mono fun e w' ⟨he, hw⟩ => ⟨he.trans (by rw [Int.toNat_of_nonneg hn]), a, hw⟩
      have HWI := Lib.hid hwi
      have HLK := Lib.hid hlk
      have hl10 : l.length ≤ 10 := by omega
      clear hwi hx hrc hlk q0
      go_wp2
      go_quiet ((go_at_call 11; exact HWI.out _))
      have x0' : (wr.drewN nq).cell? ⟨rb, ro + k, none⟩ = some (.int .i64 x) := x0
      have HO1 : Hid ((wr.drewN nq).ownsRow S.heap.size 3 1 (.slice a l.length c) l.length (nums l)) := Lib.hid (own_same HO.out (fun g _ _ => rfl))
      have HB1 : Hid (Below S.heap.size S (wr.drewN nq)) := Lib.hid (below_drews HB.out nq)
      have hrb' : rb < (wr.drewN nq).heap.size := hrb
      clear x0 HO HB hrb d0 d1 d2 HWI
      generalize wr.drewN nq = W1 at *
      by_cases h28 : x.tmod 29 = 28
      · have h28b : (x.tmod 29 == 28) = true := by simp [h28]
        clear h28
        go_wp2_with (at_builtin; refine wpList_append_lies _ rfl (.tmp 49) (.tmp 54) 30 rfl S.heap.size 3 i0 (.int .i64 0) 1 8 Try.underlying30 hi0 hz0 hz1 hz2 rfl (by decide) _ l.length (nums l) rfl (HO1.out.alloc _) ⟨W1.heap.size, 0, none⟩ 1 1 [.int .i64 x] rfl rfl (World.news_of_block (cs := #[.int .i64 x]) (t := 3) (fr := (0, 0)) (heap_alloc_new W1 _)) (by simp [Value.oneCell']) (by decide) (by unfold maxLen; omega) (by omega) (by have := HB1.out.size; simp; omega) W1.heap.size.succ (by simp) ?_; intro gg cap4 w4 hown4 hgrow4 hat4 hlt4)
        exact ⟨⟨k + 1, some ⟨gg, 0, none⟩, cap4, l ++ [x], by omega, by omega, by go_num, by simp, by have := HLK.out; simp; omega, Lib.hid (snoc_wide HW.out hxw), Lib.hid (by rw [List.length_append]; exact own_snoc hown4), Lib.hid ((HB1.out.alloc HB1.out.size _).grown hgrow4 (by have := HB1.out.size; simp; omega) (fun k hk => (own_block HO1.out hk).1))⟩, by simp [intOf]; omega⟩
      · have h28b : (x.tmod 29 == 28) = false := by simpa using h28
        clear h28
        by_cases hdt : v < g.terms.length
        · have hdt2 : (v : Int) < g.terms.length := by omega
          go_wp2_with (at_builtin; refine wpList_append_lies _ rfl (.tmp 60) (.tmp 63) 30 rfl S.heap.size 3 i0 (.int .i64 0) 1 8 Try.underlying30 hi0 hz0 hz1 hz2 rfl (by decide) _ l.length (nums l) rfl (HO1.out.alloc _) ⟨W1.heap.size, 0, none⟩ 1 1 [.int .i64 ((v : Int) + 1)] rfl rfl (World.news_of_block (cs := #[.int .i64 ((v : Int) + 1)]) (t := 3) (fr := (0, 0)) (heap_alloc_new W1 _)) (by simp [Value.oneCell']) (by decide) (by unfold maxLen; omega) (by omega) (by have := HB1.out.size; simp; omega) W1.heap.size.succ (by simp) ?_; intro gg cap4 w4 hown4 hgrow4 hat4 hlt4)
          exact ⟨⟨k + 1, some ⟨gg, 0, none⟩, cap4, l ++ [(v : Int) + 1], by omega, by omega, by go_num, by simp, by have := HLK.out; simp; omega, Lib.hid (snoc_wide HW.out (by omega)), Lib.hid (by rw [List.length_append]; exact own_snoc hown4), Lib.hid ((HB1.out.alloc HB1.out.size _).grown hgrow4 (by have := HB1.out.size; simp; omega) (fun k hk => (own_block HO1.out hk).1))⟩, by simp [intOf]; omega⟩
        · have hdt2 : ¬ (v : Int) < g.terms.length := by omega
          go_wp2_with (at_builtin; refine wpList_append_lies _ rfl (.tmp 35) (.tmp 40) 30 rfl S.heap.size 3 i0 (.int .i64 0) 1 8 Try.underlying30 hi0 hz0 hz1 hz2 rfl (by decide) _ l.length (nums l) rfl (HO1.out.alloc _) ⟨W1.heap.size, 0, none⟩ 1 1 [.int .i64 (100 + (v : Int) - g.terms.length)] rfl rfl (World.news_of_block (cs := #[.int .i64 (100 + (v : Int) - g.terms.length)]) (t := 3) (fr := (0, 0)) (heap_alloc_new W1 _)) (by simp [Value.oneCell']) (by decide) (by unfold maxLen; omega) (by omega) (by have := HB1.out.size; simp; omega) W1.heap.size.succ (by simp) ?_; intro gg cap4 w4 hown4 hgrow4 hat4 hlt4)
          exact ⟨⟨k + 1, some ⟨gg, 0, none⟩, cap4, l ++ [100 + (v : Int) - g.terms.length], by omega, by omega, by go_num, by simp, by have := HLK.out; simp; omega, Lib.hid (snoc_wide HW.out (by omega)), Lib.hid (by rw [List.length_append]; exact own_snoc hown4), Lib.hid ((HB1.out.alloc HB1.out.size _).grown hgrow4 (by have := HB1.out.size; simp; omega) (fun k hk => (own_block HO1.out hk).1))⟩, by simp [intOf]; omega⟩
    · as_aux_lemma =>
      have hex : ¬ (k : Int) < row.length ∨ ((k : Int) < row.length ∧ ¬ (k : Int) < most) := by omega
      have hfin : Below w.heap.size w wr := by rw [HBE.out]; exact HS.out.trans (HB.out.mono (by omega))
      have HFIN := Lib.hid hfin
      have hlm : l.length ≤ most := by omega
      clear hfin hlt q0 hlk
      rcases hex with hx1 | ⟨hx1, hx2⟩
      all_goals
        go_wp2
        go_ret
        exact ⟨HFIN.out, a, c, l, rfl, hlm, HW.out, own_base' HO.out (by rw [HBE.out]; omega)⟩

end Go.Proofs.Ytgfkkbpnphbdgaa

set_option linter.unusedVariables false
set_option linter.unusedSimpArgs false
namespace Go.Proofs.Ytgfkkbpnphbdgaa
open Go.RowKit
open Doc Dr

theorem gramC_len {w : World} {at_ an ap : Option Addr} {n1 n2 n3 ct cn cp : Nat} {g : Gr} (h : GramAtC w (.agg #[.slice at_ n1 ct, .slice an n2 cn, .slice ap n3 cp]) g) : n1 = g.terms.length ∧ n2 = g.nons.length ∧ n3 = g.prods.length := by
  obtain ⟨a, b, c, ca, cb, cc, ls, hv, hp, _⟩ := h
  injection hv with hv
  injection hv with hv
  injection hv with h1 hv
  injection hv with h2 hv
  injection hv with h3 _
  injection h1 with _ h1 _
  injection h2 with _ h2 _
  injection h3 with _ h3 _
  exact ⟨h1, h2, by rw [h3, ← hp, List.length_map]⟩
theorem can_no {g : Gr} {root : Int} {u : List Int} (h : ¬ AskP g root u 1) : canB g root u = false := by
  cases hc : canB g root u with
  | false => rfl
  | true => exact absurd (canB_iff.1 hc).1 h
theorem rall_yes {g : Gr} {root : Int} {u : List Int} {m : Int} {w : World} {e : Ending} {w' : World} (h : AskP g root u m) (hr : RAllEnd g root u m w e w') : Below w.heap.size w w' ∧ ∃ (a : Option Addr) (c : Nat) (ts : List Tl), e = .returned (.tuple #[.slice a ts.length c, .bool true]) ∧ Lies (fun b => w.heap.size ≤ b) w' (.mk 0 0 a c ts) ∧ ts.map (fun t => [t.plain]) = (all g.prods u (wholeJ u root)).take m.toNat := ⟨hr.1, hr.2.1 (askB_true h)⟩
theorem rall_not {g : Gr} {root : Int} {u : List Int} {m : Int} {w : World} {e : Ending} {w' : World} (h : ¬ AskP g root u m) (hr : RAllEnd g root u m w e w') : Below w.heap.size w w' ∧ e = .returned (.tuple #[.slice none 0 0, .bool false]) := ⟨hr.1, hr.2.2 (askB_false h)⟩
set_option maxRecDepth 100000 in
set_option maxHeartbeats 32000000 in
theorem deriveTells_walk (x : RawX) (root : Int) (la : Option Addr) (lc : Nat) (row : List Int) (most : Int) (w : World) (hx : RawAt w x) (hxw : RawWide x) (hrt : wideI root) (hl : Cells w la (nums row)) (hrl : row.length ≤ 17592186043904) (hrw : ∀ y ∈ row, -9223372036854775808 ≤ y ∧ y ≤ 9223372036854775807) (hmo : wideI most) :
    Calls Try.prog 5 #[x.v, .int .i64 root, .slice la row.length lc, .int .i64 most] w fun e w' => e = .returned (.bool true) ∧ Below w.heap.size w w' := by
  have hAN := Lib.hid (fun W h => grammar_anyC x W h hxw)
  have HX := Lib.hid hx
  clear hx hxw
  obtain ⟨xp, xt, xn, xh, rows, xa, xc, word⟩ := x
  unfold RawX.v at *
  simp only at *
  have hb0 : Below w.heap.size w (w.alloc (.cells #[.int .i64 xp, .int .i64 xt, .int .i64 xn, .int .i64 xh, .slice xa rows.length xc, .string word] 46)) := (Below.refl _ _).alloc (Nat.le_refl _) _
  have HA1 := Lib.hid (hAN.out _ (HX.out.below hb0))
  have HB0 := Lib.hid hb0
  have HL := Lib.hid hl
  have HRW := Lib.hid hrw
  have HWK := Lib.hid fun W => wakes9_any W
  clear hAN hb0 hl hrw
  go_enter Try.func5, Try.ntmps5
  go_upto_region 2 with (go_at_call 18; (with_reducible refine HA1.out.mono ?_); rintro e w1 ⟨hb1, at_, an, ap, n1, n2, n3, ct, cn, cp, g, rfl, hg1, hmg⟩; obtain ⟨rfl, rfl, rfl⟩ := gramC_len hg1)
  have hbS := box_belowT w1 (.cells #[.slice at_ g.terms.length ct, .slice an g.nons.length cn, .slice ap g.prods.length cp] 25)
  have HQ := Lib.hid (heap_alloc_new w1 (.cells #[.slice at_ g.terms.length ct, .slice an g.nons.length cn, .slice ap g.prods.length cp] 25))
  have HG := Lib.hid (hg1.below hbS)
  have HM := Lib.hid hmg
  have HB := Lib.hid ((HB0.out.trans (hb1.mono HB0.out.size)).trans (hbS.mono (Nat.le_trans HB0.out.size hb1.size)))
  have HLC := Lib.hid (HL.out.below HB.out)
  have hgt := hmg.t.1
  have hgn := hmg.n.1
  clear hb1 hg1 hmg hbS HA1 HX HB0 HL
  generalize w1.alloc (.cells #[.slice at_ g.terms.length ct, .slice an g.nons.length cn, .slice ap g.prods.length cp] 25) = S at *
  generalize w1.heap.size = B1 at *
  have HCL : Hid (∀ W, Below S.heap.size S W → W.cell? ⟨B1, 0, none⟩ = some (.slice at_ g.terms.length ct) ∧ W.cell? ⟨B1, 1, none⟩ = some (.slice an g.nons.length cn) ∧ W.cell? ⟨B1, 2, none⟩ = some (.slice ap g.prods.length cp) ∧ B1 < W.heap.size) := Lib.hid fun W hW => by
    have z0 := (hW.block _ (heap_lt HQ.out)).trans HQ.out
    exact ⟨(blk_cell z0 rfl).1, (blk_cell z0 rfl).1, (blk_cell z0 rfl).1, heap_lt z0⟩
  have HS := Lib.hid (rfl : S = S)
  obtain ⟨c0, c1', c2', l1⟩ := HCL.out S (Below.refl _ _)
  go_upto_if 22 with fail
  go_cut [1, 22] from 23 to 35 (fun rv _ wx => ∃ r : Int, rv = .int .i64 r ∧ wideI r ∧ wx = S)
  case first =>
    by_cases h9 : root.tmod 9 = 8
    · have e1 : (root.tmod 9 == 8) = true := beq_iff_eq.2 h9
      have e2 : (root.tmod 9 != 8) = false := by rw [bne, e1]; rfl
      by_cases h2 : root.tmod 2 = 0
      · have e3 : (root.tmod 2 == 0) = true := beq_iff_eq.2 h2
        obtain ⟨v, hv, hvl⟩ : ∃ v : Nat, root % 4 = v ∧ v < 4 := ⟨(root % 4).toNat, by omega, by omega⟩
        have HWI := Lib.hid fun W => (within_any root 4 (by omega) (by omega) W).mono fun e w' h => (⟨h.1.trans (by rw [hv]), h.2⟩ : e = Ending.returned (.int .i64 v) ∧ w' = W)
        clear h9 h2 hv
        go_wp2_with (go_at_call 11; (with_reducible refine (HWI.out _).mono ?_); rintro e w9 ⟨rfl, hw9⟩; obtain rfl := hw9.symm)
        go_meet
        case rel => exact ⟨_, rfl, by unfold wideI; omega, rfl⟩
      · have e3 : (root.tmod 2 == 0) = false := beq_eq_false_iff_ne.2 h2
        clear h9 h2
        go_wp2
        go_meet
        case rel => exact ⟨_, rfl, hrt, rfl⟩
    · have e1 : (root.tmod 9 == 8) = false := beq_eq_false_iff_ne.2 h9
      have e2 : (root.tmod 9 != 8) = true := by rw [bne, e1]; rfl
      obtain ⟨mx, hmx, hmx1, hmx2⟩ : ∃ mx : Nat, (if g.nons.length < 1 then 1 else g.nons.length) = mx ∧ 1 ≤ mx ∧ mx ≤ 100 := ⟨_, rfl, by split <;> omega, by split <;> omega⟩
      obtain ⟨v, hv, hvl⟩ : ∃ v : Nat, root % (mx : Int) = v ∧ v < mx := ⟨(root % (mx : Int)).toNat, by
        have := Int.emod_nonneg root (show (mx : Int) ≠ 0 by omega); omega, by
        have := Int.emod_nonneg root (show (mx : Int) ≠ 0 by omega)
        have := Int.emod_lt_of_pos root (show (0 : Int) < mx by omega); omega⟩
      have HWI := Lib.hid fun W => (within_any root mx (by omega) (by omega) W).mono fun e w' h => (⟨h.1.trans (by rw [hv]), h.2⟩ : e = Ending.returned (.int .i64 v) ∧ w' = W)
      by_cases hn1 : g.nons.length < 1
      · have hgn1 : (g.nons.length : Int) < 1 := by omega
        have HWI1 := Lib.hid fun W => (within_any root 1 (by omega) (by omega) W).mono fun e w' h => (⟨h.1.trans (by rw [show root % 1 = 0 by omega]), h.2⟩ : e = Ending.returned (.int .i64 0) ∧ w' = W)
        clear h9 hv hmx1 hmx2 hmx HWI
        go_wp2_with (go_at_call 11; (with_reducible refine (HWI1.out _).mono ?_); rintro e w9 ⟨rfl, hw9⟩; obtain rfl := hw9.symm)
        all_goals
          go_meet
          case rel => exact ⟨_, rfl, by unfold wideI; omega, rfl⟩
      · rw [if_neg hn1] at hmx
        have hgn1 : ¬ (g.nons.length : Int) < 1 := by omega
        subst hmx
        clear h9 hv hmx1 hmx2
        go_wp2_with (go_at_call 11; (with_reducible refine (HWI.out _).mono ?_); rintro e w9 ⟨rfl, hw9⟩; obtain rfl := hw9.symm)
        all_goals
          go_meet
          case rel => exact ⟨_, rfl, by unfold wideI; omega, rfl⟩
  case rest =>
  obtain ⟨r, rfl, hrt, hwx⟩ := hcut
  obtain rfl := hwx.symm
  clear c0 c1' c2' l1
  go_upto_if 38 with fail
  go_cut [3, 38] from 39 to 40 (fun mv _ wx => ∃ m : Int, mv = .int .i64 m ∧ wideI m ∧ wx = S)
  case first =>
    by_cases h7 : most.tmod 7 = 6
    · have e1 : (most.tmod 7 == 6) = true := beq_iff_eq.2 h7
      have e2 : (most.tmod 7 != 6) = false := by rw [bne, e1]; rfl
      clear h7
      go_wp2
      go_meet
      case rel => exact ⟨_, rfl, hmo, rfl⟩
    · have e1 : (most.tmod 7 == 6) = false := beq_eq_false_iff_ne.2 h7
      have e2 : (most.tmod 7 != 6) = true := by rw [bne, e1]; rfl
      obtain ⟨v, hv, hvl⟩ : ∃ v : Nat, most % 12 = v ∧ v < 12 := ⟨(most % 12).toNat, by omega, by omega⟩
      have HWI := Lib.hid fun W => (within_any most 12 (by omega) (by omega) W).mono fun e w' h => (⟨h.1.trans (by rw [hv]), h.2⟩ : e = Ending.returned (.int .i64 v) ∧ w' = W)
      clear h7 hv
      go_wp2_with (go_at_call 11; (with_reducible refine (HWI.out _).mono ?_); rintro e w9 ⟨rfl, hw9⟩; obtain rfl := hw9.symm)
      go_meet
      case rel => exact ⟨_, rfl, by unfold wideI; omega, rfl⟩
  case rest =>
  obtain ⟨m, rfl, hmw, hwx⟩ := hcut
  obtain rfl := hwx.symm
  obtain ⟨c0, c1', c2', l1⟩ := HCL.out S (Below.refl _ _)
  have hsy := symsM_any _ g la lc row 5 S HG.out.gram (by omega) (by omega) HLC.out hrl HRW.out (by omega)
  unfold SymsEnd at hsy
  push_cast at hsy
  have HSY := Lib.hid hsy
  clear hsy
  go_upto_region 9 with (go_at_call 19; (with_reducible refine HSY.out.mono ?_); rintro e w2 ⟨hb2, sa0, sc0, s0, rfl, hs5, hsw, hso⟩)
  have HS0 := Lib.hid (own_cells hso).1
  have HSW0 := Lib.hid hsw
  have HB2 := Lib.hid hb2
  clear c0 c1' c2' l1 hb2 hso hsw HSY
  obtain ⟨c0, c1', c2', l1⟩ := HCL.out w2 HB2.out
  go_upto_if 51 with fail
  go_cut [10, 51] from 10 to 10 (fun sv _ wx => ∃ (sa : Option Addr) (sc : Nat) (s : List Int), sv = .slice sa s.length sc ∧ wx = w2 ∧ s.length ≤ 5 ∧ Hid (Cells w2 sa (nums s)) ∧ Hid (∀ y ∈ s, wideI y))
  case first =>
    by_cases h0 : (g.terms.length : Int) + g.nons.length = 0
    · have e1 : ((g.terms.length : Int) + g.nons.length == 0) = true := beq_iff_eq.2 h0
      clear h0
      go_wp2
      all_goals
        go_meet
        case rel => exact ⟨none, 0, [], rfl, rfl, by simp, Lib.hid (.inl rfl), Lib.hid (fun y hy => by cases hy)⟩
    · have e1 : ((g.terms.length : Int) + g.nons.length == 0) = false := beq_eq_false_iff_ne.2 h0
      clear h0
      go_wp2
      all_goals
        go_meet
        case rel => exact ⟨sa0, sc0, s0, rfl, rfl, hs5, HS0, HSW0⟩
  case rest =>
  obtain ⟨sa, sc, s, rfl, hwx, hs5', HS2, HSW⟩ := hcut
  obtain rfl := hwx.symm
  have HG2 := Lib.hid (HG.out.below HB2.out)
  have HCL2 : Hid (∀ W, Below w2.heap.size w2 W → W.cell? ⟨B1, 0, none⟩ = some (.slice at_ g.terms.length ct) ∧ W.cell? ⟨B1, 1, none⟩ = some (.slice an g.nons.length cn) ∧ W.cell? ⟨B1, 2, none⟩ = some (.slice ap g.prods.length cp) ∧ B1 < W.heap.size) := Lib.hid fun W hW => HCL.out W (HB2.out.trans (hW.mono HB2.out.size))
  have HFIN : Hid (∀ W, Below w2.heap.size w2 W → Below w.heap.size w W) := Lib.hid fun W hW => HB.out.trans ((HB2.out.trans (hW.mono HB2.out.size)).mono HB.out.size)
  have HCAN := Lib.hid fun W (hW : Below w2.heap.size w2 W) => can_calls _ g r sa sc s W (HG2.out.below hW).gram HM.out hrt (HS2.out.below hW) (by omega) HSW.out
  have HRT := Lib.hid fun (mm : Int) W (hW : Below w2.heap.size w2 W) => rtrees_any _ g r sa sc s mm W (HG2.out.below hW) HM.out (HS2.out.below hW) (by omega)
  have HTC := Lib.hid fun W (hW : Below w2.heap.size w2 W) => trees_calls _ g r sa sc s m W (HG2.out.below hW).gram HM.out hrt (HS2.out.below hW) (by omega) HSW.out
  have HCNT := Lib.hid fun W (hW : Below w2.heap.size w2 W) => count_any _ g r sa sc s m W (HG2.out.below hW).gram HM.out hrt (HS2.out.below hW) (by omega) HSW.out
  clear HS HSW0 HS0 hs5 hgt hgn
  clear c0 c1' c2' l1
  obtain ⟨c0, c1', c2', l1⟩ := HCL2.out w2 (Below.refl _ _)
  by_cases hA : AskP g r s m
  · obtain ⟨M, rfl⟩ : ∃ M : Nat, m = M := Int.eq_ofNat_of_zero_le hA.2.2.2.1
    have hM := hA.2.2.2.2.1
    have HTA := Lib.hid fun W (hW : Below w2.heap.size w2 W) => trees_ask (wc := sc) hA (HG2.out.below hW).gram (HS2.out.below hW)
    have HRA := Lib.hid fun W (hW : Below w2.heap.size w2 W) => (HRT.out M W hW).mono fun e w' h => rall_yes hA h
    have HA := Lib.hid hA
    clear hA
    go_upto_region 12 with (go_at_call 14; (with_reducible refine (HTA.out _ (Below.refl _ _)).mono ?_); rintro e w3 ⟨hb3, ta, tc, ts, rfl, hct, htc, hlt, hpt⟩)
    have HB3 := Lib.hid hb3
    have HCT := Lib.hid hct
    have HLT := Lib.hid hlt
    have HPT := Lib.hid hpt
    clear c0 c1' c2' l1 hb3 hct hlt hpt
    obtain ⟨c0, c1', c2', l1⟩ := HCL2.out w3 HB3.out
    go_upto_region 13 with (go_at_call 20; (with_reducible refine (HRA.out _ HB3.out).mono ?_); rintro e w4 ⟨hb4, va, vc, us, rfl, hlu, hpu⟩)
    rw [Int.toNat_natCast] at hpu
    have HB4 := Lib.hid (HB3.out.trans (hb4.mono HB3.out.size))
    have HCT4 := Lib.hid (HCT.out.below hb4)
    have HLT4 := Lib.hid fun t ht => (HLT.out t ht).under hb4
    have HLU := Lib.hid hlu
    have HPU := Lib.hid hpu
    have htl := trees_len HPT.out
    have hul := trees_len hpu
    have HLEN := Lib.hid (show us.length = ts.length by omega)
    have e1 : ((ts.length : Int) == (us.length : Int)) = true := beq_iff_eq.2 (by omega)
    have e2 : ((ts.length : Int) != (us.length : Int)) = false := by rw [bne, e1]; rfl
    have HC4 := Lib.hid ((HCNT.out w4 HB4.out).mono fun e w' h => (⟨h.1.trans (by rw [cnt_is HA.out (n := us.length) (by rw [num_all, hul])]), h.2⟩ : e = Ending.returned (.int .i64 us.length) ∧ Below w4.heap.size w4 w'))
    have htm : ts.length ≤ 200 := by omega
    clear c0 c1' c2' l1 hb4 hlu hpu htl hul
    obtain ⟨c0, c1', c2', l1⟩ := HCL2.out w4 HB4.out
    go_upto_region 15 with (go_at_call 12; (with_reducible refine HC4.out.mono ?_); rintro e w5 ⟨rfl, hb5⟩)
    have HB5 := Lib.hid (HB4.out.trans (hb5.mono HB4.out.size))
    have HCT5 := Lib.hid (HCT4.out.below hb5)
    have HLT5 := Lib.hid fun t ht => (HLT4.out t ht).under hb5
    have HLU5 := Lib.hid (HLU.out.under hb5)
    clear c0 c1' c2' l1 hb5 e1 e2
    go_wp2
    go_loopw [99] (fun iv wr => ∃ k : Nat, iv = .int .i64 k ∧ k ≤ ts.length ∧ Hid (Below w5.heap.size w5 wr)) (fun iv _ => ts.length - (intOf iv).toNat)
    case atStart => exact ⟨0, rfl, by omega, Lib.hid (Below.refl _ _)⟩
    case round =>
      obtain ⟨k, rfl, hk, HBR⟩ := hrel
      have HB6 := Lib.hid (HB5.out.trans (HBR.out.mono HB5.out.size))
      by_cases hkl : k < ts.length
      · obtain ⟨t, ht⟩ : ∃ t, ts[k]? = some t := ⟨_, List.getElem?_eq_getElem hkl⟩
        obtain ⟨u, hu⟩ : ∃ u, us[k]? = some u := ⟨_, List.getElem?_eq_getElem (by have := HLEN.out; omega)⟩
        obtain ⟨tb, to_, hta, htb, x0, x1, x2⟩ := tls_get (HCT5.out.below HBR.out) ht
        obtain ⟨ub, uo, hua, hub, _, y0, y1, y2⟩ := kid_at (HLU5.out.under HBR.out) hu
        subst hta
        subst hua
        have e3 : (k : Int) < ts.length := by omega
        have e4 : (k : Int) < us.length := by have := HLEN.out; omega
        have hmt := List.mem_of_getElem? ht
        have hmu := List.mem_of_getElem? hu
        obtain ⟨-, -, p3, -⟩ := trees_plain HA.out HPT.out t hmt
        obtain ⟨-, -, q3, -⟩ := trees_plain HA.out HPU.out u hmu
        have heq := trees_more (Nat.le_refl _) HPT.out HPU.out ht hu
        have HST := Lib.hid fun W (hW : Below wr.heap.size wr W) => (rsame_any t u _ _ W (((HLT5.out t hmt).under HBR.out).under hW) (((HLU5.out.under HBR.out).kid u hmu).under hW) p3 q3).mono fun e w' h => (⟨h.1.trans (by rw [(same_iff _ _).2 heq]), h.2⟩ : e = Ending.returned (.bool true) ∧ Below W.heap.size W w')
        unfold Tl.v at HST
        have HKL := Lib.hid hkl
        have HT0 := Lib.hid (⟨htb, x0, x1, x2⟩ : _ ∧ _ ∧ _ ∧ _)
        have HU0 := Lib.hid (⟨hub, y0, y1, y2⟩ : _ ∧ _ ∧ _ ∧ _)
        have HKX : Hid (∀ W W', Hid (Below wr.heap.size wr W) → Below W.heap.size W W' → (W'.cell? ⟨tb, to_ + k * 3, none⟩ = some (.int .i64 t.sym) ∧ W'.cell? ⟨tb, to_ + k * 3 + 1, none⟩ = some (.int .i64 t.prod) ∧ W'.cell? ⟨tb, to_ + k * 3 + 2, none⟩ = some (.slice t.a t.kids.length t.c) ∧ W'.cell? ⟨ub, uo + k * 3, none⟩ = some (.int .i64 u.sym) ∧ W'.cell? ⟨ub, uo + k * 3 + 1, none⟩ = some (.int .i64 u.prod) ∧ W'.cell? ⟨ub, uo + k * 3 + 2, none⟩ = some (.slice u.a u.kids.length u.c)) ∧ Hid (Below wr.heap.size wr W')) := Lib.hid fun W W' h k' => by
          have h2 := h.out.trans (k'.mono h.out.size)
          obtain ⟨a1, a2, a3, a4⟩ := HT0.out
          obtain ⟨b1, b2, b3, b4⟩ := HU0.out
          exact ⟨⟨(h2.cell (p := ⟨tb, to_ + k * 3, none⟩) a1).trans a2, (h2.cell (p := ⟨tb, to_ + k * 3 + 1, none⟩) a1).trans a3, (h2.cell (p := ⟨tb, to_ + k * 3 + 2, none⟩) a1).trans a4, (h2.cell (p := ⟨ub, uo + k * 3, none⟩) b1).trans b2, (h2.cell (p := ⟨ub, uo + k * 3 + 1, none⟩) b1).trans b3, (h2.cell (p := ⟨ub, uo + k * 3 + 2, none⟩) b1).trans b4⟩, Lib.hid h2⟩
        have HB0 := Lib.hid (Below.refl wr.heap.size wr)
        clear ht hu hmt hmu p3 q3 heq hkl
        go_upto_region 18 with fail
        go_region_held3 (fun w' => (w'.cell? ⟨tb, to_ + k * 3, none⟩ = some (.int .i64 t.sym) ∧ w'.cell? ⟨tb, to_ + k * 3 + 1, none⟩ = some (.int .i64 t.prod) ∧ w'.cell? ⟨tb, to_ + k * 3 + 2, none⟩ = some (.slice t.a t.kids.length t.c) ∧ w'.cell? ⟨ub, uo + k * 3, none⟩ = some (.int .i64 u.sym) ∧ w'.cell? ⟨ub, uo + k * 3 + 1, none⟩ = some (.int .i64 u.prod) ∧ w'.cell? ⟨ub, uo + k * 3 + 2, none⟩ = some (.slice u.a u.kids.length u.c)) ∧ Hid (Below wr.heap.size wr w'))
          (first | (exact HKX.out _ _ HB0 (Below.refl _ _).drew) | (exact HKX.out _ _ (And.right (show _ ∧ Hid (Below wr.heap.size wr _) by assumption)) (by assumption)) | go_keep)
          (first
            | (go_at_call 21; (with_reducible refine (HST.out _ (And.right (show _ ∧ Hid (Below wr.heap.size wr _) by assumption)).out).mono ?_); rintro e w7 ⟨rfl, hb7⟩))
        all_goals
          have HBZ := And.right (show _ ∧ Hid (Below wr.heap.size wr w7) by assumption)
          go_wp2
          exact ⟨⟨k + 1, by go_num, by have := HKL.out; omega, Lib.hid (HBR.out.trans (HBZ.out.mono HBR.out.size))⟩, by have := HKL.out; simp [intOf]; omega⟩
      · have e3 : ¬ (k : Int) < ts.length := by omega
        have e5 : ¬ ((M : Int) < 0) := by omega
        have e6 : ¬ ((200 : Int) < (M : Int)) := by omega
        clear hkl
        obtain ⟨c0, c1', c2', l1⟩ := HCL2.out wr HB6.out
        by_cases h1 : AskP g r s 1
        · have HR1 := Lib.hid ((HRT.out 1 wr HB6.out).mono fun e w' h => rall_yes h1 h)
          have H1 := Lib.hid h1
          clear h1
          go_upto_region 22 with (go_at_call 20; (with_reducible refine HR1.out.mono ?_); rintro e w7 ⟨hb7, oa, oc, os, rfl, -, hop⟩)
          have HB7 := Lib.hid (HB6.out.trans (hb7.mono HB6.out.size))
          have hol := trees_len hop
          have hcan := can_trees H1.out (by decide) hop
          rw [show (1 : Int).toNat = 1 from rfl] at hol
          clear c0 c1' c2' l1 hb7 hop
          obtain ⟨c0, c1', c2', l1⟩ := HCL2.out w7 HB7.out
          rcases (show os.length = 0 ∨ os.length = 1 by omega) with ho | ho
          · have HC7 := Lib.hid ((HCAN.out w7 HB7.out).mono fun e w' h => (⟨h.1.trans (by rw [hcan, ho]; rfl), h.2⟩ : e = Ending.returned (.bool false) ∧ Below w7.heap.size w7 w'))
            have e8 : ((os.length : Int) == 1) = false := beq_eq_false_iff_ne.2 (by omega)
            clear hol hcan ho
            go_wp2_with (first
              | (go_at_call 13; (with_reducible refine HC7.out.mono ?_); rintro e w8 ⟨rfl, hb8⟩; have HB8 := Lib.hid (HB7.out.trans (hb8.mono HB7.out.size)))
              | (go_at_call 16; (with_reducible refine (HWK.out _).mono ?_); rintro e w9 ⟨rfl, hb9⟩; have HB9 := Lib.hid (HB8.out.trans (hb9.mono HB8.out.size))))
            go_ret
            exact ⟨rfl, HFIN.out _ HB9.out⟩
          · have HC7 := Lib.hid ((HCAN.out w7 HB7.out).mono fun e w' h => (⟨h.1.trans (by rw [hcan, ho]; rfl), h.2⟩ : e = Ending.returned (.bool true) ∧ Below w7.heap.size w7 w'))
            have e8 : ((os.length : Int) == 1) = true := beq_iff_eq.2 (by omega)
            clear hol hcan ho
            go_wp2_with (first
              | (go_at_call 13; (with_reducible refine HC7.out.mono ?_); rintro e w8 ⟨rfl, hb8⟩; have HB8 := Lib.hid (HB7.out.trans (hb8.mono HB7.out.size)))
              | (go_at_call 16; (with_reducible refine (HWK.out _).mono ?_); rintro e w9 ⟨rfl, hb9⟩; have HB9 := Lib.hid (HB8.out.trans (hb9.mono HB8.out.size))))
            go_ret
            exact ⟨rfl, HFIN.out _ HB9.out⟩
        · have HR1 := Lib.hid ((HRT.out 1 wr HB6.out).mono fun e w' h => rall_not h1 h)
          have hcan := can_no h1
          clear h1
          go_upto_region 22 with (go_at_call 20; (with_reducible refine HR1.out.mono ?_); rintro e w7 ⟨hb7, rfl⟩)
          have HB7 := Lib.hid (HB6.out.trans (hb7.mono HB6.out.size))
          have HC7 := Lib.hid ((HCAN.out w7 HB7.out).mono fun e w' h => (⟨h.1.trans (by rw [hcan]), h.2⟩ : e = Ending.returned (.bool false) ∧ Below w7.heap.size w7 w'))
          clear c0 c1' c2' l1 hb7 hcan
          obtain ⟨c0, c1', c2', l1⟩ := HCL2.out w7 HB7.out
          go_wp2_with (first
            | (go_at_call 13; (with_reducible refine HC7.out.mono ?_); rintro e w8 ⟨rfl, hb8⟩; have HB8 := Lib.hid (HB7.out.trans (hb8.mono HB7.out.size)))
            | (go_at_call 16; (with_reducible refine (HWK.out _).mono ?_); rintro e w9 ⟨rfl, hb9⟩; have HB9 := Lib.hid (HB8.out.trans (hb9.mono HB8.out.size))))
          go_ret
          exact ⟨rfl, HFIN.out _ HB9.out⟩
  · have HTA := Lib.hid fun W (hW : Below w2.heap.size w2 W) => (HTC.out W hW).mono fun e w' h => (⟨by have := h.1; unfold TreesEnd at this; rwa [askB_false hA, if_neg (by simp)] at this, h.2⟩ : e = .returned (.tuple #[.slice none 0 0, .int .i64 1]) ∧ Below W.heap.size W w')
    have HRA := Lib.hid fun W (hW : Below w2.heap.size w2 W) => (HRT.out m W hW).mono fun e w' h => rall_not hA h
    have HC := Lib.hid fun W (hW : Below w2.heap.size w2 W) => (HCNT.out W hW).mono fun e w' h => (⟨h.1.trans (by unfold cntI; rw [askB_false hA, if_neg (by simp)]), h.2⟩ : e = Ending.returned (.int .i64 0) ∧ Below W.heap.size W w')
    clear hA
    go_upto_region 12 with (go_at_call 14; (with_reducible refine (HTA.out _ (Below.refl _ _)).mono ?_); rintro e w3 ⟨rfl, hb3⟩)
    have HB3 := Lib.hid hb3
    clear c0 c1' c2' l1 hb3
    obtain ⟨c0, c1', c2', l1⟩ := HCL2.out w3 HB3.out
    go_upto_region 13 with (go_at_call 20; (with_reducible refine (HRA.out _ HB3.out).mono ?_); rintro e w4 ⟨hb4, rfl⟩)
    have HB4 := Lib.hid (HB3.out.trans (hb4.mono HB3.out.size))
    clear c0 c1' c2' l1 hb4
    obtain ⟨c0, c1', c2', l1⟩ := HCL2.out w4 HB4.out
    go_upto_region 15 with (go_at_call 12; (with_reducible refine (HC.out _ HB4.out).mono ?_); rintro e w5 ⟨rfl, hb5⟩)
    have HB5 := Lib.hid (HB4.out.trans (hb5.mono HB4.out.size))
    clear c0 c1' c2' l1 hb5
    go_wp2
    go_loopw [99] (fun iv wr => iv = .int .i64 0 ∧ Hid (Below w5.heap.size w5 wr)) (fun _ _ => 0)
    case atStart => exact ⟨rfl, Lib.hid (Below.refl _ _)⟩
    case round =>
      obtain ⟨rfl, HBR⟩ := hrel
      have HB6 := Lib.hid (HB5.out.trans (HBR.out.mono HB5.out.size))
      rcases (show m < 0 ∨ 200 < m ∨ (¬ m < 0 ∧ ¬ 200 < m) by omega) with e5 | e5 | ⟨e5, e6⟩
      · obtain ⟨c0, c1', c2', l1⟩ := HCL2.out wr HB6.out
        by_cases h1 : AskP g r s 1
        · have HR1 := Lib.hid ((HRT.out 1 wr HB6.out).mono fun e w' h => rall_yes h1 h)
          have H1 := Lib.hid h1
          clear h1
          go_upto_region 22 with (go_at_call 20; (with_reducible refine HR1.out.mono ?_); rintro e w7 ⟨hb7, oa, oc, os, rfl, -, hop⟩)
          have HB7 := Lib.hid (HB6.out.trans (hb7.mono HB6.out.size))
          have hol := trees_len hop
          have hcan := can_trees H1.out (by decide) hop
          rw [show (1 : Int).toNat = 1 from rfl] at hol
          clear c0 c1' c2' l1 hb7 hop
          obtain ⟨c0, c1', c2', l1⟩ := HCL2.out w7 HB7.out
          rcases (show os.length = 0 ∨ os.length = 1 by omega) with ho | ho
          · have HC7 := Lib.hid ((HCAN.out w7 HB7.out).mono fun e w' h => (⟨h.1.trans (by rw [hcan, ho]; rfl), h.2⟩ : e = Ending.returned (.bool false) ∧ Below w7.heap.size w7 w'))
            have e8 : ((os.length : Int) == 1) = false := beq_eq_false_iff_ne.2 (by omega)
            clear hol hcan ho
            go_wp2_with (go_at_call 16; (with_reducible refine (HWK.out _).mono ?_); rintro e w9 ⟨rfl, hb9⟩; have HB9 := Lib.hid (HB7.out.trans (hb9.mono HB7.out.size)))
            go_ret
            exact ⟨rfl, HFIN.out _ HB9.out⟩
          · have HC7 := Lib.hid ((HCAN.out w7 HB7.out).mono fun e w' h => (⟨h.1.trans (by rw [hcan, ho]; rfl), h.2⟩ : e = Ending.returned (.bool true) ∧ Below w7.heap.size w7 w'))
            have e8 : ((os.length : Int) == 1) = true := beq_iff_eq.2 (by omega)
            clear hol hcan ho
            go_wp2_with (go_at_call 16; (with_reducible refine (HWK.out _).mono ?_); rintro e w9 ⟨rfl, hb9⟩; have HB9 := Lib.hid (HB7.out.trans (hb9.mono HB7.out.size)))
            go_ret
            exact ⟨rfl, HFIN.out _ HB9.out⟩
        · have HR1 := Lib.hid ((HRT.out 1 wr HB6.out).mono fun e w' h => rall_not h1 h)
          have hcan := can_no h1
          clear h1
          go_upto_region 22 with (go_at_call 20; (with_reducible refine HR1.out.mono ?_); rintro e w7 ⟨hb7, rfl⟩)
          have HB7 := Lib.hid (HB6.out.trans (hb7.mono HB6.out.size))
          have HC7 := Lib.hid ((HCAN.out w7 HB7.out).mono fun e w' h => (⟨h.1.trans (by rw [hcan]), h.2⟩ : e = Ending.returned (.bool false) ∧ Below w7.heap.size w7 w'))
          clear c0 c1' c2' l1 hb7 hcan
          obtain ⟨c0, c1', c2', l1⟩ := HCL2.out w7 HB7.out
          go_wp2_with (go_at_call 16; (with_reducible refine (HWK.out _).mono ?_); rintro e w9 ⟨rfl, hb9⟩; have HB9 := Lib.hid (HB7.out.trans (hb9.mono HB7.out.size)))
          go_ret
          exact ⟨rfl, HFIN.out _ HB9.out⟩
      · obtain ⟨c0, c1', c2', l1⟩ := HCL2.out wr HB6.out
        by_cases h1 : AskP g r s 1
        · have HR1 := Lib.hid ((HRT.out 1 wr HB6.out).mono fun e w' h => rall_yes h1 h)
          have H1 := Lib.hid h1
          clear h1
          go_upto_region 22 with (go_at_call 20; (with_reducible refine HR1.out.mono ?_); rintro e w7 ⟨hb7, oa, oc, os, rfl, -, hop⟩)
          have HB7 := Lib.hid (HB6.out.trans (hb7.mono HB6.out.size))
          have hol := trees_len hop
          have hcan := can_trees H1.out (by decide) hop
          rw [show (1 : Int).toNat = 1 from rfl] at hol
          clear c0 c1' c2' l1 hb7 hop
          obtain ⟨c0, c1', c2', l1⟩ := HCL2.out w7 HB7.out
          rcases (show os.length = 0 ∨ os.length = 1 by omega) with ho | ho
          · have HC7 := Lib.hid ((HCAN.out w7 HB7.out).mono fun e w' h => (⟨h.1.trans (by rw [hcan, ho]; rfl), h.2⟩ : e = Ending.returned (.bool false) ∧ Below w7.heap.size w7 w'))
            have e8 : ((os.length : Int) == 1) = false := beq_eq_false_iff_ne.2 (by omega)
            clear hol hcan ho
            go_wp2_with (go_at_call 16; (with_reducible refine (HWK.out _).mono ?_); rintro e w9 ⟨rfl, hb9⟩; have HB9 := Lib.hid (HB7.out.trans (hb9.mono HB7.out.size)))
            go_ret
            exact ⟨rfl, HFIN.out _ HB9.out⟩
          · have HC7 := Lib.hid ((HCAN.out w7 HB7.out).mono fun e w' h => (⟨h.1.trans (by rw [hcan, ho]; rfl), h.2⟩ : e = Ending.returned (.bool true) ∧ Below w7.heap.size w7 w'))
            have e8 : ((os.length : Int) == 1) = true := beq_iff_eq.2 (by omega)
            clear hol hcan ho
            go_wp2_with (go_at_call 16; (with_reducible refine (HWK.out _).mono ?_); rintro e w9 ⟨rfl, hb9⟩; have HB9 := Lib.hid (HB7.out.trans (hb9.mono HB7.out.size)))
            go_ret
            exact ⟨rfl, HFIN.out _ HB9.out⟩
        · have HR1 := Lib.hid ((HRT.out 1 wr HB6.out).mono fun e w' h => rall_not h1 h)
          have hcan := can_no h1
          clear h1
          go_upto_region 22 with (go_at_call 20; (with_reducible refine HR1.out.mono ?_); rintro e w7 ⟨hb7, rfl⟩)
          have HB7 := Lib.hid (HB6.out.trans (hb7.mono HB6.out.size))
          have HC7 := Lib.hid ((HCAN.out w7 HB7.out).mono fun e w' h => (⟨h.1.trans (by rw [hcan]), h.2⟩ : e = Ending.returned (.bool false) ∧ Below w7.heap.size w7 w'))
          clear c0 c1' c2' l1 hb7 hcan
          obtain ⟨c0, c1', c2', l1⟩ := HCL2.out w7 HB7.out
          go_wp2_with (go_at_call 16; (with_reducible refine (HWK.out _).mono ?_); rintro e w9 ⟨rfl, hb9⟩; have HB9 := Lib.hid (HB7.out.trans (hb9.mono HB7.out.size)))
          go_ret
          exact ⟨rfl, HFIN.out _ HB9.out⟩
      · obtain ⟨c0, c1', c2', l1⟩ := HCL2.out wr HB6.out
        by_cases h1 : AskP g r s 1
        · have HR1 := Lib.hid ((HRT.out 1 wr HB6.out).mono fun e w' h => rall_yes h1 h)
          have H1 := Lib.hid h1
          clear h1
          go_upto_region 22 with (go_at_call 20; (with_reducible refine HR1.out.mono ?_); rintro e w7 ⟨hb7, oa, oc, os, rfl, -, hop⟩)
          have HB7 := Lib.hid (HB6.out.trans (hb7.mono HB6.out.size))
          have hol := trees_len hop
          have hcan := can_trees H1.out (by decide) hop
          rw [show (1 : Int).toNat = 1 from rfl] at hol
          clear c0 c1' c2' l1 hb7 hop
          obtain ⟨c0, c1', c2', l1⟩ := HCL2.out w7 HB7.out
          rcases (show os.length = 0 ∨ os.length = 1 by omega) with ho | ho
          · have HC7 := Lib.hid ((HCAN.out w7 HB7.out).mono fun e w' h => (⟨h.1.trans (by rw [hcan, ho]; rfl), h.2⟩ : e = Ending.returned (.bool false) ∧ Below w7.heap.size w7 w'))
            have e8 : ((os.length : Int) == 1) = false := beq_eq_false_iff_ne.2 (by omega)
            clear hol hcan ho
            go_wp2_with (first
              | (go_at_call 13; (with_reducible refine HC7.out.mono ?_); rintro e w8 ⟨rfl, hb8⟩; have HB8 := Lib.hid (HB7.out.trans (hb8.mono HB7.out.size)))
              | (go_at_call 16; (with_reducible refine (HWK.out _).mono ?_); rintro e w9 ⟨rfl, hb9⟩; have HB9 := Lib.hid (HB8.out.trans (hb9.mono HB8.out.size))))
            go_ret
            exact ⟨rfl, HFIN.out _ HB9.out⟩
          · have HC7 := Lib.hid ((HCAN.out w7 HB7.out).mono fun e w' h => (⟨h.1.trans (by rw [hcan, ho]; rfl), h.2⟩ : e = Ending.returned (.bool true) ∧ Below w7.heap.size w7 w'))
            have e8 : ((os.length : Int) == 1) = true := beq_iff_eq.2 (by omega)
            clear hol hcan ho
            go_wp2_with (first
              | (go_at_call 13; (with_reducible refine HC7.out.mono ?_); rintro e w8 ⟨rfl, hb8⟩; have HB8 := Lib.hid (HB7.out.trans (hb8.mono HB7.out.size)))
              | (go_at_call 16; (with_reducible refine (HWK.out _).mono ?_); rintro e w9 ⟨rfl, hb9⟩; have HB9 := Lib.hid (HB8.out.trans (hb9.mono HB8.out.size))))
            go_ret
            exact ⟨rfl, HFIN.out _ HB9.out⟩
        · have HR1 := Lib.hid ((HRT.out 1 wr HB6.out).mono fun e w' h => rall_not h1 h)
          have hcan := can_no h1
          clear h1
          go_upto_region 22 with (go_at_call 20; (with_reducible refine HR1.out.mono ?_); rintro e w7 ⟨hb7, rfl⟩)
          have HB7 := Lib.hid (HB6.out.trans (hb7.mono HB6.out.size))
          have HC7 := Lib.hid ((HCAN.out w7 HB7.out).mono fun e w' h => (⟨h.1.trans (by rw [hcan]), h.2⟩ : e = Ending.returned (.bool false) ∧ Below w7.heap.size w7 w'))
          clear c0 c1' c2' l1 hb7 hcan
          obtain ⟨c0, c1', c2', l1⟩ := HCL2.out w7 HB7.out
          go_wp2_with (first
            | (go_at_call 13; (with_reducible refine HC7.out.mono ?_); rintro e w8 ⟨rfl, hb8⟩; have HB8 := Lib.hid (HB7.out.trans (hb8.mono HB7.out.size)))
            | (go_at_call 16; (with_reducible refine (HWK.out _).mono ?_); rintro e w9 ⟨rfl, hb9⟩; have HB9 := Lib.hid (HB8.out.trans (hb9.mono HB8.out.size))))
          go_ret
          exact ⟨rfl, HFIN.out _ HB9.out⟩
theorem deriveTells_row (x : RawX) (root : Int) (la : Option Addr) (len lc : Nat) (zs : List Int) (most : Int) (w : World) (hx : RawAt w x) (hxw : RawWide x) (hrt : -9223372036854775808 ≤ root ∧ root ≤ 9223372036854775807) (hr : IsRow .i64 w la len lc zs) (hs : lc * 8 ≤ 140737488351232) (hmo : -9223372036854775808 ≤ most ∧ most ≤ 9223372036854775807) :
    Calls Try.prog 5 #[x.v, .int .i64 root, .slice la len lc, .int .i64 most] w fun e w' => e = .returned (.bool true) ∧ Below w.heap.size w w' := by
  obtain ⟨h1, h2⟩ := row_len hr
  have h := deriveTells_walk x root la lc (zs.take len) most w hx hxw hrt (row_cells hr) (by omega) (row_wide hr) hmo
  rwa [h1] at h
end Go.Proofs.Ytgfkkbpnphbdgaa
