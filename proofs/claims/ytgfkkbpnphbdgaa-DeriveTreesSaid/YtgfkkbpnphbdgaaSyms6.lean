/- Syms: numbers as symbols, walked. -/
import Derived.Test.YtgfkkbpnphbdgaaMoreF
import Derived.Test.YtgfkkbpnphbdgaaRaw
import Derived.Test.YtgfkkbpnphbdgaaGS
set_option linter.unusedVariables false
namespace Go.Proofs.Ytgfkkbpnphbdgaa
open Go.RowKit
open Doc

/-- What Syms gives: a row of its own, of few machine's numbers. -/
def SymsEnd (B most : Nat) (e : Ending) (w' : World) : Prop := ∃ (a : Option Addr) (c : Nat) (s : List Int), e = .returned (.slice a s.length c) ∧ s.length ≤ most ∧ (∀ x ∈ s, -9223372036854775808 ≤ x ∧ x ≤ 9223372036854775807) ∧ w'.ownsRow B 3 1 (.slice a s.length c) s.length (nums s)

theorem own_snoc {w : World} {B : Nat} {v : Value} {l : List Int} {x : Int} (h : w.ownsRow B 3 1 v (l.length + 1) (nums l ++ [.int .i64 x])) : w.ownsRow B 3 1 v (l.length + 1) (nums (l ++ [x])) := by
  have e2 : nums (l ++ [x]) = nums l ++ [.int .i64 x] := by simp [nums]
  rw [e2]; exact h
theorem snoc_wide {s : List Int} {x : Int} (h : ∀ x ∈ s, -9223372036854775808 ≤ x ∧ x ≤ 9223372036854775807) (hx : -9223372036854775808 ≤ x ∧ x ≤ 9223372036854775807) : ∀ y ∈ s ++ [x], -9223372036854775808 ≤ y ∧ y ≤ 9223372036854775807 := by
  intro y hy
  rcases List.mem_append.1 hy with hy | hy
  · exact h y hy
  · rw [List.mem_singleton.1 hy]; exact hx

set_option maxRecDepth 100000 in
set_option maxHeartbeats 8000000 in
theorem syms6_any (v : Value) (g : Gr) (la : Option Addr) (lc : Nat) (row : List Int) (most : Nat) (w : World) (hg : GramAt w v g) (hck : CheckG g) (hl : Cells w la (nums row)) (hrl : row.length ≤ 17592186043904) (hrw : ∀ x ∈ row, -9223372036854775808 ≤ x ∧ x ≤ 9223372036854775807) (hm : most ≤ 10) :
    Calls Try.prog 19 #[v, .slice la row.length lc, .int .i64 most] w fun e w' => Below w.heap.size w w' ∧ SymsEnd w.heap.size most e w' := by
  obtain ⟨i0, hi0, hz0, hz1, hz2⟩ := info_of infoI
  obtain ⟨a1, a2, a3, c1, c2, c3, ls, rfl, hp, k1, k2, k3, k4, k5, k6, k7⟩ := hg
  have hS := box_below w (.cells #[.slice a1 g.terms.length c1, .slice a2 g.nons.length c2, .slice a3 ls.length c3] 25)
  have q0 := heap_alloc_new w (.cells #[.slice a1 g.terms.length c1, .slice a2 g.nons.length c2, .slice a3 ls.length c3] 25)
  have ht8 := hck.t8
  have hn8 := hck.n8
  have hn1 := hck.n1
  have HL := Lib.hid (hl.below hS)
  have HS := Lib.hid hS
  have HQ := Lib.hid q0
  have HRW := Lib.hid hrw
  have lQ := heap_lt q0
  have y0 := (blk_cell (i := 0) (u := .slice a1 g.terms.length c1) q0 rfl).1
  have y1 := (blk_cell (i := 1) (u := .slice a2 g.nons.length c2) q0 rfl).1
  clear hp k1 k2 k3 k4 hS q0 hck hl hrw
  go_enter Try.func19, Try.ntmps19
  go_upto_region 1 with fail
  generalize hS1 : w.alloc (.cells #[.slice a1 g.terms.length c1, .slice a2 g.nons.length c2, .slice a3 ls.length c3] 25) = S at *
  clear hS1
  generalize hB : w.heap.size = B at *
  have HBE := Lib.hid hB
  clear hB
  go_upto_region 4 with fail
  go_loopw [7, 9] (fun s i wr => ∃ (k : Nat) (a : Option Addr) (c : Nat) (l : List Int), k ≤ most ∧ k ≤ row.length ∧ i = .int .i64 k ∧ s = .slice a l.length c ∧ l.length = k ∧ Hid (∀ x ∈ l, -9223372036854775808 ≤ x ∧ x ≤ 9223372036854775807) ∧ Hid (wr.ownsRow S.heap.size 3 1 (.slice a l.length c) l.length (nums l)) ∧ Hid (Below S.heap.size S wr)) (fun _ i _ => most - (intOf i).toNat)
  case atStart => exact ⟨0, none, 0, [], by omega, by omega, rfl, rfl, rfl, Lib.hid (by simp), Lib.hid (World.ownsRow_nil _ _ _ _), Lib.hid (Below.refl _ _)⟩
  case round =>
    obtain ⟨k, a, c, l, hkm, hkr, rfl, rfl, hlk, HW, HO, HB⟩ := hrel
    have q0 := (HB.out.block B lQ).trans HQ.out
    by_cases hlt : k < row.length ∧ k < most
    · as_aux_lemma =>
      obtain ⟨hlt, hlt3⟩ := hlt
      obtain ⟨x, hx⟩ : ∃ x, row[k]? = some x := ⟨_, List.getElem?_eq_getElem hlt⟩
      have e1 : (k : Int) < row.length := by omega
      have e2 : (k : Int) < most := by omega
      obtain ⟨rb, ro, rfl, hrb, hrc⟩ := (HL.out.below HB.out).get (by unfold nums; intro e; rw [List.map_eq_nil_iff] at e; rw [e] at hlt; simp at hlt)
      have x0 := hrc k _ (nums_at hx)
      have hxw := HRW.out x (List.mem_of_getElem? hx)
      have d0 := (blk_cell (i := 0) (u := .slice a1 g.terms.length c1) q0 rfl).1
      have d1 := (blk_cell (i := 1) (u := .slice a2 g.nons.length c2) q0 rfl).1
      have d2 := heap_lt q0
      obtain ⟨v, hv, hvl⟩ : ∃ v : Nat, x % ((g.terms.length : Int) + g.nons.length) = v ∧ v < g.terms.length + g.nons.length := ⟨(x % ((g.terms.length : Int) + g.nons.length)).toNat, by
        have := Int.emod_nonneg x (show ((g.terms.length : Int) + g.nons.length) ≠ 0 by omega); omega, by
        have := Int.emod_nonneg x (show ((g.terms.length : Int) + g.nons.length) ≠ 0 by omega)
        have := Int.emod_lt_of_pos x (show (0 : Int) < (g.terms.length : Int) + g.nons.length by omega); omega⟩
      have HWI := Lib.hid fun a => (within_any x ((g.terms.length : Int) + g.nons.length) (by omega) (by omega) (wr.drewN a)).mono fun e w' ⟨he, hw⟩ => (⟨he.trans (by rw [hv]), a, hw⟩ : e = Ending.returned (.int .i64 v) ∧ ∃ n, w' = wr.drewN n)
      have HLK := Lib.hid hlk
      have hl10 : l.length ≤ 10 := by omega
      clear hv hx hrc hlk q0
      go_wp2
      go_quiet ((go_at_call 11; exact HWI.out _))
      have x0' : (wr.drewN nq).cell? ⟨rb, ro + k, none⟩ = some (.int .i64 x) := x0
      have HO1 : Hid ((wr.drewN nq).ownsRow S.heap.size 3 1 (.slice a l.length c) l.length (nums l)) := Lib.hid (own_same HO.out (fun g _ _ => rfl))
      have HB1 : Hid (Below S.heap.size S (wr.drewN nq)) := Lib.hid (below_drews HB.out nq)
      have hrb' : rb < (wr.drewN nq).heap.size := hrb
      clear x0 HO HB hrb d0 d1 d2 HWI
      generalize wr.drewN nq = W1 at *
      by_cases h28 : x.tmod 29 = 28
      · have h28b : (x.tmod 29 == 28) = true := by simp [h28]
        clear h28
        go_wp2_with (at_builtin; refine wpList_append_lies _ rfl (.tmp 49) (.tmp 54) 30 rfl S.heap.size 3 i0 (.int .i64 0) 1 8 Try.underlying30 hi0 hz0 hz1 hz2 rfl (by decide) _ l.length (nums l) rfl (HO1.out.alloc _) ⟨W1.heap.size, 0, none⟩ 1 1 [.int .i64 x] rfl rfl (World.news_of_block (cs := #[.int .i64 x]) (t := 3) (fr := (0, 0)) (heap_alloc_new W1 _)) (by simp [Value.oneCell']) (by decide) (by unfold maxLen; omega) (by omega) (by have := HB1.out.size; simp; omega) W1.heap.size.succ (by simp) ?_; intro gg cap4 w4 hown4 hgrow4 hat4 hlt4)
        exact ⟨⟨k + 1, some ⟨gg, 0, none⟩, cap4, l ++ [x], by omega, by omega, by go_num, by simp, by have := HLK.out; simp; omega, Lib.hid (snoc_wide HW.out hxw), Lib.hid (by rw [List.length_append]; exact own_snoc hown4), Lib.hid ((HB1.out.alloc HB1.out.size _).grown hgrow4 (by have := HB1.out.size; simp; omega) (fun k hk => (own_block HO1.out hk).1))⟩, by simp [intOf]; omega⟩
      · have h28b : (x.tmod 29 == 28) = false := by simpa using h28
        clear h28
        by_cases hdt : v < g.terms.length
        · have hdt2 : (v : Int) < g.terms.length := by omega
          go_wp2_with (at_builtin; refine wpList_append_lies _ rfl (.tmp 60) (.tmp 63) 30 rfl S.heap.size 3 i0 (.int .i64 0) 1 8 Try.underlying30 hi0 hz0 hz1 hz2 rfl (by decide) _ l.length (nums l) rfl (HO1.out.alloc _) ⟨W1.heap.size, 0, none⟩ 1 1 [.int .i64 ((v : Int) + 1)] rfl rfl (World.news_of_block (cs := #[.int .i64 ((v : Int) + 1)]) (t := 3) (fr := (0, 0)) (heap_alloc_new W1 _)) (by simp [Value.oneCell']) (by decide) (by unfold maxLen; omega) (by omega) (by have := HB1.out.size; simp; omega) W1.heap.size.succ (by simp) ?_; intro gg cap4 w4 hown4 hgrow4 hat4 hlt4)
          exact ⟨⟨k + 1, some ⟨gg, 0, none⟩, cap4, l ++ [(v : Int) + 1], by omega, by omega, by go_num, by simp, by have := HLK.out; simp; omega, Lib.hid (snoc_wide HW.out (by omega)), Lib.hid (by rw [List.length_append]; exact own_snoc hown4), Lib.hid ((HB1.out.alloc HB1.out.size _).grown hgrow4 (by have := HB1.out.size; simp; omega) (fun k hk => (own_block HO1.out hk).1))⟩, by simp [intOf]; omega⟩
        · have hdt2 : ¬ (v : Int) < g.terms.length := by omega
          go_wp2_with (at_builtin; refine wpList_append_lies _ rfl (.tmp 35) (.tmp 40) 30 rfl S.heap.size 3 i0 (.int .i64 0) 1 8 Try.underlying30 hi0 hz0 hz1 hz2 rfl (by decide) _ l.length (nums l) rfl (HO1.out.alloc _) ⟨W1.heap.size, 0, none⟩ 1 1 [.int .i64 (100 + (v : Int) - g.terms.length)] rfl rfl (World.news_of_block (cs := #[.int .i64 (100 + (v : Int) - g.terms.length)]) (t := 3) (fr := (0, 0)) (heap_alloc_new W1 _)) (by simp [Value.oneCell']) (by decide) (by unfold maxLen; omega) (by omega) (by have := HB1.out.size; simp; omega) W1.heap.size.succ (by simp) ?_; intro gg cap4 w4 hown4 hgrow4 hat4 hlt4)
          exact ⟨⟨k + 1, some ⟨gg, 0, none⟩, cap4, l ++ [100 + (v : Int) - g.terms.length], by omega, by omega, by go_num, by simp, by have := HLK.out; simp; omega, Lib.hid (snoc_wide HW.out (by omega)), Lib.hid (by rw [List.length_append]; exact own_snoc hown4), Lib.hid ((HB1.out.alloc HB1.out.size _).grown hgrow4 (by have := HB1.out.size; simp; omega) (fun k hk => (own_block HO1.out hk).1))⟩, by simp [intOf]; omega⟩
    · as_aux_lemma =>
      have hex : ¬ (k : Int) < row.length ∨ ((k : Int) < row.length ∧ ¬ (k : Int) < most) := by omega
      have hfin : Below w.heap.size w wr := by rw [HBE.out]; exact HS.out.trans (HB.out.mono (by omega))
      have HFIN := Lib.hid hfin
      have hlm : l.length ≤ most := by omega
      clear hfin hlt q0 hlk
      rcases hex with hx1 | ⟨hx1, hx2⟩
      all_goals
        go_wp2
        go_ret
        exact ⟨HFIN.out, a, c, l, rfl, hlm, HW.out, own_base' HO.out (by rw [HBE.out]; omega)⟩

end Go.Proofs.Ytgfkkbpnphbdgaa
