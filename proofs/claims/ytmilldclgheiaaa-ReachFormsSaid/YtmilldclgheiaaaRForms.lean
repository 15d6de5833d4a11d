/- ReachForms: walked. -/
import Derived.Test.YtmilldclgheiaaaRFormF
import Derived.Test.YtmilldclgheiaaaRaw
import Derived.Deep.RegionHeld3
set_option linter.unusedVariables false
namespace Go.Proofs.Ytmilldclgheiaaa
open Go.RowKit
open Doc

theorem set_lit (W : World) (cs : Array Value) (l : List Int) (n : Nat) (hc : cs.toList = nums l) (hl : l.length ≤ 100) (h : ofL l = n) (k : Nat) (hk : l.length = k) : Calls Try.prog 35 #[.slice (some ⟨W.heap.size, 0, none⟩) k k] (W.alloc (.cells cs 3)) fun e w' => e = .returned (.int .u64 (n : Int)) ∧ w' = W.alloc (.cells cs 3) := by
  subst hk
  exact (set_of (some ⟨W.heap.size, 0, none⟩) l.length l (W.alloc (.cells cs 3)) (by have := cells_new W cs 3; rwa [hc] at this) (by omega)).mono fun e w' ⟨he, hw⟩ => ⟨he.trans (by rw [h]), hw⟩
theorem of012_v : ofL [0, 1, 2] = 7 := by decide +kernel
theorem of012 (W : World) : Calls Try.prog 35 #[.slice (some ⟨W.heap.size, 0, none⟩) 3 3] (W.alloc (.cells #[.int .i64 0, .int .i64 1, .int .i64 2] 3)) fun e w' => e = .returned (.int .u64 7) ∧ w' = W.alloc (.cells #[.int .i64 0, .int .i64 1, .int .i64 2] 3) := set_lit W #[.int .i64 0, .int .i64 1, .int .i64 2] [0, 1, 2] 7 rfl (by decide) of012_v 3 rfl
theorem of0124_v : ofL [0, 1, 2, 4] = 23 := by decide +kernel
theorem of0124 (W : World) : Calls Try.prog 35 #[.slice (some ⟨W.heap.size, 0, none⟩) 4 4] (W.alloc (.cells #[.int .i64 0, .int .i64 1, .int .i64 2, .int .i64 4] 3)) fun e w' => e = .returned (.int .u64 23) ∧ w' = W.alloc (.cells #[.int .i64 0, .int .i64 1, .int .i64 2, .int .i64 4] 3) := set_lit W #[.int .i64 0, .int .i64 1, .int .i64 2, .int .i64 4] [0, 1, 2, 4] 23 rfl (by decide) of0124_v 4 rfl
theorem of0123_v : ofL [0, 1, 2, 3] = 15 := by decide +kernel
theorem of0123 (W : World) : Calls Try.prog 35 #[.slice (some ⟨W.heap.size, 0, none⟩) 4 4] (W.alloc (.cells #[.int .i64 0, .int .i64 1, .int .i64 2, .int .i64 3] 3)) fun e w' => e = .returned (.int .u64 15) ∧ w' = W.alloc (.cells #[.int .i64 0, .int .i64 1, .int .i64 2, .int .i64 3] 3) := set_lit W #[.int .i64 0, .int .i64 1, .int .i64 2, .int .i64 3] [0, 1, 2, 3] 15 rfl (by decide) of0123_v 4 rfl
theorem of1 (W : World) : Calls Try.prog 35 #[.slice (some ⟨W.heap.size, 0, none⟩) 1 1] (W.alloc (.cells #[.int .i64 1] 3)) fun e w' => e = .returned (.int .u64 2) ∧ w' = W.alloc (.cells #[.int .i64 1] 3) := set_lit W #[.int .i64 1] [1] 2 rfl (by decide) (by decide +kernel) 1 rfl
theorem of_nil (W : World) : Calls Try.prog 35 #[.slice none 0 0] W fun e w' => e = .returned (.int .u64 0) ∧ w' = W :=
  (set_of none 0 [] W (.inl rfl) (by simp)).mono fun e w' ⟨he, hw⟩ => ⟨he, hw⟩
theorem same_lit (a b : Option Addr) (c : Nat) (W : World) (h : Cells W a (nums [0, 2, 3, 4, 6, 7])) (k : Cells W b [.int .i64 0, .int .i64 2, .int .i64 3, .int .i64 4, .int .i64 6, .int .i64 7]) : Calls Try.prog 38 #[.slice a 6 c, .slice b 6 6] W fun e w' => e = .returned (.bool true) ∧ ∃ n, w' = W.drewN n :=
  (keepSame_any a b c 6 [0, 2, 3, 4, 6, 7] [0, 2, 3, 4, 6, 7] W h k (by decide) (by decide)).mono fun e w' ⟨he, n, hw⟩ => ⟨he.trans (by simp), n, hw⟩
theorem swap4 {w : World} {F pb cp : Nat} {ls : List Lay} (h : w.ownsRow F 32 2 (.slice (some ⟨pb, 0, none⟩) ls.length cp) ls.length (lays ls)) (p q : Lay) (k : Nat) :
    ((((w.setCell ⟨pb, 0, none⟩ (.int .i64 q.left)).setCell ⟨pb, 1, none⟩ (.slice q.addr q.right.length q.cap)).setCell ⟨pb, k * 2, none⟩ (.int .i64 p.left)).setCell ⟨pb, k * 2 + 1, none⟩ (.slice p.addr p.right.length p.cap)).ownsRow F 32 2 (.slice (some ⟨pb, 0, none⟩) ls.length cp) ls.length (lays ((ls.set 0 q).set k p)) ∧
    w.grownBy ((((w.setCell ⟨pb, 0, none⟩ (.int .i64 q.left)).setCell ⟨pb, 1, none⟩ (.slice q.addr q.right.length q.cap)).setCell ⟨pb, k * 2, none⟩ (.int .i64 p.left)).setCell ⟨pb, k * 2 + 1, none⟩ (.slice p.addr p.right.length p.cap)) (some pb) := by
  have h1 := h.stored 0 (.int .i64 q.left)
  have h2 := h1.1.stored 1 (.slice q.addr q.right.length q.cap)
  have h3 := h2.1.stored (k * 2) (.int .i64 p.left)
  have h4 := h3.1.stored (k * 2 + 1) (.slice p.addr p.right.length p.cap)
  refine ⟨?_, gb_trans (gb_trans (gb_trans h1.2 h2.2 fun x hx => .inl hx) h3.2 fun x hx => .inl hx) h4.2 fun x hx => .inl hx⟩
  have e := h4.1
  rw [lays_set, lays_set]
  exact e
theorem swap_map {ls : List Lay} {k : Nat} {p q : Lay} (h0 : ls[0]? = some p) (hk : ls[k]? = some q) : ((ls.set 0 q).set k p).map Lay.plain = swapL (ls.map Lay.plain) k := by
  unfold swapL
  rw [List.getElem?_map, List.getElem?_map, h0, hk]
  simp only [Option.map_some]
  rw [List.map_set, List.map_set]
theorem nul7_any (g : Gr) (hv : RVals g) (v : Value) (W : World) (h : GramAt W v g) : Calls Try.prog 34 #[v] W fun e w' => e = .returned (.int .u64 7) ∧ Below W.heap.size W w' :=
  (nullable_any v g W h hv.c).mono fun e w' ⟨⟨r, he, hr⟩, hb⟩ => ⟨by rw [he, hr.uniq hv.n]; rfl, hb⟩
theorem fru23_any (g : Gr) (hv : RVals g) (v : Value) (W : World) (h : GramAt W v g) : Calls Try.prog 36 #[v] W fun e w' => e = .returned (.int .u64 23) ∧ Below W.heap.size W w' :=
  (fruitful_any v g W h hv.c).mono fun e w' ⟨⟨r, he, hr⟩, hb⟩ => ⟨by rw [he, hr.uniq hv.f]; rfl, hb⟩
theorem rea15_any (g : Gr) (hv : RVals g) (v : Value) (W : World) (h : GramAt W v g) : Calls Try.prog 37 #[v] W fun e w' => e = .returned (.int .u64 15) ∧ Below W.heap.size W w' :=
  (reached_any v g W h hv.c).mono fun e w' ⟨⟨r, he, hr⟩, hb⟩ => ⟨by rw [he, hr.uniq hv.r]; rfl, hb⟩

set_option maxRecDepth 100000 in
set_option maxHeartbeats 8000000 in
theorem reachForms_walk (turn : Int) (w : World) : Calls Try.prog 7 #[.int .i64 turn] w fun e w' => e = .returned (.bool true) ∧ Below w.heap.size w w' := by
  have HP := Lib.hid ((rparse_own ⟨#[83, 58, 32, 65, 32, 66, 32, 124, 32, 97, 32, 85, 10, 65, 58, 32, 124, 32, 97, 10, 66, 58, 32, 65, 32, 65, 10, 85, 58, 32, 85, 32, 98, 10, 86, 58, 32, 97, 32, 86, 32, 124, 32, 98, 10]⟩ w (by decide)).mono fun e w' ⟨hb, he⟩ => (⟨hb, by unfold ParseEndR at he; rw [fg0_parse] at he; exact he⟩ : Below w.heap.size w w' ∧ ∃ (F : Nat) (ts ns : List (List UInt8)) (ls : List Lay) (at_ an ap : Option Addr) (ct cn cp : Nat), e = Ending.returned (.tuple #[.agg #[.slice at_ ts.length ct, .slice an ns.length cn, .slice ap ls.length cp], .int .i64 0, .int .i64 0, .int .i64 0]) ∧ w.heap.size ≤ F ∧ Rws F w' ts ns ls at_ an ap ct cn cp ∧ (⟨ts, ns, ls.map Lay.plain⟩ : Gr) = fg0))
  go_enter Try.func7, Try.ntmps7
  go_upto_region 2 with (go_at_call 23; refine HP.out.mono ?_; rintro e w1 ⟨hb1, F, ts, ns, ls, at_, an, ap, ct, cn, cp, rfl, hF, hr, hgr⟩)
  have hts : ts.length = 2 := by have := congrArg Gr.terms hgr; simp only at this; rw [this]; rfl
  have hns : ns.length = 5 := by have := congrArg Gr.nons hgr; simp only at this; rw [this]; rfl
  have hlp : ls.map Lay.plain = fg0.prods := congrArg Gr.prods hgr
  have hls : ls.length = 8 := by have := congrArg List.length hlp; rw [List.length_map] at this; rw [this]; rfl
  have htsG : ts = fg0.terms := congrArg Gr.terms hgr
  have hnsG : ns = fg0.nons := congrArg Gr.nons hgr
  obtain ⟨pb, cpp, hpv, hpF, hpl⟩ := hr.p.form (by omega)
  simp only [Value.slice.injEq] at hpv
  obtain ⟨rfl, _, rfl⟩ := hpv
  have hbA := box_below w1 (.cells #[.slice at_ ts.length ct, .slice an ns.length cn, .slice (some ⟨pb, 0, none⟩) ls.length cp] 26)
  have qA := heap_alloc_new w1 (.cells #[.slice at_ ts.length ct, .slice an ns.length cn, .slice (some ⟨pb, 0, none⟩) ls.length cp] 26)
  have hrA := hr.below hbA
  have HBW := Lib.hid (hb1.trans (hbA.mono hb1.size))
  rw [hts, hns, hls] at qA
  have hG0 : GramAt (w1.alloc (.cells #[.slice at_ 2 ct, .slice an 5 cn, .slice (some ⟨pb, 0, none⟩) 8 cp] 26)) (.agg #[.slice at_ 2 ct, .slice an 5 cn, .slice (some ⟨pb, 0, none⟩) 8 cp]) fg0 := by
    have := hrA.gram
    rw [hgr, hts, hns, hls] at this
    exact this
  rw [hts, hns, hls] at hrA HBW
  rw [hts, hns, hls]
  have hPB : pb < (w1.alloc (.cells #[.slice at_ 2 ct, .slice an 5 cn, .slice (some ⟨pb, 0, none⟩) 8 cp] 26)).heap.size := by simp; omega
  have hpB : pb ≠ w1.heap.size := by omega
  have hwp : w.heap.size ≤ pb := by omega
  have lA := heap_lt qA
  have HRA := Lib.hid hrA
  have HG0 := Lib.hid hG0
  have HLP := Lib.hid hlp
  have HLS := Lib.hid hls
  have HTS := Lib.hid htsG
  have HNS := Lib.hid hnsG
  have HQA := Lib.hid qA
  clear hb1 hbA hF hr hgr hts hns hlp hls htsG hnsG hpF hpl hrA qA hG0 HP
  generalize hS : w1.alloc (.cells #[.slice at_ 2 ct, .slice an 5 cn, .slice (some ⟨pb, 0, none⟩) 8 cp] 26) = S at *
  clear hS
  generalize w1.heap.size = B at *
  have y0 := (blk_cell (i := 0) (u := .slice at_ 2 ct) HQA.out rfl).1
  have y1 := (blk_cell (i := 1) (u := .slice an 5 cn) HQA.out rfl).1
  have y2 := (blk_cell (i := 2) (u := .slice (some ⟨pb, 0, none⟩) 8 cp) HQA.out rfl).1
  have HD : Hid (∀ W, Below S.heap.size S W → (W.cell? ⟨B, 0, none⟩ = some (.slice at_ 2 ct) ∧ W.cell? ⟨B, 1, none⟩ = some (.slice an 5 cn) ∧ W.cell? ⟨B, 2, none⟩ = some (.slice (some ⟨pb, 0, none⟩) 8 cp)) ∧ B < W.heap.size) := Lib.hid fun W hW => ⟨⟨(hW.cell (p := ⟨B, 0, none⟩) lA).trans y0, (hW.cell (p := ⟨B, 1, none⟩) lA).trans y1, (hW.cell (p := ⟨B, 2, none⟩) lA).trans y2⟩, Nat.lt_of_lt_of_le lA hW.size⟩
  have HO1 := Lib.hid fun W => of012 W
  have HO2 := Lib.hid fun W => of0124 W
  have HO3 := Lib.hid fun W => of0123 W
  have HN := Lib.hid fun W (hW : Below S.heap.size S W) => nul7_any fg0 fg0_vals _ W (HG0.out.below hW)
  have HF := Lib.hid fun W (hW : Below S.heap.size S W) => fru23_any fg0 fg0_vals _ W (HG0.out.below hW)
  have HR := Lib.hid fun W (hW : Below S.heap.size S W) => rea15_any fg0 fg0_vals _ W (HG0.out.below hW)
  have HT := Lib.hid ((trim_one _ fg0 S HG0.out fg0_vals.c).mono fun e w' ⟨hb, SF, a, c, l, er, he, hSF, hTO, hc, _⟩ => (by
    have e1 : SF = 23 := hSF.uniq fg0_vals.f
    subst e1
    rcases hTO with ⟨_, rfl, rfl⟩ | ⟨h, _, _⟩
    · rw [fg0_trim] at he hc
      exact ⟨hb, a, c, he, hc⟩
    · exact absurd h (by decide) : Below S.heap.size S w' ∧ ∃ a c, e = Ending.returned (.tuple #[.slice a 6 c, .int .i64 0]) ∧ Cells w' a (nums [0, 2, 3, 4, 6, 7])))
  go_upto_region 5 with (go_at_call 33; refine HT.out.mono ?_; rintro e w2 ⟨hB2, ta, tc, rfl, htc⟩)
  obtain ⟨⟨e0, e1, e2⟩, e3⟩ := HD.out _ hB2
  have HTC := Lib.hid htc
  have HSM := Lib.hid fun W a (hW : Below w2.heap.size w2 W) (hc : Cells W a [.int .i64 0, .int .i64 2, .int .i64 3, .int .i64 4, .int .i64 6, .int .i64 7]) => same_lit ta a tc W (HTC.out.below hW) hc
  clear htc HT y0 y1 y2
  go_upto_region 7 with (first
    | (go_at_call 34; refine (HN.out _ hB2).mono ?_; rintro e w3 ⟨rfl, hb3⟩; have hB3 := hB2.trans (hb3.mono hB2.size); obtain ⟨⟨d30, d31, d32⟩, d33⟩ := HD.out _ hB3; have hC3 := hB3.alloc hB3.size (.cells #[.int .i64 0, .int .i64 1, .int .i64 2] 3); have hY3 := hb3.alloc hb3.size (.cells #[.int .i64 0, .int .i64 1, .int .i64 2] 3))
    | (go_at_call 36; refine (HF.out _ hC3).mono ?_; rintro e w4 ⟨rfl, hb4⟩; have hB4 := hC3.trans (hb4.mono hC3.size); obtain ⟨⟨d40, d41, d42⟩, d43⟩ := HD.out _ hB4; have hC4 := hB4.alloc hB4.size (.cells #[.int .i64 0, .int .i64 1, .int .i64 2, .int .i64 4] 3); have hX4 := hY3.trans (hb4.mono hY3.size); have hY4 := hX4.alloc hX4.size (.cells #[.int .i64 0, .int .i64 1, .int .i64 2, .int .i64 4] 3))
    | (go_at_call 37; refine (HR.out _ hC4).mono ?_; rintro e w5 ⟨rfl, hb5⟩; have hB5 := hC4.trans (hb5.mono hC4.size); have hC5 := hB5.alloc hB5.size (.cells #[.int .i64 0, .int .i64 1, .int .i64 2, .int .i64 3] 3); have hX5 := hY4.trans (hb5.mono hY4.size); have hY5 := hX5.alloc hX5.size (.cells #[.int .i64 0, .int .i64 1, .int .i64 2, .int .i64 3] 3))
    | (go_at_call 35; first
        | (with_reducible refine (HO1.out _).mono ?_; rintro e w9 ⟨rfl, rfl⟩)
        | (with_reducible refine (HO2.out _).mono ?_; rintro e w9 ⟨rfl, rfl⟩)
        | (with_reducible refine (HO3.out _).mono ?_; rintro e w9 ⟨rfl, rfl⟩))
    | (go_at_call 38; have hY6 := hY5.alloc hY5.size (.cells #[.int .i64 0, .int .i64 2, .int .i64 3, .int .i64 4, .int .i64 6, .int .i64 7] 3); have hC6 := hC5.alloc hC5.size (.cells #[.int .i64 0, .int .i64 2, .int .i64 3, .int .i64 4, .int .i64 6, .int .i64 7] 3); with_reducible refine (HSM.out _ _ hY6 (cells_new2 w5 _ _ _)).mono ?_; rintro e w6 ⟨rfl, n6, hw6⟩; have hB6 := below_drews hC6 n6; rw [← hw6] at hB6; clear hw6))
  obtain ⟨⟨f0, f1, f2⟩, f3⟩ := HD.out _ hB6
  have HB6 := Lib.hid hB6
  clear e0 e1 e2 e3 d30 d31 d32 d33 d40 d41 d42 d43 hb3 hb4 hb5 hC3 hC4 hC5 hB3 hB4 hB5 hY3 hY4 hY5 hY6 hX4 hX5 hC6 HSM HTC hB6 hB2 HN HF HR
  obtain ⟨k, hk, hk8⟩ : ∃ k : Nat, turn % 8 = k ∧ k < 8 := ⟨(turn % 8).toNat, by omega, by omega⟩
  have HW := Lib.hid fun W => (within_any turn 8 (by omega) (by omega) W).mono fun e w' ⟨he, hw⟩ => (⟨he.trans (by rw [hk]), hw⟩ : e = Ending.returned (.int .i64 k) ∧ w' = W)
  clear hk
  go_upto_region 8 with (go_at_call 15; refine (HW.out _).mono ?_; rintro e w7 ⟨rfl, hw7⟩; rw [hw7]; clear hw7)
  have hP6 := own_same HRA.out.p fun g _ hl => HB6.out.block g hl
  obtain ⟨p0, hp0⟩ : ∃ p, ls[0]? = some p := ⟨_, List.getElem?_eq_getElem (by rw [HLS.out]; omega)⟩
  obtain ⟨pk, hpk⟩ : ∃ p, ls[k]? = some p := ⟨_, List.getElem?_eq_getElem (by rw [HLS.out]; omega)⟩
  have hcell := fun j u (hj : (lays ls)[j]? = some u) => (World.ownsRow.cellAt hP6 j (by rw [← hP6.1]; exact (List.getElem?_eq_some_iff.1 hj).1)).trans hj
  have s0 := hcell _ _ (lays_at ls 0 p0 hp0).1
  have s1 := hcell _ _ (lays_at ls 0 p0 hp0).2
  have s2 := hcell _ _ (lays_at ls k pk hpk).1
  have s3 := hcell _ _ (lays_at ls k pk hpk).2
  have s4 := World.ownsRow.frozenAt hP6
  rw [Nat.zero_mul] at s0 s1
  have s5 : pb < w6.heap.size := Nat.lt_of_lt_of_le hPB HB6.out.size
  have e1 : (k : Int) < 8 := by omega
  have HP6 := Lib.hid hP6
  have HP0 := Lib.hid hp0
  have HPK := Lib.hid hpk
  clear hP6 hp0 hpk hcell HW
  obtain ⟨l0, r0, a0, c0⟩ := p0
  obtain ⟨lk, rk, ak, ck⟩ := pk
  simp only at s0 s1 s2 s3
  go_cut [3] from 62 to 77 (fun p wx => p = .pointer (some ⟨B, 0, none⟩) ∧ Hid (wx.ownsRow F 32 2 (.slice (some ⟨pb, 0, none⟩) ls.length cp) ls.length (lays ((ls.set 0 ⟨lk, rk, ak, ck⟩).set k ⟨l0, r0, a0, c0⟩))) ∧ Hid (w6.grownBy wx (some pb)))
  case first =>
    have e2 := s4 0
    have e3 := s4 1
    have e4 := s4 (k * 2)
    have e5 := s4 (k * 2 + 1)
    clear s4
    rw [Nat.zero_add] at s1
    by_cases hk0 : k = 0
    · subst hk0
      rw [Nat.zero_mul] at s2 s3 e4 e5
      rw [Nat.zero_add] at s3 e5
      obtain ⟨rfl, rfl, rfl, rfl⟩ : l0 = lk ∧ r0 = rk ∧ a0 = ak ∧ c0 = ck := by
        have := HP0.out.symm.trans HPK.out
        simp only [Option.some.injEq, Lay.mk.injEq] at this
        exact this
      clear s2 s3 e4 e5
      have HSW := Lib.hid (swap4 HP6.out ⟨l0, r0, a0, c0⟩ ⟨l0, r0, a0, c0⟩ 0)
      go_region
      all_goals
        go_wp2_with fail
        go_meet
        case rel => exact ⟨rfl, Lib.hid ⟨HSW.out.1.1, HSW.out.1.2⟩, Lib.hid ⟨HSW.out.2.os, HSW.out.2.tape, HSW.out.2.output, HSW.out.2.size, HSW.out.2.block⟩⟩
    · have n1 : k * 2 ≠ 0 := by omega
      have n2 : k * 2 ≠ 1 := by omega
      have n3 : k * 2 + 1 ≠ 0 := by omega
      have n4 : k * 2 + 1 ≠ 1 := by omega
      have HSW := Lib.hid (swap4 HP6.out ⟨l0, r0, a0, c0⟩ ⟨lk, rk, ak, ck⟩ k)
      go_region
      all_goals
        go_wp2_with fail
        go_meet
        case rel => exact ⟨rfl, Lib.hid ⟨HSW.out.1.1, HSW.out.1.2⟩, Lib.hid ⟨HSW.out.2.os, HSW.out.2.tape, HSW.out.2.output, HSW.out.2.size, HSW.out.2.block⟩⟩
  case rest =>
    obtain ⟨rfl, HOX, HGX⟩ := hcut
    rename World => wx
    have hkeep : ∀ {e size n : Nat} {v : Value} {xs : List Value}, w6.ownsRow F e size v n xs → e ≠ 32 → wx.ownsRow F e size v n xs := fun ho he => own_same ho fun g hg hl => HGX.out.block g hl fun e' => own_apart ho HP6.out he hg e'.symm
    have h6 : ∀ {e size n : Nat} {v : Value} {xs : List Value}, S.ownsRow F e size v n xs → w6.ownsRow F e size v n xs := fun ho => own_same ho fun g _ hl => HB6.out.block g hl
    have hmem : ∀ q ∈ (ls.set 0 (⟨lk, rk, ak, ck⟩ : Lay)).set k ⟨l0, r0, a0, c0⟩, q ∈ ls := fun q hq => by
      rcases List.mem_or_eq_of_mem_set hq with hq | rfl
      · rcases List.mem_or_eq_of_mem_set hq with hq | rfl
        · exact hq
        · exact List.mem_of_getElem? HPK.out
      · exact List.mem_of_getElem? HP0.out
    have hlen : ((ls.set 0 (⟨lk, rk, ak, ck⟩ : Lay)).set k ⟨l0, r0, a0, c0⟩).length = 8 := by rw [List.length_set, List.length_set, HLS.out]
    have hGK : GramAt wx (.agg #[.slice at_ 2 ct, .slice an 5 cn, .slice (some ⟨pb, 0, none⟩) 8 cp]) (fgK k) := by
      have ht := own_cells (hkeep (h6 HRA.out.t) (by decide))
      have hn := own_cells (hkeep (h6 HRA.out.n) (by decide))
      have hpc := own_cells HOX.out
      refine ⟨at_, an, some ⟨pb, 0, none⟩, ct, cn, cp, (ls.set 0 ⟨lk, rk, ak, ck⟩).set k ⟨l0, r0, a0, c0⟩, by rw [hlen]; rfl, ?_, ?_, ?_, hpc.1, fun q hq => (own_cells (hkeep (h6 (HRA.out.r q (hmem q hq))) (by decide))).1, ?_, ?_, ?_⟩
      · rw [swap_map HP0.out HPK.out, HLP.out]; rfl
      · have := ht.1; rw [HTS.out] at this; exact this
      · have := hn.1; rw [HNS.out] at this; exact this
      · have := ht.2; rw [HTS.out] at this; exact this
      · have := hn.2; rw [HNS.out] at this; exact this
      · rw [hlen]; have := hpc.2; rw [HLS.out] at this; exact this
    have hQB : wx.heap[B]? = some (.cells #[.slice at_ 2 ct, .slice an 5 cn, .slice (some ⟨pb, 0, none⟩) 8 cp] 26) := (HGX.out.block B f3 (by simp; omega)).trans ((HB6.out.block B lA).trans HQA.out)
    have hbx : Below w.heap.size w wx := (HBW.out.trans (HB6.out.mono HBW.out.size)).grown HGX.out (Nat.le_trans HBW.out.size HB6.out.size) (by intro x hx; simp at hx; omega)
    have HBX := Lib.hid hbx
    have HGK := Lib.hid hGK
    have HVK := Lib.hid (fgK_vals k hk8)
    have lB := heap_lt hQB
    have v0 := (blk_cell (i := 0) (u := .slice at_ 2 ct) hQB rfl).1
    have v1 := (blk_cell (i := 1) (u := .slice an 5 cn) hQB rfl).1
    have v2 := (blk_cell (i := 2) (u := .slice (some ⟨pb, 0, none⟩) 8 cp) hQB rfl).1
    have HD2 : Hid (∀ W, Below wx.heap.size wx W → (W.cell? ⟨B, 0, none⟩ = some (.slice at_ 2 ct) ∧ W.cell? ⟨B, 1, none⟩ = some (.slice an 5 cn) ∧ W.cell? ⟨B, 2, none⟩ = some (.slice (some ⟨pb, 0, none⟩) 8 cp)) ∧ B < W.heap.size) := Lib.hid fun W hW => ⟨⟨(hW.cell (p := ⟨B, 0, none⟩) lB).trans v0, (hW.cell (p := ⟨B, 1, none⟩) lB).trans v1, (hW.cell (p := ⟨B, 2, none⟩) lB).trans v2⟩, Nat.lt_of_lt_of_le lB hW.size⟩
    have HN := Lib.hid fun W (hW : Below wx.heap.size wx W) => nul7_any (fgK k) HVK.out _ W (HGK.out.below hW)
    have HF := Lib.hid fun W (hW : Below wx.heap.size wx W) => fru23_any (fgK k) HVK.out _ W (HGK.out.below hW)
    have HR := Lib.hid fun W (hW : Below wx.heap.size wx W) => rea15_any (fgK k) HVK.out _ W (HGK.out.below hW)
    have HPH := Lib.hid fun W => rparse_ok ⟨#[83, 58, 32, 97, 32, 83, 32, 124, 32, 84, 32, 83, 10, 84, 58, 32, 98, 10]⟩ fgH W (by decide) fgH_parse
    clear hkeep h6 hmem hlen hGK hQB hbx HGX HOX HRA HP6 HPK HP0 HB6 HD HG0 HLP HLS HTS HNS HQA f0 f1 f2 f3 s0 s1 s2 s3 s4 s5 hPB hpB HBW hk8 lA
    go_upto_region 11 with (first
    | (go_at_call 34; refine (HN.out _ (Below.refl _ _)).mono ?_; rintro e w13 ⟨rfl, hb13⟩; have hB13 := hb13; obtain ⟨⟨d130, d131, d132⟩, d133⟩ := HD2.out _ hB13; have hC13 := hB13.alloc hB13.size (.cells #[.int .i64 0, .int .i64 1, .int .i64 2] 3))
    | (go_at_call 36; refine (HF.out _ hC13).mono ?_; rintro e w14 ⟨rfl, hb14⟩; have hB14 := hC13.trans (hb14.mono hC13.size); obtain ⟨⟨d140, d141, d142⟩, d143⟩ := HD2.out _ hB14; have hC14 := hB14.alloc hB14.size (.cells #[.int .i64 0, .int .i64 1, .int .i64 2, .int .i64 4] 3))
    | (go_at_call 37; refine (HR.out _ hC14).mono ?_; rintro e w15 ⟨rfl, hb15⟩; have hB15 := hC14.trans (hb15.mono hC14.size); have hC15 := hB15.alloc hB15.size (.cells #[.int .i64 0, .int .i64 1, .int .i64 2, .int .i64 3] 3))
    | (go_at_call 35; first
        | (with_reducible refine (HO1.out _).mono ?_; rintro e w9 ⟨rfl, rfl⟩)
        | (with_reducible refine (HO2.out _).mono ?_; rintro e w9 ⟨rfl, rfl⟩)
        | (with_reducible refine (HO3.out _).mono ?_; rintro e w9 ⟨rfl, rfl⟩)))
    have HBY := Lib.hid (HBX.out.trans (hC15.mono HBX.out.size))
    clear hb13 hb14 hb15 hC13 hC14 hC15 hB13 hB14 hB15 v0 v1 v2 d130 d131 d132 d133 d140 d141 d142 d143 HN HF HR HD2 HBX
    go_upto_region 12 with (go_at_call 23; refine (HPH.out _).mono ?_; rintro e w16 ⟨vh, rfl, hb16, hgh⟩; obtain ⟨b1, b2, b3, g1, g2, g3, rfl⟩ := gram_form hgh.at_)
    have q0 := heap_alloc_new w16 (.cells #[.slice b1 fgH.terms.length g1, .slice b2 fgH.nons.length g2, .slice b3 fgH.prods.length g3] 26)
    have hgh2 := hgh.at_.below (box_below w16 (.cells #[.slice b1 fgH.terms.length g1, .slice b2 fgH.nons.length g2, .slice b3 fgH.prods.length g3] 26))
    have hbz := HBY.out.trans ((hb16.trans ((box_below w16 (.cells #[.slice b1 fgH.terms.length g1, .slice b2 fgH.nons.length g2, .slice b3 fgH.prods.length g3] 26)).mono hb16.size)).mono HBY.out.size)
    have HBZ := Lib.hid hbz
    have HGH := Lib.hid hgh2
    have HQ0 := Lib.hid q0
    have lQ := heap_lt q0
    clear q0 hgh hgh2 hbz hb16 HBY HPH
    generalize hS9 : w16.alloc (.cells #[.slice b1 fgH.terms.length g1, .slice b2 fgH.nons.length g2, .slice b3 fgH.prods.length g3] 26) = S9 at *
    clear hS9
    generalize w16.heap.size = B9 at *
    have t0 := (blk_cell (i := 0) (u := .slice b1 fgH.terms.length g1) HQ0.out rfl).1
    have t1 := (blk_cell (i := 1) (u := .slice b2 fgH.nons.length g2) HQ0.out rfl).1
    have t2 := (blk_cell (i := 2) (u := .slice b3 fgH.prods.length g3) HQ0.out rfl).1
    have HD3 : Hid (∀ W, Below S9.heap.size S9 W → (W.cell? ⟨B9, 0, none⟩ = some (.slice b1 fgH.terms.length g1) ∧ W.cell? ⟨B9, 1, none⟩ = some (.slice b2 fgH.nons.length g2) ∧ W.cell? ⟨B9, 2, none⟩ = some (.slice b3 fgH.prods.length g3)) ∧ B9 < W.heap.size) := Lib.hid fun W hW => ⟨⟨(hW.cell (p := ⟨B9, 0, none⟩) lQ).trans t0, (hW.cell (p := ⟨B9, 1, none⟩) lQ).trans t1, (hW.cell (p := ⟨B9, 2, none⟩) lQ).trans t2⟩, Nat.lt_of_lt_of_le lQ hW.size⟩
    have HTH := Lib.hid ((trim_one _ fgH S9 HGH.out fgH_check).mono fun e w' ⟨hb, SF, a, c, l, er, he, hSF, hTO, hc, _⟩ => (by
      have e1 : SF = 2 := hSF.uniq fgH_fru
      subst e1
      rcases hTO with ⟨h, _, _⟩ | ⟨_, rfl, rfl⟩
      · exact absurd h (by decide)
      · exact ⟨hb, a, c, he⟩ : Below S9.heap.size S9 w' ∧ ∃ a c, e = Ending.returned (.tuple #[.slice a 0 c, .int .i64 6])))
    have HFH := Lib.hid fun W (hW : Below S9.heap.size S9 W) => (fruitful_any _ fgH W (HGH.out.below hW) fgH_check).mono fun e w' ⟨⟨r, he, hr⟩, hb⟩ => (⟨by rw [he, hr.uniq fgH_fru]; rfl, hb⟩ : e = Ending.returned (.int .u64 2) ∧ Below W.heap.size W w')
    have HNH := Lib.hid fun W (hW : Below S9.heap.size S9 W) => (nullable_any _ fgH W (HGH.out.below hW) fgH_check).mono fun e w' ⟨⟨r, he, hr⟩, hb⟩ => (⟨by rw [he, hr.uniq fgH_nul]; rfl, hb⟩ : e = Ending.returned (.int .u64 0) ∧ Below W.heap.size W w')
    have HO4 := Lib.hid fun W => of1 W
    have HO5 := Lib.hid fun W => of_nil W
    go_upto_region 13 with (go_at_call 33; refine HTH.out.mono ?_; rintro e w17 ⟨hB17, ua, uc, rfl⟩)
    obtain ⟨⟨m0, m1, m2⟩, m3⟩ := HD3.out _ hB17
    clear t0 t1 t2 HTH
    go_wp2_with (first
      | (go_at_call 36; refine (HFH.out _ hB17).mono ?_; rintro e w18 ⟨rfl, hb18⟩; have hB18 := hB17.trans (hb18.mono hB17.size); obtain ⟨⟨j0, j1, j2⟩, j3⟩ := HD3.out _ hB18; have hC18 := hB18.alloc hB18.size (.cells #[.int .i64 1] 3))
      | (go_at_call 34; refine (HNH.out _ hC18).mono ?_; rintro e w19 ⟨rfl, hb19⟩; have hB19 := hC18.trans (hb19.mono hC18.size))
      | (go_at_call 35; first
          | (with_reducible refine (HO4.out _).mono ?_; rintro e w9 ⟨rfl, rfl⟩)
          | (with_reducible refine (HO5.out _).mono ?_; rintro e w9 ⟨rfl, rfl⟩))
      | (go_at_call 39; refine (wakes5_any _).mono ?_; rintro e w20 ⟨rfl, hb20⟩))
    go_ret
    have q1 := HBZ.out.trans (hB19.mono HBZ.out.size)
    exact ⟨rfl, q1.trans (hb20.mono q1.size)⟩

end Go.Proofs.Ytmilldclgheiaaa
