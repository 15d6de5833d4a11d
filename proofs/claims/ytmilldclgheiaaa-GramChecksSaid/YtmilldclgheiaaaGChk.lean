/- GramChecks: walked. -/
import Derived.Test.YtmilldclgheiaaaGChkF
import Derived.Deep.RegionHeld3
import Derived.Deep.Cut
import Derived.Deep.CutBlock
set_option linter.unusedVariables false
namespace Go.Proofs.Ytmilldclgheiaaa
open Go.RowKit
open Doc

theorem good0_any (w : World) : Calls Try.prog 16 #[.int .i64 0] w fun e w' => Below w.heap.size w w' ∧ ∃ (at_ an ap : Option Addr) (ct cn cp : Nat), e = .returned (.agg #[.slice at_ 1 ct, .slice an 1 cn, .slice ap 1 cp]) ∧ GramAt w' (.agg #[.slice at_ 1 ct, .slice an 1 cn, .slice ap 1 cp]) g0G := by
  refine (good_any 0 w).mono ?_
  rintro e w' ⟨hb, ts, ns, ls, at_, an, ap, ct, cn, cp, rfl, hr, hp⟩
  rw [show textsL.getD ((0 : Int) % 17).toNat [] = textsL.getD 0 [] from rfl, g0_parse] at hp
  have hgr : g0G = ⟨ts, ns, ls.map Lay.plain⟩ := by injection hp
  have hG := hr.gram
  rw [← hgr] at hG
  have h1 : ts.length = 1 := by have := congrArg Gr.terms hgr; simp only at this; rw [← this]; rfl
  have h2 : ns.length = 1 := by have := congrArg Gr.nons hgr; simp only at this; rw [← this]; rfl
  have h3 : ls.length = 1 := by have := congrArg (fun g => g.prods.length) hgr; simp only [List.length_map] at this; rw [← this]; rfl
  rw [h1, h2, h3] at hG ⊢
  exact ⟨hb, at_, an, ap, ct, cn, cp, rfl, hG⟩

theorem good5_any (w : World) : Calls Try.prog 16 #[.int .i64 5] w fun e w' => Below w.heap.size w w' ∧ ∃ (bt bn bp ct cn cp : Nat) (ls : List Lay), e = .returned (.agg #[.slice (some ⟨bt, 0, none⟩) 5 ct, .slice (some ⟨bn, 0, none⟩) 3 cn, .slice (some ⟨bp, 0, none⟩) 6 cp]) ∧
    ∀ W B, Below w'.heap.size w' W → W.heap[B]? = some (.cells #[.slice (some ⟨bt, 0, none⟩) 5 ct, .slice (some ⟨bn, 0, none⟩) 3 cn, .slice (some ⟨bp, 0, none⟩) 6 cp] 26) → Own5 w.heap.size B W bt bn bp ct cn cp ls := by
  refine (good_any 5 w).mono ?_
  rintro e w' ⟨hb, ts, ns, ls, at_, an, ap, ct, cn, cp, rfl, hr, hp⟩
  rw [show textsL.getD ((5 : Int) % 17).toNat [] = textsL.getD 5 [] from rfl, g5_parse] at hp
  have hgr : g5 = ⟨ts, ns, ls.map Lay.plain⟩ := by injection hp
  have htg : ts = g5.terms := (congrArg Gr.terms hgr).symm
  have hng : ns = g5.nons := (congrArg Gr.nons hgr).symm
  have hpg : ls.map Lay.plain = g5.prods := (congrArg Gr.prods hgr).symm
  have h1 : ts.length = 5 := by rw [htg]; rfl
  have h2 : ns.length = 3 := by rw [hng]; rfl
  have h3 : ls.length = 6 := by have := congrArg List.length hpg; rw [List.length_map] at this; exact this
  obtain ⟨bt, c1, hv1, _, _⟩ := hr.t.form (by omega)
  obtain ⟨bn, c2, hv2, _, _⟩ := hr.n.form (by omega)
  obtain ⟨bp, c3, hv3, _, _⟩ := hr.p.form (by omega)
  simp only [Value.slice.injEq] at hv1 hv2 hv3
  obtain ⟨rfl, _, rfl⟩ := hv1
  obtain ⟨rfl, _, rfl⟩ := hv2
  obtain ⟨rfl, _, rfl⟩ := hv3
  refine ⟨hb, bt, bn, bp, ct, cn, cp, ls, by rw [h1, h2, h3], fun W B hW hq => ?_⟩
  have hrw := hr.below hW
  have kt := hrw.t
  have kn := hrw.n
  have kp := hrw.p
  rw [h1, htg] at kt
  rw [h2, hng] at kn
  rw [h3] at kp
  exact ⟨hq, kt, kn, kp, hpg, hrw.r, hr.d _ _ rfl rfl⟩

set_option maxRecDepth 100000 in
set_option maxHeartbeats 8000000 in
theorem gramChecks_walk (n : Int) (w : World) : Calls Try.prog 3 #[.int .i64 n] w fun e w' => e = .returned (.bool true) ∧ Below w.heap.size w w' := by
  obtain ⟨d, hd, hdl⟩ : ∃ d : Nat, n % 17 = d ∧ d < 17 := ⟨(n % 17).toNat, by omega, by omega⟩
  have HW := Lib.hid fun W => (within_any n 17 (by omega) (by omega) W).mono fun e w' ⟨he, hw⟩ => (⟨he.trans (by rw [hd]), hw⟩ : e = Ending.returned (.int .i64 d) ∧ w' = W)
  have HG0 := Lib.hid fun W => good0_any W
  have HG5 := Lib.hid fun W => good5_any W
  clear hd
  obtain ⟨i0, hi0, hz0, hz1, hz2⟩ := info_of infoS
  go_enter Try.func3, Try.ntmps3
  go_upto_region 3 with (first
    | (go_at_call 15; refine (HW.out _).mono ?_; rintro e w3 ⟨rfl, hw3⟩; rw [hw3]; clear hw3)
    | (go_at_call 16; refine (HG0.out _).mono ?_; rintro e w1 ⟨hb1, at_, an, ap, ct, cn, cp, rfl, hg1⟩))
  have hbA := box_below w1 (.cells #[.slice at_ 1 ct, .slice an 1 cn, .slice ap 1 cp] 26)
  have q0 := heap_alloc_new w1 (.cells #[.slice at_ 1 ct, .slice an 1 cn, .slice ap 1 cp] 26)
  have HC := Lib.hid (check_calls _ g0G _ (hg1.below hbA) g0_check)
  have HB1 := Lib.hid (hb1.trans (hbA.mono hb1.size))
  have k0 := (blk_cell (i := 0) (u := .slice at_ 1 ct) q0 rfl).1
  have k1 := (blk_cell (i := 1) (u := .slice an 1 cn) q0 rfl).1
  have k2 := (blk_cell (i := 2) (u := .slice ap 1 cp) q0 rfl).1
  have l0 := heap_lt q0
  clear hb1 hg1 hbA q0 HG0 HW
  generalize w1.alloc (.cells #[.slice at_ 1 ct, .slice an 1 cn, .slice ap 1 cp] 26) = S at *
  generalize w1.heap.size = B1 at *
  go_wp2_with (go_at_call 17; refine HC.out.mono ?_; rintro e w2 ⟨rfl, hb2⟩)
  have HB2 := Lib.hid (HB1.out.trans (hb2.mono HB1.out.size))
  clear k0 k1 k2 l0 hb2 HB1 HC
  go_loopw [4] (fun i wr => ∃ k : Nat, k ≤ 16 ∧ i = .int .i64 k ∧ Hid (Below w.heap.size w wr)) (fun i _ => 16 - (intOf i).toNat)
  case atStart => exact ⟨0, by omega, rfl, HB2⟩
  case round =>
    obtain ⟨k, hk, rfl, HB⟩ := hrel
    clear HB2
    by_cases hlt : k < 16
    · as_aux_lemma =>
      have e1 : (k : Int) < 16 := by omega
      go_upto_region 9 with (go_at_call 16; refine (HG5.out _).mono ?_; rintro e w5 ⟨hb5, bt, bn, bp, ct, cn, cp, ls, rfl, hO5⟩)
      have hbA := box_below w5 (.cells #[.slice (some ⟨bt, 0, none⟩) 5 ct, .slice (some ⟨bn, 0, none⟩) 3 cn, .slice (some ⟨bp, 0, none⟩) 6 cp] 26)
      have hO := hO5 _ _ hbA (heap_alloc_new w5 (.cells #[.slice (some ⟨bt, 0, none⟩) 5 ct, .slice (some ⟨bn, 0, none⟩) 3 cn, .slice (some ⟨bp, 0, none⟩) 6 cp] 26))
      have HB5 := Lib.hid (HB.out.trans ((hb5.trans (hbA.mono hb5.size)).mono HB.out.size))
      have hsz := HB.out.size
      have hsz5 := hb5.size
      clear hbA hb5 hO5 HG5
      generalize w5.alloc (.cells #[.slice (some ⟨bt, 0, none⟩) 5 ct, .slice (some ⟨bn, 0, none⟩) 3 cn, .slice (some ⟨bp, 0, none⟩) 6 cp] 26) = S5 at *
      generalize w5.heap.size = B at *
      have HO := Lib.hid hO
      have f0 := (blk_cell (i := 0) (u := .slice (some ⟨bt, 0, none⟩) 5 ct) hO.q rfl)
      have f1 := (blk_cell (i := 1) (u := .slice (some ⟨bn, 0, none⟩) 3 cn) hO.q rfl)
      have f2 := (blk_cell (i := 2) (u := .slice (some ⟨bp, 0, none⟩) 6 cp) hO.q rfl)
      have lB := heap_lt hO.q
      clear hO
      go_upto_block 2 with fail
      go_cut [0, 4, 5] from 14 to 147 (fun p0 p4 p5 wx => p0 = .int .i64 d ∧ p4 = .int .i64 k ∧ p5 = .pointer (some ⟨B, 0, none⟩) ∧ Hid (HasG B wx (badG d k)) ∧ Hid (Below w.heap.size w wx))
      case first =>
        rcases (show k = 0 ∨ k = 1 ∨ k = 2 ∨ k = 3 ∨ k = 4 ∨ k = 5 ∨ k = 6 ∨ k = 7 ∨ k = 8 ∨ k = 9 ∨ k = 10 ∨ k = 11 ∨ k = 12 ∨ k = 13 ∨ k = 14 ∨ k = 15 by omega) with rfl | rfl | rfl | rfl | rfl | rfl | rfl | rfl | rfl | rfl | rfl | rfl | rfl | rfl | rfl | rfl
        · go_wp2_with fail
          go_meet
          case rel => exact ⟨rfl, rfl, rfl, Lib.hid ((HO.out.emptied d).1), Lib.hid (HB5.out.setCell (p := ⟨B, 0, none⟩) (by omega : w.heap.size ≤ B) _)⟩
        · go_wp2_with fail
          go_meet
          case rel => exact ⟨rfl, rfl, rfl, Lib.hid ((HO.out.emptied d).2.1), Lib.hid (HB5.out.setCell (p := ⟨B, 1, none⟩) (by omega : w.heap.size ≤ B) _)⟩
        · go_wp2_with fail
          go_meet
          case rel => exact ⟨rfl, rfl, rfl, Lib.hid ((HO.out.emptied d).2.2), Lib.hid (HB5.out.setCell (p := ⟨B, 2, none⟩) (by omega : w.heap.size ≤ B) _)⟩
        · obtain ⟨u, hu⟩ := HO.out.someT (d % 5) (by omega)
          have hz := World.ownsRow.frozenAt HO.out.t (d % 5)
          go_wp2_with fail
          go_meet
          case rel => exact ⟨rfl, rfl, rfl, Lib.hid (HO.out.term (d % 5) [65]), Lib.hid (HB5.out.setCell (p := ⟨bt, d % 5, none⟩) (by have := HO.out.low; show _ ≤ bt; omega) _)⟩
        · obtain ⟨u, hu⟩ := HO.out.someN (d % 3) (by omega)
          have hz := World.ownsRow.frozenAt HO.out.n (d % 3)
          go_wp2_with fail
          go_meet
          case rel => exact ⟨rfl, rfl, rfl, Lib.hid (HO.out.non (d % 3) [97]), Lib.hid (HB5.out.setCell (p := ⟨bn, d % 3, none⟩) (by have := HO.out.low; show _ ≤ bn; omega) _)⟩
        · have hu : S5.cell? ⟨bt, 1, none⟩ = some (.string ⟨#[109]⟩) := HO.out.cellT 1 (by decide)
          have hv : S5.cell? ⟨bt, 0, none⟩ = some (.string ⟨#[112]⟩) := HO.out.cellT 0 (by decide)
          have hz := World.ownsRow.frozenAt HO.out.t 0
          go_wp2_with fail
          go_region
          all_goals
            go_wp2_with fail
            go_meet
            case rel => exact ⟨rfl, rfl, rfl, Lib.hid ((HO.out.below (Below.refl _ _).drew).term 0 [109]), Lib.hid (HB5.out.drew.setCell (p := ⟨bt, 0, none⟩) (by have := HO.out.low; show _ ≤ bt; omega) _)⟩
        · have hu : S5.cell? ⟨bn, 0, none⟩ = some (.string ⟨#[69]⟩) := HO.out.cellN 0 (by decide)
          have hv : S5.cell? ⟨bn, 2, none⟩ = some (.string ⟨#[70]⟩) := HO.out.cellN 2 (by decide)
          have hz := World.ownsRow.frozenAt HO.out.n 2
          go_wp2_with fail
          go_region
          all_goals
            go_wp2_with fail
            go_meet
            case rel => exact ⟨rfl, rfl, rfl, Lib.hid ((HO.out.below (Below.refl _ _).drew).non 2 [69]), Lib.hid (HB5.out.drew.setCell (p := ⟨bn, 2, none⟩) (by have := HO.out.low; show _ ≤ bn; omega) _)⟩
        · have hv : S5.cell? ⟨bt, 1, none⟩ = some (.string ⟨#[109]⟩) := HO.out.cellT 1 (by decide)
          have hz := World.ownsRow.frozenAt HO.out.t 1
          go_wp2_with fail
          go_meet
          case rel => exact ⟨rfl, rfl, rfl, Lib.hid (HO.out.term 1 [97, 98, 99, 100, 101, 102, 103, 104, 105]), Lib.hid (HB5.out.setCell (p := ⟨bt, 1, none⟩) (by have := HO.out.low; show _ ≤ bt; omega) _)⟩
        · obtain ⟨q, hq, hu, _⟩ := HO.out.cellL (d % 6) (by omega)
          have hz := World.ownsRow.frozenAt HO.out.p (d % 6 * 2)
          go_wp2_with fail
          go_meet
          case rel => exact ⟨rfl, rfl, rfl, Lib.hid (HO.out.left (d % 6) (by omega) 1), Lib.hid (HB5.out.setCell (p := ⟨bp, d % 6 * 2, none⟩) (by have := HO.out.low; show _ ≤ bp; omega) _)⟩
        · obtain ⟨q, hq, hu, _⟩ := HO.out.cellL (d % 6) (by omega)
          have hz := World.ownsRow.frozenAt HO.out.p (d % 6 * 2)
          go_wp2_with fail
          go_meet
          case rel => exact ⟨rfl, rfl, rfl, Lib.hid (HO.out.left (d % 6) (by omega) 103), Lib.hid (HB5.out.setCell (p := ⟨bp, d % 6 * 2, none⟩) (by have := HO.out.low; show _ ≤ bp; omega) _)⟩
        · obtain ⟨q, hq, _, hu⟩ := HO.out.cellL 0 (by decide)
          have hz := World.ownsRow.frozenAt HO.out.p (0 * 2 + 1)
          have hmk := fun W => make7 W
          have hl := HO.out.low
          go_wp2_with fail
          go_region
          all_goals
            go_wp2_with fail
            go_meet
            case rel => exact ⟨rfl, rfl, rfl, Lib.hid ((HO.out.below (Below.refl _ _).drew).right_new 0 (by decide) #[.int .i64 0, .int .i64 0, .int .i64 0, .int .i64 0, .int .i64 0, .int .i64 0, .int .i64 0] [0, 0, 0, 0, 0, 0, 0] rfl 7 rfl), Lib.hid ((HB5.out.drew.setCell (p := ⟨bp, 1, none⟩) (by show _ ≤ bp; omega) _).alloc (by simp; exact HB5.out.size) _)⟩
        · obtain ⟨q, hq, _, hu⟩ := HO.out.cellL 0 (by decide)
          have hz := World.ownsRow.frozenAt HO.out.p (0 * 2 + 1)
          have hl := HO.out.low
          go_wp2_with fail
          go_meet
          case rel => exact ⟨rfl, rfl, rfl, Lib.hid (HO.out.right_new 0 (by decide) #[.int .i64 0] [0] rfl 1 rfl), Lib.hid ((HB5.out.setCell (p := ⟨bp, 1, none⟩) (by show _ ≤ bp; omega) _).alloc (by simp; exact HB5.out.size) _)⟩
        · obtain ⟨q, hq, _, hu⟩ := HO.out.cellL 0 (by decide)
          have hz := World.ownsRow.frozenAt HO.out.p (0 * 2 + 1)
          have hl := HO.out.low
          go_wp2_with fail
          go_meet
          case rel => exact ⟨rfl, rfl, rfl, Lib.hid (HO.out.right_new 0 (by decide) #[.int .i64 6] [6] rfl 1 rfl), Lib.hid ((HB5.out.setCell (p := ⟨bp, 1, none⟩) (by show _ ≤ bp; omega) _).alloc (by simp; exact HB5.out.size) _)⟩
        · obtain ⟨q, hq, _, hu⟩ := HO.out.cellL 0 (by decide)
          have hz := World.ownsRow.frozenAt HO.out.p (0 * 2 + 1)
          have hl := HO.out.low
          go_wp2_with fail
          go_meet
          case rel => exact ⟨rfl, rfl, rfl, Lib.hid (HO.out.right_new 0 (by decide) #[.int .i64 103] [103] rfl 1 rfl), Lib.hid ((HB5.out.setCell (p := ⟨bp, 1, none⟩) (by show _ ≤ bp; omega) _).alloc (by simp; exact HB5.out.size) _)⟩
        · obtain ⟨q, hq, _, hu⟩ := HO.out.cellL 0 (by decide)
          obtain ⟨q1, hq1, _, hu1⟩ := HO.out.cellL 1 (by decide)
          have hz := World.ownsRow.frozenAt HO.out.p (1 * 2 + 1)
          have hl := HO.out.low
          go_wp2_with fail
          go_region
          all_goals
            go_wp2_with fail
            go_meet
            case rel => exact ⟨rfl, rfl, rfl, Lib.hid ((HO.out.below (Below.refl _ _).drew).right_old hq), Lib.hid (HB5.out.drew.setCell (p := ⟨bp, 3, none⟩) (by show _ ≤ bp; omega) _)⟩
        · have hl := HO.out.low
          have hk1 := (own_cells HO.out.n).2
          have HOA := Lib.hid (HO.out.below ((Below.refl _ _).alloc (Nat.le_refl _) (.cells #[.string ⟨#[90]⟩] 9)))
          have HBA := Lib.hid (HB5.out.alloc HB5.out.size (.cells #[.string ⟨#[90]⟩] 9))
          have hneB : bn ≠ B := fun e => HO.out.apart HO.out.n (by decide) (by rw [e]; rfl)
          go_wp2_with (at_builtin; refine wpList_append_lies _ rfl (.tmp 124) (.tmp 125) 23 rfl wr.heap.size 9 i0 (.string ⟨#[]⟩) 1 16 Try.underlying23 hi0 hz0 hz1 hz2 rfl (by decide) _ 3 (strs g5.nons) rfl HOA.out.n ⟨S5.heap.size, 0, none⟩ 1 1 [.string ⟨#[90]⟩] rfl rfl (World.news_of_block (cs := #[.string ⟨#[90]⟩]) (t := 9) (fr := (0, 0)) (heap_alloc_new S5 _)) (by simp [Value.oneCell']) (by decide) (by unfold maxLen; omega) (by omega) (by simp; omega) S5.heap.size.succ (by simp) ?_; intro gg cap4 w4 hown4 hgrow4' hat4 hlt4; have hgrow4 : (S5.alloc (.cells #[.string ⟨#[90]⟩] 9)).grownBy w4 (some bn) := hgrow4'; clear hgrow4'; obtain ⟨r1, r2⟩ := blk_cell (w := w4) (i := 1) (u := .slice (some ⟨bn, 0, none⟩) 3 cn) ((hgrow4.block B (heap_lt HOA.out.q) (fun e => hneB (by cases e; rfl))).trans HOA.out.q) (by rfl))
          go_meet
          case rel => exact ⟨rfl, rfl, rfl, Lib.hid (HOA.out.more hown4 hgrow4), Lib.hid ((HBA.out.grown hgrow4 HBA.out.size (fun x hx => by have : bn = x := Option.some.inj hx; omega)).setCell (p := ⟨B, 1, none⟩) (by show _ ≤ B; omega) _)⟩
      case rest =>
        obtain ⟨rfl, rfl, rfl, HH, HBX⟩ := hcut
        rename World => wx
        clear HO HB5 HB f0 f1 f2 lB
        obtain ⟨xt, xn, xp, kt, kn, kp, hq, hg⟩ := HH.out
        clear HH
        have hno := bad_print hdl hlt hg
        have HP := Lib.hid hno
        have HCK := Lib.hid fun W (hW : Below wx.heap.size wx W) => bad_check hdl hlt (hg.below hW)
        have HRC := Lib.hid fun W (hW : Below wx.heap.size wx W) => bad_rcheck hdl hlt (hg.below hW)
        have lX := heap_lt hq
        generalize (badG d k).terms.length = m1 at *
        generalize (badG d k).nons.length = m2 at *
        generalize (badG d k).prods.length = m3 at *
        have v0 := (blk_cell (i := 0) (u := .slice xt m1 kt) hq rfl).1
        have v1 := (blk_cell (i := 1) (u := .slice xn m2 kn) hq rfl).1
        have v2 := (blk_cell (i := 2) (u := .slice xp m3 kp) hq rfl).1
        have HD : Hid (∀ W, Below wx.heap.size wx W → (W.cell? ⟨B, 0, none⟩ = some (.slice xt m1 kt) ∧ W.cell? ⟨B, 1, none⟩ = some (.slice xn m2 kn) ∧ W.cell? ⟨B, 2, none⟩ = some (.slice xp m3 kp)) ∧ B < W.heap.size) := Lib.hid fun W hW => ⟨⟨(hW.cell (p := ⟨B, 0, none⟩) lX).trans v0, (hW.cell (p := ⟨B, 1, none⟩) lX).trans v1, (hW.cell (p := ⟨B, 2, none⟩) lX).trans v2⟩, Nat.lt_of_lt_of_le lX hW.size⟩
        clear hno hg hq
        go_upto_region 43 with (go_at_call 18; refine HP.out.mono ?_; rintro e w12 ⟨rfl, hB12⟩; obtain ⟨⟨d120, d121, d122⟩, d123⟩ := HD.out _ hB12)
        clear HP v0 v1 v2 lX
        go_wp2_with (first
          | (go_at_call 17; refine (HCK.out _ hB12).mono ?_; rintro e w13 ⟨rfl, hb13⟩; have hB13 := hB12.trans (hb13.mono hB12.size); obtain ⟨⟨d130, d131, d132⟩, d133⟩ := HD.out _ hB13)
          | (go_at_call 19; refine (HRC.out _ hB13).mono ?_; rintro e w14 ⟨rfl, hb14⟩; have hB14 := hB13.trans (hb14.mono hB13.size)))
        exact ⟨⟨k + 1, by omega, by go_num, Lib.hid (HBX.out.trans (hB14.mono HBX.out.size))⟩, by simp [intOf]; omega⟩
    · as_aux_lemma =>
      obtain rfl : k = 16 := by omega
      go_wp2_with (go_at_call 20; refine (wakes_any _).mono ?_; rintro e w9 ⟨rfl, hb9⟩)
      go_ret
      exact ⟨rfl, HB.out.trans (hb9.mono HB.out.size)⟩

end Go.Proofs.Ytmilldclgheiaaa
