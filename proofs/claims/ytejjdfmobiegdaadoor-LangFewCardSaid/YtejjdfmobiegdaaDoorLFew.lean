/- LangFew, walked. -/
import Derived.Test.YtejjdfmobiegdaaDoorTrkW4
import Derived.Test.YtejjdfmobiegdaaDoorPlayF
import Derived.ArgAppend
import Derived.Deep.RegionLaw
import Derived.Test.YtejjdfmobiegdaaDoorRLess
set_option linter.unusedVariables false
namespace Go.Proofs.YtejjdfmobiegdaaDoor
open Go.RowKit
open Doc

/-- The words of a grammar, up to a length. -/
noncomputable def wordsG (g : Gr) (n : Nat) : List (List Int) := (Al.levs g.terms.length n).filter (hasD g)
theorem wordsG_succ (g : Gr) (n : Nat) : wordsG g (n + 1) = wordsG g n ++ (Al.lev g.terms.length (n + 1)).filter (hasD g) := by
  unfold wordsG
  rw [show Al.levs g.terms.length (n + 1) = Al.levs g.terms.length n ++ Al.lev g.terms.length (n + 1) from rfl, List.filter_append]
theorem wordsG_at {g : Gr} {n : Nat} {u : List Int} (h : u ∈ wordsG g n) : u.length ≤ n ∧ (∀ s ∈ u, 1 ≤ s ∧ s ≤ (g.terms.length : Int)) ∧ hasD g u = true := by
  unfold wordsG at h
  rw [List.mem_filter, Al.levs_word] at h
  exact ⟨h.1.1, h.1.2, h.2⟩
theorem wordsG_next {g : Gr} {n k q : Nat} {a b : List Int} (ha : ((wordsG g n).take k)[q]? = some a) (hb : ((wordsG g n).take k)[q + 1]? = some b) : Wd.lessI a b = true := by
  have hp : ((wordsG g n).take k).Pairwise (fun a b => Wd.lessI a b = true) := ((Al.levs_less g.terms.length n).filter _).sublist (List.take_sublist _ _)
  obtain ⟨h1, e1⟩ := List.getElem?_eq_some_iff.1 ha
  obtain ⟨h2, e2⟩ := List.getElem?_eq_some_iff.1 hb
  have := List.pairwise_iff_getElem.1 hp q (q + 1) h1 h2 (by omega)
  rwa [e1, e2] at this
theorem wordsG_few {g : Gr} {n k most m : Nat} {u : List Int} (hm : most ≤ k) (h : ((wordsG g n).take k)[m]? = some u) (hl : m < ((wordsG g n).take most).length) : ((wordsG g n).take most)[m]? = some u := by
  rw [List.length_take] at hl
  rw [List.getElem?_take] at h ⊢
  rw [if_pos (by omega)]
  split at h
  · exact h
  · cases h
theorem wordsG_short {g : Gr} {n k m : Nat} {u : List Int} (h : ((wordsG g n).take k)[m]? = some u) (hl : m < ((wordsG g (n - 1)).take k).length) : ((wordsG g (n - 1)).take k)[m]? = some u := by
  cases n with
  | zero => exact h
  | succ n =>
    rw [Nat.add_sub_cancel] at hl ⊢
    rw [List.length_take] at hl
    rw [wordsG_succ, List.getElem?_take] at h
    rw [List.getElem?_take, if_pos (by omega)]
    split at h
    · rw [List.getElem?_append_left (by omega)] at h; exact h
    · cases h
theorem wordsG_long {g : Gr} {n k m : Nat} {u : List Int} (h : ((wordsG g n).take k)[m]? = some u) (hl : ¬ m < ((wordsG g (n - 1)).take k).length) : n ≤ u.length := by
  cases n with
  | zero => omega
  | succ n =>
    rw [Nat.add_sub_cancel] at hl
    rw [List.length_take] at hl
    rw [wordsG_succ, List.getElem?_take] at h
    split at h
    · rw [List.getElem?_append_right (by omega)] at h
      have := (List.mem_filter.1 (List.mem_of_getElem? h)).1
      rw [Al.lev_word] at this
      omega
    · cases h
theorem wordsG_lens (g : Gr) (n most k : Nat) (hm : most ≤ k) : ((wordsG g n).take most).length = min most ((wordsG g n).take k).length ∧ ((wordsG g (n - 1)).take k).length ≤ ((wordsG g n).take k).length := by
  constructor
  · rw [List.length_take, List.length_take]; omega
  · cases n with
    | zero => exact Nat.le_refl _
    | succ n =>
      rw [Nat.add_sub_cancel, wordsG_succ, List.length_take, List.length_take, List.length_append]; omega
theorem rows_at {R : List RowL} {X : List (List Int)} (h : R.map (·.row) = X) {m : Nat} {u : List Int} (hu : X[m]? = some u) : ∃ r, R[m]? = some r ∧ r.row = u := by
  rw [← h, List.getElem?_map] at hu
  obtain ⟨r, hr, e⟩ := Option.map_eq_some_iff.1 hu
  exact ⟨r, hr, e⟩
theorem rows_len {R : List RowL} {X : List (List Int)} (h : R.map (·.row) = X) : R.length = X.length := by rw [← h, List.length_map]
/-- A row's cell, in whatever later world. -/
theorem RowsG.at {w : World} {base cap : Nat} {a : Option Addr} {R : List RowL} (h : RowsG w base a cap R) {m : Nat} {r : RowL} (hr : R[m]? = some r) : ∃ b o, a = some ⟨b, o, none⟩ ∧ ∀ W, Below w.heap.size w W → (∀ j q, R[j]? = some q → W.cell? ⟨b, o + j, none⟩ = some (.slice q.addr q.row.length q.cap)) := by
  obtain ⟨b, o, he, hb, hc⟩ := (own_cells h.own).1.get (by intro e; have := rowVs_at hr; rw [e] at this; simp at this)
  refine ⟨b, o, he, fun W hW j q hq => ?_⟩
  rw [hW.cell hb]
  exact hc j _ (rowVs_at hq)

open Lean Elab Tactic in
/-- A goal that is still a list of operations is no return: without this, go_back tries its laws there, and each runs the rest by whnf. -/
elab "few_no_list" : tactic => withMainContext do
  let t := (← instantiateMVars (← getMainTarget)).consumeMData
  if t.isAppOf ``wpList then throwError "a list of operations"
@[no_fallback] local macro_rules | `(tactic| go_back) => `(tactic| (few_no_list; (first | go_ret | go_ret2); simp only []; go_at_K))

set_option maxRecDepth 100000 in
set_option maxHeartbeats 100000000 in
theorem langFew_walk (x : RawX) (len mst : Int) (w : World) (hx : RawAt w x) (hT : Tab32 w) :
    Calls Tryd.prog 4 #[x.v, .int .i64 len, .int .i64 mst] w fun e w' => e = .returned (.bool true) ∧ Below w.heap.size w w' := by
  have hck : CheckG x.any := anyF_check x.terms x.nons x.plain
  have hAN := Lib.hid (fun W h => any_gram x W h)
  have HCK := Lib.hid hck
  generalize hgg : x.any = g at *
  have HX := Lib.hid hx
  have HTT := Lib.hid hT
  clear hx hck hgg hT
  obtain ⟨xp, xt, xn, xh, rows, xa, xc, word⟩ := x
  unfold RawX.v at *
  simp only at *
  have hb0 : Below w.heap.size w (w.alloc (.cells #[.int .i64 xp, .int .i64 xt, .int .i64 xn, .int .i64 xh, .slice xa rows.length xc, .string word] 24)) := (Below.refl _ _).alloc (Nat.le_refl _) _
  have HA1 := Lib.hid (hAN.out _ (HX.out.below hb0))
  have HB0 := Lib.hid hb0
  obtain ⟨n, hn, hnl⟩ : ∃ v : Nat, len % 5 = v ∧ v < 5 := ⟨(len % 5).toNat, by omega, by omega⟩
  obtain ⟨most, hm, hml⟩ : ∃ v : Nat, mst % 40 = v ∧ v < 40 := ⟨(mst % 40).toNat, by omega, by omega⟩
  have HW1 := Lib.hid fun W => (within_any len 5 (by omega) (by omega) W).mono fun e w' h => (⟨h.1.trans (by rw [hn]), h.2⟩ : e = Ending.returned (.int .i64 n) ∧ w' = W)
  have HW2 := Lib.hid fun W => (within_any mst 40 (by omega) (by omega) W).mono fun e w' h => (⟨h.1.trans (by rw [hm]), h.2⟩ : e = Ending.returned (.int .i64 most) ∧ w' = W)
  clear hAN hb0 hn hm
  go_enter Tryd.func4, Tryd.ntmps4
  go_upto_region 2 with (go_at_call 23; refine HA1.out.mono ?_; rintro e w1 ⟨hb1, at_, an, ap, ct, cn, cp, ls, rfl, hg1, hls, hc1, hr1⟩)
  have hll : ls.length = g.prods.length := by rw [← hls, List.length_map]
  rw [hll] at hg1 ⊢
  have hbA := (HB0.out.trans (hb1.mono HB0.out.size)).alloc (Nat.le_trans HB0.out.size hb1.size) (.cells #[.slice at_ g.terms.length ct, .slice an g.nons.length cn, .slice ap g.prods.length cp] 29)
  have hbS : Below w1.heap.size w1 (w1.alloc (.cells #[.slice at_ g.terms.length ct, .slice an g.nons.length cn, .slice ap g.prods.length cp] 29)) := (Below.refl _ _).alloc (Nat.le_refl _) _
  have q0 := heap_alloc_new w1 (.cells #[.slice at_ g.terms.length ct, .slice an g.nons.length cn, .slice ap g.prods.length cp] 29)
  have HG := Lib.hid (hg1.below hbS)
  have HBA := Lib.hid hbA
  have HQ0 := Lib.hid q0
  clear hb1 hg1 hls hc1 hr1 hbA hbS q0 HA1 HX HB0 hll
  generalize w1.alloc (.cells #[.slice at_ g.terms.length ct, .slice an g.nons.length cn, .slice ap g.prods.length cp] 29) = S at *
  generalize w1.heap.size = B1 at *
  have hl1 : B1 < S.heap.size := heap_lt HQ0.out
  have HCX := Lib.hid fun (W : World) (hW : Below S.heap.size S W) => (⟨(blk_cell (i := 0) ((hW.block B1 hl1).trans HQ0.out) rfl).1, (blk_cell (i := 1) ((hW.block B1 hl1).trans HQ0.out) rfl).1, (blk_cell (i := 2) ((hW.block B1 hl1).trans HQ0.out) rfl).1, heap_lt ((hW.block B1 hl1).trans HQ0.out)⟩ : W.cell? ⟨B1, 0, none⟩ = some (.slice at_ g.terms.length ct) ∧ W.cell? ⟨B1, 1, none⟩ = some (.slice an g.nons.length cn) ∧ W.cell? ⟨B1, 2, none⟩ = some (.slice ap g.prods.length cp) ∧ B1 < W.heap.size)
  have HWD := Lib.hid fun (n most : Nat) (hn : n ≤ 6) (hm : most ≤ 500) (W : World) (hW : Below S.heap.size S W) => lwords_any _ g n most W (HG.out.below hW) HCK.out hn hm (HTT.out.below (HBA.out.trans (hW.mono HBA.out.size)))
  obtain ⟨x0, x1, x2, x3⟩ := HCX.out S (Below.refl _ _)
  have HD1 := Lib.hid (HWD.out n 500 (by omega) (by omega) S (Below.refl _ _))
  go_upto_region 4 with (first
    | (go_at_call 12; (with_reducible refine (HW1.out _).mono ?_); rintro e w9 ⟨rfl, hw9⟩; obtain rfl := hw9.symm)
    | (go_at_call 12; (with_reducible refine (HW2.out _).mono ?_); rintro e w9 ⟨rfl, hw9⟩; obtain rfl := hw9.symm)
    | (go_at_call 13; refine HD1.out.mono ?_; rintro e w2 ⟨hb2, aa, ac, A, rfl, hA, ba1, hba1, hGA⟩))
  have HB2 := Lib.hid hb2
  have HA := Lib.hid (show A.map (·.row) = (wordsG g n).take 500 from hA)
  have HGA := Lib.hid hGA
  obtain ⟨y0, y1, y2, y3⟩ := HCX.out w2 hb2
  have HD2 := Lib.hid (HWD.out n most (by omega) (by omega) w2 hb2)
  clear x0 x1 x2 x3 hb2 hA hGA HD1 HW1 HW2
  go_upto_region 5 with (go_at_call 13; refine HD2.out.mono ?_; rintro e w3 ⟨hb3, fa, fc, FW, rfl, hF, ba2, hba2, hGF⟩)
  have HB3 := Lib.hid (HB2.out.trans (hb3.mono HB2.out.size))
  have HF := Lib.hid (show FW.map (·.row) = (wordsG g n).take most from hF)
  have HGF := Lib.hid hGF
  have HGA3 := Lib.hid (HGA.out.below hb3)
  obtain ⟨z0, z1, z2, z3⟩ := HCX.out w3 HB3.out
  have HD3 := Lib.hid (HWD.out (n - 1) 500 (by omega) (by omega) w3 HB3.out)
  clear y0 y1 y2 y3 hb3 hF hGF HD2 HGA
  go_cut [12, 13] from 36 to 42 (fun sv fv wx => ∃ (sa : Option Addr) (sc base : Nat) (SH : List RowL), sv = .slice sa SH.length sc ∧ fv = .int .i64 0 ∧ Hid (SH.map (·.row) = (wordsG g (n - 1)).take 500) ∧ Hid (RowsG wx base sa sc SH) ∧ Hid (Below w3.heap.size w3 wx))
  case first =>
    by_cases h0 : n = 0
    · subst h0
      go_wp2_with (go_at_call 13; refine HD3.out.mono ?_; rintro e w4 ⟨hb4, sa, sc, SH, rfl, hS, ba3, hba3, hGS⟩)
      go_meet
      case rel => exact ⟨sa, sc, ba3, SH, rfl, rfl, Lib.hid hS, Lib.hid hGS, Lib.hid hb4⟩
    · obtain ⟨k, rfl⟩ : ∃ k, n = k + 1 := ⟨n - 1, by omega⟩
      rw [Nat.add_sub_cancel] at HD3
      have hwk : IntKind.i64.wrap (((k + 1 : Nat) : Int) - 1) = (k : Int) := by rw [show ((k + 1 : Nat) : Int) - 1 = (k : Int) by omega]; exact IntWalk.i64_in _ (by omega)
      have hwk2 : IntKind.i64.wrap ((k : Int) + 1 - 1) = (k : Int) := by rw [show (k : Int) + 1 - 1 = (k : Int) by omega]; exact IntWalk.i64_in _ (by omega)
      have hk0 : ¬ (k : Int) < 0 := by omega
      go_wp2_with (go_at_call 13; refine HD3.out.mono ?_; rintro e w4 ⟨hb4, sa, sc, SH, rfl, hS, ba3, hba3, hGS⟩)
      all_goals
        go_meet
        case rel => exact ⟨sa, sc, ba3, SH, rfl, rfl, Lib.hid (by rw [Nat.add_sub_cancel]; exact hS), Lib.hid hGS, Lib.hid hb4⟩
  case rest =>
  obtain ⟨sa, sc, ba3, SH, rfl, rfl, HS, HGS, HB34⟩ := hcut
  rename World => w5
  have HB5 := Lib.hid (HB3.out.trans (HB34.out.mono HB3.out.size))
  have HGA5 := Lib.hid (HGA3.out.below HB34.out)
  have HGF5 := Lib.hid (HGF.out.below HB34.out)
  have hL := wordsG_lens g n most 500 (by omega)
  have hlA : A.length = ((wordsG g n).take 500).length := rows_len HA.out
  have hlF : FW.length = ((wordsG g n).take most).length := rows_len HF.out
  have hlS : SH.length = ((wordsG g (n - 1)).take 500).length := rows_len HS.out
  rw [← hlA, ← hlF, ← hlS] at hL
  have hA5 : A.length ≤ 500 := by rw [hlA, List.length_take]; omega
  have HSA := Lib.hid hL.2
  have HFA := Lib.hid hL.1
  clear hL HGA3 HGF z0 z1 z2 z3 HD3 HWD hlA hlF hlS
  go_upto_region 6 with fail
  go_cut [8, 10, 12, 68] from 43 to 68 (fun av fv sv b wx => av = .slice aa A.length ac ∧ fv = .slice fa FW.length fc ∧ sv = .slice sa SH.length sc ∧ b = .bool false ∧ wx = w5)
  case first =>
    have hsa' : ¬ (A.length : Int) < SH.length := by have := HSA.out; omega
    by_cases hq : (FW.length : Int) = min (most : Int) (A.length : Int)
    · go_wp2
      all_goals
        go_meet
        case rel => exact ⟨rfl, rfl, rfl, rfl, rfl⟩
    · exfalso
      have := HFA.out
      omega
  case rest =>
  obtain ⟨rfl, rfl, rfl, rfl, hw5⟩ := hcut
  obtain rfl := hw5.symm
  clear hw5 HSA HFA
  have HWK := Lib.hid fun (W : World) (hW : Below w5.heap.size w5 W) => lwakes_any W (HTT.out.below (HBA.out.trans ((HB5.out.trans (hW.mono HB5.out.size)).mono HBA.out.size)))
  go_wp2_with fail
  go_loopw [71] (fun i wr => ∃ m : Nat, m ≤ A.length ∧ i = .int .i64 m ∧ Hid (Below w5.heap.size w5 wr)) (fun i _ => A.length - (intOf i).toNat)
  case atStart => exact ⟨0, by omega, rfl, Lib.hid (Below.refl _ _)⟩
  case round =>
    obtain ⟨m, hm, rfl, HBR⟩ := hrel
    by_cases hlt : m < A.length
    · obtain ⟨r, hr⟩ : ∃ r, A[m]? = some r := ⟨_, List.getElem?_eq_getElem hlt⟩
      have hru : ((wordsG g n).take 500)[m]? = some r.row := by rw [← HA.out, List.getElem?_map, hr]; rfl
      obtain ⟨hul, hus, hhas⟩ := wordsG_at (List.mem_of_mem_take (List.mem_of_getElem? hru))
      have hrm := List.mem_of_getElem? hr
      obtain ⟨ab, ao, rfl, hac⟩ := HGA5.out.at hr
      have HAC := Lib.hid hac
      have HRU := Lib.hid hru
      have e1 : (m : Int) < A.length := by omega
      have e2 : ¬ (n : Int) < r.row.length := by omega
      have HRR := Lib.hid fun (W : World) (hW : Below w5.heap.size w5 W) => (HGA5.out.rows r hrm).below hW
      have HR := Lib.hid hr
      have hr6 : r.row.length ≤ 6 := by omega
      have HHA := Lib.hid fun (W : World) (hW : Below w5.heap.size w5 W) => ((lhas_d _ g r.addr r.cap r.row W (HG.out.below (HB5.out.trans (hW.mono HB5.out.size))) HCK.out (HRR.out W hW) (by omega) hus (HTT.out.below (HBA.out.trans ((HB5.out.trans (hW.mono HB5.out.size)).mono HBA.out.size)))).mono fun e w' h => ⟨h.1.trans (by rw [hhas]), h.2⟩ : Calls Tryd.prog 18 #[_, .slice r.addr r.row.length r.cap] W fun e w' => e = .returned (.bool true) ∧ Below W.heap.size W w')
      have HCG := Lib.hid fun (W : World) (hW : Below w5.heap.size w5 W) => HCX.out W (HB5.out.trans (hW.mono HB5.out.size))
      have HAM := Lib.hid fun (W : World) (hW : Below w5.heap.size w5 W) => hac W hW m r hr
      have HLS := Lib.hid fun (q : Nat) (hq : m = q + 1) => (show ∃ r0 : RowL, (∀ W, Below w5.heap.size w5 W → W.cell? ⟨ab, ao + q, none⟩ = some (.slice r0.addr r0.row.length r0.cap)) ∧ ∀ W, Below w5.heap.size w5 W → Calls Tryd.prog 24 #[.slice r0.addr r0.row.length r0.cap, .slice r.addr r.row.length r.cap] W fun e w' => e = .returned (.bool true) ∧ Below W.heap.size W w' by
        obtain ⟨r0, hr0⟩ : ∃ r0, A[q]? = some r0 := ⟨_, List.getElem?_eq_getElem (by omega)⟩
        have hru0 : ((wordsG g n).take 500)[q]? = some r0.row := by rw [← HA.out, List.getElem?_map, hr0]; rfl
        have hls := wordsG_next hru0 (by rw [← hq]; exact HRU.out)
        have hul0 := (wordsG_at (List.mem_of_mem_take (List.mem_of_getElem? hru0))).1
        exact ⟨r0, fun W hW => HAC.out W hW q r0 hr0, fun W hW => (rless_any r0.addr r.addr r0.cap r.cap r0.row r.row W ((HGA5.out.rows r0 (List.mem_of_getElem? hr0)).below hW) (HRR.out W hW) (by omega) (by omega)).mono fun e w' ⟨he, k, hw⟩ => ⟨he.trans (by rw [hls]), hw ▸ below_drews (Below.refl _ _) k⟩⟩)
      have HSF := Lib.hid fun (hq : m < FW.length) => (show ∃ (rf : RowL) (fb fo : Nat), fa = some ⟨fb, fo, none⟩ ∧ (∀ W, Below w5.heap.size w5 W → W.cell? ⟨fb, fo + m, none⟩ = some (.slice rf.addr rf.row.length rf.cap)) ∧ ∀ W, Below w5.heap.size w5 W → Calls Tryd.prog 17 #[.slice r.addr r.row.length r.cap, .slice rf.addr rf.row.length rf.cap] W fun e w' => e = .returned (.bool true) ∧ Below W.heap.size W w' by
        have hrf := wordsG_few (k := 500) (most := most) (by omega) HRU.out (by rw [← rows_len HF.out]; exact hq)
        obtain ⟨rf, hrf1, hrf2⟩ := rows_at HF.out hrf
        obtain ⟨fb, fo, hfe, hfc⟩ := HGF5.out.at hrf1
        exact ⟨rf, fb, fo, hfe, fun W hW => hfc W hW m rf hrf1, fun W hW => (keepSame2_any r.addr rf.addr r.cap rf.cap r.row rf.row W (HRR.out W hW) ((HGF5.out.rows rf (List.mem_of_getElem? hrf1)).below hW) (by omega) (by rw [hrf2]; omega)).mono fun e w' ⟨he, k, hw⟩ => ⟨he.trans (by rw [hrf2]; simp), hw ▸ below_drews (Below.refl _ _) k⟩⟩)
      have HSS := Lib.hid fun (hq : m < SH.length) => (show ∃ (rs : RowL) (sb so : Nat), sa = some ⟨sb, so, none⟩ ∧ (∀ W, Below w5.heap.size w5 W → W.cell? ⟨sb, so + m, none⟩ = some (.slice rs.addr rs.row.length rs.cap)) ∧ ∀ W, Below w5.heap.size w5 W → Calls Tryd.prog 17 #[.slice r.addr r.row.length r.cap, .slice rs.addr rs.row.length rs.cap] W fun e w' => e = .returned (.bool true) ∧ Below W.heap.size W w' by
        have hrf := wordsG_short HRU.out (by rw [← rows_len HS.out]; exact hq)
        obtain ⟨rf, hrf1, hrf2⟩ := rows_at HS.out hrf
        obtain ⟨fb, fo, hfe, hfc⟩ := HGS.out.at hrf1
        exact ⟨rf, fb, fo, hfe, fun W hW => hfc W hW m rf hrf1, fun W hW => (keepSame2_any r.addr rf.addr r.cap rf.cap r.row rf.row W (HRR.out W hW) ((HGS.out.rows rf (List.mem_of_getElem? hrf1)).below hW) (by omega) (by rw [hrf2]; omega)).mono fun e w' ⟨he, k, hw⟩ => ⟨he.trans (by rw [hrf2]; simp), hw ▸ below_drews (Below.refl _ _) k⟩⟩)
      have HLG := Lib.hid fun (hq : ¬ m < SH.length) => (show n ≤ r.row.length from wordsG_long HRU.out (by rw [← rows_len HS.out]; exact hq))
      clear hru hhas hrm hac hr hus hul
      obtain ⟨ra, rc, rr⟩ := r
      simp only at *
      have x0 := HAM.out wr HBR.out
      obtain ⟨y0, y1, y2, y3⟩ := HCG.out wr HBR.out
      by_cases hz : 0 < m
      · by_cases hF : m < FW.length
        · by_cases hS : m < SH.length
          · obtain ⟨q, hq⟩ : ∃ q, m = q + 1 := ⟨m - 1, by omega⟩
            obtain ⟨⟨ra0, rc0, rr0⟩, hq1, hq2⟩ := HLS.out q hq
            simp only at hq1 hq2
            have x1 := hq1 wr HBR.out
            have HQ2 := Lib.hid hq2
            have em : (0 : Int) < m := Int.natCast_pos.2 hz
            have hws : IntKind.i64.wrap ((m : Int) - 1) = (q : Int) := by rw [show (m : Int) - 1 = (q : Int) by omega]; exact IntWalk.i64_in _ (by omega)
            have eq : (q : Int) < A.length := by omega
            have hq0 : ¬ (q : Int) < 0 := by omega
            obtain ⟨⟨fra, frc, frr⟩, fb, fo, rfl, hf1, hf2⟩ := HSF.out hF
            simp only at hf1 hf2
            have HF1 := Lib.hid hf1
            have HF2 := Lib.hid hf2
            have ef : (m : Int) < FW.length := Int.ofNat_lt.2 hF
            obtain ⟨⟨sra, src, srr⟩, sb, so, rfl, hs1, hs2⟩ := HSS.out hS
            simp only at hs1 hs2
            have HS1 := Lib.hid hs1
            have HS2 := Lib.hid hs2
            have es : (m : Int) < SH.length := Int.ofNat_lt.2 hS
            have es2 : ¬ (SH.length : Int) ≤ m := fun h => Nat.not_le.2 hS (Int.ofNat_le.1 h)
            clear HLS HSF HSS HLG hF hS hq hq1 hq2 hf1 hf2 hs1 hs2
            go_wp2_with (first
              | (go_at_call 24; (with_reducible refine (HQ2.out _ HBR.out).mono ?_); rintro e wL ⟨rfl, hbL⟩
                 have hSL := HBR.out.trans (hbL.mono HBR.out.size)
                 have HL := Lib.hid hSL
                 obtain ⟨gL0, gL1, gL2, gL3⟩ := HCG.out wL hSL
                 have fL := HF1.out wL hSL
                 have sL := HS1.out wL hSL
                 clear hbL hSL)
              | (go_at_call 18; (with_reducible refine (HHA.out _ HL.out).mono ?_); rintro e wH ⟨rfl, hbH⟩
                 have hSH := HL.out.trans (hbH.mono HL.out.size)
                 have HH := Lib.hid hSH
                 obtain ⟨gH0, gH1, gH2, gH3⟩ := HCG.out wH hSH
                 have fH := HF1.out wH hSH
                 have sH := HS1.out wH hSH
                 clear hbH hSH)
              | (go_at_call 17; (with_reducible refine (HF2.out _ HH.out).mono ?_); rintro e wF ⟨rfl, hbF⟩
                 have hSF := HH.out.trans (hbF.mono HH.out.size)
                 have HF := Lib.hid hSF
                 obtain ⟨gF0, gF1, gF2, gF3⟩ := HCG.out wF hSF
                 have fF := HF1.out wF hSF
                 have sF := HS1.out wF hSF
                 clear hbF hSF)
              | (go_at_call 17; (with_reducible refine (HS2.out _ HF.out).mono ?_); rintro e wZ ⟨rfl, hbZ⟩
                 have hSZ := HF.out.trans (hbZ.mono HF.out.size)
                 have HZ := Lib.hid hSZ
                 obtain ⟨gZ0, gZ1, gZ2, gZ3⟩ := HCG.out wZ hSZ
                 have fZ := HF1.out wZ hSZ
                 have sZ := HS1.out wZ hSZ
                 clear hbZ hSZ))
            go_roundw
            case rel => exact ⟨m + 1, by omega, by go_num, HZ⟩
            case measure => simp [intOf]; omega
          · obtain ⟨q, hq⟩ : ∃ q, m = q + 1 := ⟨m - 1, by omega⟩
            obtain ⟨⟨ra0, rc0, rr0⟩, hq1, hq2⟩ := HLS.out q hq
            simp only at hq1 hq2
            have x1 := hq1 wr HBR.out
            have HQ2 := Lib.hid hq2
            have em : (0 : Int) < m := Int.natCast_pos.2 hz
            have hws : IntKind.i64.wrap ((m : Int) - 1) = (q : Int) := by rw [show (m : Int) - 1 = (q : Int) by omega]; exact IntWalk.i64_in _ (by omega)
            have eq : (q : Int) < A.length := by omega
            have hq0 : ¬ (q : Int) < 0 := by omega
            obtain ⟨⟨fra, frc, frr⟩, fb, fo, rfl, hf1, hf2⟩ := HSF.out hF
            simp only at hf1 hf2
            have HF1 := Lib.hid hf1
            have HF2 := Lib.hid hf2
            have ef : (m : Int) < FW.length := Int.ofNat_lt.2 hF
            have es : ¬ (m : Int) < SH.length := fun h => hS (Int.ofNat_lt.1 h)
            have es2 : (SH.length : Int) ≤ m := Int.ofNat_le.2 (Nat.not_lt.1 hS)
            have hlg := HLG.out hS
            have e3 : ¬ (rr.length : Int) < n := fun h => Nat.not_lt.2 hlg (Int.ofNat_lt.1 h)
            clear hlg
            clear HLS HSF HSS HLG hF hS hq hq1 hq2 hf1 hf2
            go_wp2_with (first
              | (go_at_call 24; (with_reducible refine (HQ2.out _ HBR.out).mono ?_); rintro e wL ⟨rfl, hbL⟩
                 have hSL := HBR.out.trans (hbL.mono HBR.out.size)
                 have HL := Lib.hid hSL
                 obtain ⟨gL0, gL1, gL2, gL3⟩ := HCG.out wL hSL
                 have fL := HF1.out wL hSL
                 clear hbL hSL)
              | (go_at_call 18; (with_reducible refine (HHA.out _ HL.out).mono ?_); rintro e wH ⟨rfl, hbH⟩
                 have hSH := HL.out.trans (hbH.mono HL.out.size)
                 have HH := Lib.hid hSH
                 obtain ⟨gH0, gH1, gH2, gH3⟩ := HCG.out wH hSH
                 have fH := HF1.out wH hSH
                 clear hbH hSH)
              | (go_at_call 17; (with_reducible refine (HF2.out _ HH.out).mono ?_); rintro e wF ⟨rfl, hbF⟩
                 have hSF := HH.out.trans (hbF.mono HH.out.size)
                 have HF := Lib.hid hSF
                 obtain ⟨gF0, gF1, gF2, gF3⟩ := HCG.out wF hSF
                 have fF := HF1.out wF hSF
                 clear hbF hSF))
            go_roundw
            case rel => exact ⟨m + 1, by omega, by go_num, HF⟩
            case measure => simp [intOf]; omega
        · by_cases hS : m < SH.length
          · obtain ⟨q, hq⟩ : ∃ q, m = q + 1 := ⟨m - 1, by omega⟩
            obtain ⟨⟨ra0, rc0, rr0⟩, hq1, hq2⟩ := HLS.out q hq
            simp only at hq1 hq2
            have x1 := hq1 wr HBR.out
            have HQ2 := Lib.hid hq2
            have em : (0 : Int) < m := Int.natCast_pos.2 hz
            have hws : IntKind.i64.wrap ((m : Int) - 1) = (q : Int) := by rw [show (m : Int) - 1 = (q : Int) by omega]; exact IntWalk.i64_in _ (by omega)
            have eq : (q : Int) < A.length := by omega
            have hq0 : ¬ (q : Int) < 0 := by omega
            have ef : ¬ (m : Int) < FW.length := fun h => hF (Int.ofNat_lt.1 h)
            obtain ⟨⟨sra, src, srr⟩, sb, so, rfl, hs1, hs2⟩ := HSS.out hS
            simp only at hs1 hs2
            have HS1 := Lib.hid hs1
            have HS2 := Lib.hid hs2
            have es : (m : Int) < SH.length := Int.ofNat_lt.2 hS
            have es2 : ¬ (SH.length : Int) ≤ m := fun h => Nat.not_le.2 hS (Int.ofNat_le.1 h)
            clear HLS HSF HSS HLG hF hS hq hq1 hq2 hs1 hs2
            go_wp2_with (first
              | (go_at_call 24; (with_reducible refine (HQ2.out _ HBR.out).mono ?_); rintro e wL ⟨rfl, hbL⟩
                 have hSL := HBR.out.trans (hbL.mono HBR.out.size)
                 have HL := Lib.hid hSL
                 obtain ⟨gL0, gL1, gL2, gL3⟩ := HCG.out wL hSL
                 have sL := HS1.out wL hSL
                 clear hbL hSL)
              | (go_at_call 18; (with_reducible refine (HHA.out _ HL.out).mono ?_); rintro e wH ⟨rfl, hbH⟩
                 have hSH := HL.out.trans (hbH.mono HL.out.size)
                 have HH := Lib.hid hSH
                 obtain ⟨gH0, gH1, gH2, gH3⟩ := HCG.out wH hSH
                 have sH := HS1.out wH hSH
                 clear hbH hSH)
              | (go_at_call 17; (with_reducible refine (HS2.out _ HH.out).mono ?_); rintro e wZ ⟨rfl, hbZ⟩
                 have hSZ := HH.out.trans (hbZ.mono HH.out.size)
                 have HZ := Lib.hid hSZ
                 obtain ⟨gZ0, gZ1, gZ2, gZ3⟩ := HCG.out wZ hSZ
                 have sZ := HS1.out wZ hSZ
                 clear hbZ hSZ))
            go_roundw
            case rel => exact ⟨m + 1, by omega, by go_num, HZ⟩
            case measure => simp [intOf]; omega
          · obtain ⟨q, hq⟩ : ∃ q, m = q + 1 := ⟨m - 1, by omega⟩
            obtain ⟨⟨ra0, rc0, rr0⟩, hq1, hq2⟩ := HLS.out q hq
            simp only at hq1 hq2
            have x1 := hq1 wr HBR.out
            have HQ2 := Lib.hid hq2
            have em : (0 : Int) < m := Int.natCast_pos.2 hz
            have hws : IntKind.i64.wrap ((m : Int) - 1) = (q : Int) := by rw [show (m : Int) - 1 = (q : Int) by omega]; exact IntWalk.i64_in _ (by omega)
            have eq : (q : Int) < A.length := by omega
            have hq0 : ¬ (q : Int) < 0 := by omega
            have ef : ¬ (m : Int) < FW.length := fun h => hF (Int.ofNat_lt.1 h)
            have es : ¬ (m : Int) < SH.length := fun h => hS (Int.ofNat_lt.1 h)
            have es2 : (SH.length : Int) ≤ m := Int.ofNat_le.2 (Nat.not_lt.1 hS)
            have hlg := HLG.out hS
            have e3 : ¬ (rr.length : Int) < n := fun h => Nat.not_lt.2 hlg (Int.ofNat_lt.1 h)
            clear hlg
            clear HLS HSF HSS HLG hF hS hq hq1 hq2
            go_wp2_with (first
              | (go_at_call 24; (with_reducible refine (HQ2.out _ HBR.out).mono ?_); rintro e wL ⟨rfl, hbL⟩
                 have hSL := HBR.out.trans (hbL.mono HBR.out.size)
                 have HL := Lib.hid hSL
                 obtain ⟨gL0, gL1, gL2, gL3⟩ := HCG.out wL hSL
                 clear hbL hSL)
              | (go_at_call 18; (with_reducible refine (HHA.out _ HL.out).mono ?_); rintro e wH ⟨rfl, hbH⟩
                 have hSH := HL.out.trans (hbH.mono HL.out.size)
                 have HH := Lib.hid hSH
                 obtain ⟨gH0, gH1, gH2, gH3⟩ := HCG.out wH hSH
                 clear hbH hSH))
            go_roundw
            case rel => exact ⟨m + 1, by omega, by go_num, HH⟩
            case measure => simp [intOf]; omega
      · by_cases hF : m < FW.length
        · by_cases hS : m < SH.length
          · have em : ¬ (0 : Int) < m := fun h => hz (Int.natCast_pos.1 h)
            clear hz
            obtain ⟨⟨fra, frc, frr⟩, fb, fo, rfl, hf1, hf2⟩ := HSF.out hF
            simp only at hf1 hf2
            have HF1 := Lib.hid hf1
            have HF2 := Lib.hid hf2
            have ef : (m : Int) < FW.length := Int.ofNat_lt.2 hF
            obtain ⟨⟨sra, src, srr⟩, sb, so, rfl, hs1, hs2⟩ := HSS.out hS
            simp only at hs1 hs2
            have HS1 := Lib.hid hs1
            have HS2 := Lib.hid hs2
            have es : (m : Int) < SH.length := Int.ofNat_lt.2 hS
            have es2 : ¬ (SH.length : Int) ≤ m := fun h => Nat.not_le.2 hS (Int.ofNat_le.1 h)
            clear HLS HSF HSS HLG hF hS hf1 hf2 hs1 hs2
            go_wp2_with (first
              | (go_at_call 18; (with_reducible refine (HHA.out _ HBR.out).mono ?_); rintro e wH ⟨rfl, hbH⟩
                 have hSH := HBR.out.trans (hbH.mono HBR.out.size)
                 have HH := Lib.hid hSH
                 obtain ⟨gH0, gH1, gH2, gH3⟩ := HCG.out wH hSH
                 have fH := HF1.out wH hSH
                 have sH := HS1.out wH hSH
                 clear hbH hSH)
              | (go_at_call 17; (with_reducible refine (HF2.out _ HH.out).mono ?_); rintro e wF ⟨rfl, hbF⟩
                 have hSF := HH.out.trans (hbF.mono HH.out.size)
                 have HF := Lib.hid hSF
                 obtain ⟨gF0, gF1, gF2, gF3⟩ := HCG.out wF hSF
                 have fF := HF1.out wF hSF
                 have sF := HS1.out wF hSF
                 clear hbF hSF)
              | (go_at_call 17; (with_reducible refine (HS2.out _ HF.out).mono ?_); rintro e wZ ⟨rfl, hbZ⟩
                 have hSZ := HF.out.trans (hbZ.mono HF.out.size)
                 have HZ := Lib.hid hSZ
                 obtain ⟨gZ0, gZ1, gZ2, gZ3⟩ := HCG.out wZ hSZ
                 have fZ := HF1.out wZ hSZ
                 have sZ := HS1.out wZ hSZ
                 clear hbZ hSZ))
            go_roundw
            case rel => exact ⟨m + 1, by omega, by go_num, HZ⟩
            case measure => simp [intOf]; omega
          · have em : ¬ (0 : Int) < m := fun h => hz (Int.natCast_pos.1 h)
            clear hz
            obtain ⟨⟨fra, frc, frr⟩, fb, fo, rfl, hf1, hf2⟩ := HSF.out hF
            simp only at hf1 hf2
            have HF1 := Lib.hid hf1
            have HF2 := Lib.hid hf2
            have ef : (m : Int) < FW.length := Int.ofNat_lt.2 hF
            have es : ¬ (m : Int) < SH.length := fun h => hS (Int.ofNat_lt.1 h)
            have es2 : (SH.length : Int) ≤ m := Int.ofNat_le.2 (Nat.not_lt.1 hS)
            have hlg := HLG.out hS
            have e3 : ¬ (rr.length : Int) < n := fun h => Nat.not_lt.2 hlg (Int.ofNat_lt.1 h)
            clear hlg
            clear HLS HSF HSS HLG hF hS hf1 hf2
            go_wp2_with (first
              | (go_at_call 18; (with_reducible refine (HHA.out _ HBR.out).mono ?_); rintro e wH ⟨rfl, hbH⟩
                 have hSH := HBR.out.trans (hbH.mono HBR.out.size)
                 have HH := Lib.hid hSH
                 obtain ⟨gH0, gH1, gH2, gH3⟩ := HCG.out wH hSH
                 have fH := HF1.out wH hSH
                 clear hbH hSH)
              | (go_at_call 17; (with_reducible refine (HF2.out _ HH.out).mono ?_); rintro e wF ⟨rfl, hbF⟩
                 have hSF := HH.out.trans (hbF.mono HH.out.size)
                 have HF := Lib.hid hSF
                 obtain ⟨gF0, gF1, gF2, gF3⟩ := HCG.out wF hSF
                 have fF := HF1.out wF hSF
                 clear hbF hSF))
            go_roundw
            case rel => exact ⟨m + 1, by omega, by go_num, HF⟩
            case measure => simp [intOf]; omega
        · by_cases hS : m < SH.length
          · have em : ¬ (0 : Int) < m := fun h => hz (Int.natCast_pos.1 h)
            clear hz
            have ef : ¬ (m : Int) < FW.length := fun h => hF (Int.ofNat_lt.1 h)
            obtain ⟨⟨sra, src, srr⟩, sb, so, rfl, hs1, hs2⟩ := HSS.out hS
            simp only at hs1 hs2
            have HS1 := Lib.hid hs1
            have HS2 := Lib.hid hs2
            have es : (m : Int) < SH.length := Int.ofNat_lt.2 hS
            have es2 : ¬ (SH.length : Int) ≤ m := fun h => Nat.not_le.2 hS (Int.ofNat_le.1 h)
            clear HLS HSF HSS HLG hF hS hs1 hs2
            go_wp2_with (first
              | (go_at_call 18; (with_reducible refine (HHA.out _ HBR.out).mono ?_); rintro e wH ⟨rfl, hbH⟩
                 have hSH := HBR.out.trans (hbH.mono HBR.out.size)
                 have HH := Lib.hid hSH
                 obtain ⟨gH0, gH1, gH2, gH3⟩ := HCG.out wH hSH
                 have sH := HS1.out wH hSH
                 clear hbH hSH)
              | (go_at_call 17; (with_reducible refine (HS2.out _ HH.out).mono ?_); rintro e wZ ⟨rfl, hbZ⟩
                 have hSZ := HH.out.trans (hbZ.mono HH.out.size)
                 have HZ := Lib.hid hSZ
                 obtain ⟨gZ0, gZ1, gZ2, gZ3⟩ := HCG.out wZ hSZ
                 have sZ := HS1.out wZ hSZ
                 clear hbZ hSZ))
            go_roundw
            case rel => exact ⟨m + 1, by omega, by go_num, HZ⟩
            case measure => simp [intOf]; omega
          · have em : ¬ (0 : Int) < m := fun h => hz (Int.natCast_pos.1 h)
            clear hz
            have ef : ¬ (m : Int) < FW.length := fun h => hF (Int.ofNat_lt.1 h)
            have es : ¬ (m : Int) < SH.length := fun h => hS (Int.ofNat_lt.1 h)
            have es2 : (SH.length : Int) ≤ m := Int.ofNat_le.2 (Nat.not_lt.1 hS)
            have hlg := HLG.out hS
            have e3 : ¬ (rr.length : Int) < n := fun h => Nat.not_lt.2 hlg (Int.ofNat_lt.1 h)
            clear hlg
            clear HLS HSF HSS HLG hF hS
            go_wp2_with (first
              | (go_at_call 18; (with_reducible refine (HHA.out _ HBR.out).mono ?_); rintro e wH ⟨rfl, hbH⟩
                 have hSH := HBR.out.trans (hbH.mono HBR.out.size)
                 have HH := Lib.hid hSH
                 obtain ⟨gH0, gH1, gH2, gH3⟩ := HCG.out wH hSH
                 clear hbH hSH))
            go_roundw
            case rel => exact ⟨m + 1, by omega, by go_num, HH⟩
            case measure => simp [intOf]; omega
    · have hml2 : m = A.length := by omega
      subst hml2
      have HWF := Lib.hid (HWK.out wr HBR.out)
      go_wp2_with (go_at_call 22; refine HWF.out.mono ?_; rintro e wc ⟨rfl, hbc⟩)
      go_ret
      exact ⟨rfl, HBA.out.trans ((HB5.out.trans ((HBR.out.trans (hbc.mono HBR.out.size)).mono HB5.out.size)).mono HBA.out.size)⟩
end Go.Proofs.YtejjdfmobiegdaaDoor
