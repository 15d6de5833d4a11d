/- FirstGrows: walked. -/
import Derived.Test.YtmilldclgheiaaaMoreF
import Derived.Test.YtmilldclgheiaaaRaw
import Derived.Test.YtmilldclgheiaaaRefs
import Derived.Test.YtmilldclgheiaaaReach
import Derived.Deep.Cut
import Derived.Deep.CutRange
import Derived.Deep.CutBlock
import Derived.Deep.RegionLaw
import Derived.Deep.RegionHeld3
import Derived.Test.YtmilldclgheiaaaWake6
set_option linter.unusedVariables false
namespace Go.Proofs.Ytmilldclgheiaaa
open Go.RowKit
open Doc

set_option maxRecDepth 100000 in
set_option maxHeartbeats 16000000 in
theorem firstGrows_walk (x : RawX) (la : Option Addr) (lc : Nat) (row : List Int) (left : Int) (w : World) (hx : RawAt w x) (hl : Cells w la (nums row)) (hrl : row.length ≤ 17592186043904) : Calls Try.prog 14 #[x.v, .slice la row.length lc, .int .i64 left] w fun e w' => e = .returned (.bool true) ∧ Below w.heap.size w w' := by
  have hck : CheckG x.any := anyF_check x.terms x.nons x.plain
  obtain ⟨i0, hi0, hz0, hz1, hz2⟩ := info_of infoI
  obtain ⟨i1, hi1, hy0, hy1, hy2⟩ := info_of infoP
  have hAN := Lib.hid (fun W h => any_gram x W h)
  have HCK := Lib.hid hck
  have ht8 := hck.t8
  have hn8 := hck.n8
  have hn1 := hck.n1
  have ht1 := hck.t1
  have hp1 := hck.p1
  have hp24 := hck.p24
  generalize hgg : x.any = g at *
  have HX := Lib.hid hx
  have HL := Lib.hid hl
  clear hx hck hgg hl
  obtain ⟨xp, xt, xn, xh, rows, xa, xc, word⟩ := x
  unfold RawX.v at *
  simp only at *
  have hb0 : Below w.heap.size w (w.alloc (.cells #[.int .i64 xp, .int .i64 xt, .int .i64 xn, .int .i64 xh, .slice xa rows.length xc, .string word] 45)) := (Below.refl _ _).alloc (Nat.le_refl _) _
  have HA1 := Lib.hid (hAN.out _ (HX.out.below hb0))
  have HB0 := Lib.hid hb0
  clear hAN hb0
  go_enter Try.func14, Try.ntmps14
  go_upto_region 2 with (go_at_call 45; refine HA1.out.mono ?_; rintro e w1 ⟨hb1, at_, an, ap, ct, cn, cp, ls, rfl, hg1, hls, hc1, hr1⟩)
  have hbA := (HB0.out.trans (hb1.mono HB0.out.size)).alloc (Nat.le_trans HB0.out.size hb1.size) (.cells #[.slice at_ g.terms.length ct, .slice an g.nons.length cn, .slice ap ls.length cp] 26)
  have hbS : Below w1.heap.size w1 (w1.alloc (.cells #[.slice at_ g.terms.length ct, .slice an g.nons.length cn, .slice ap ls.length cp] 26)) := (Below.refl _ _).alloc (Nat.le_refl _) _
  have q0 := heap_alloc_new w1 (.cells #[.slice at_ g.terms.length ct, .slice an g.nons.length cn, .slice ap ls.length cp] 26)
  have HG := Lib.hid (hg1.below hbS)
  have HC := Lib.hid (hc1.below hbS)
  have HR := Lib.hid (fun p hp => (hr1 p hp).below hbS)
  have HLS := Lib.hid hls
  have HBA := Lib.hid hbA
  have HQ0 := Lib.hid q0
  have HLL := Lib.hid (HL.out.below hbA)
  have hlsl : ls.length = g.prods.length := by rw [← hls, List.length_map]
  have hls24 : ls.length ≤ 24 := by omega
  have hls1 : 1 ≤ ls.length := by omega
  clear hb1 hg1 hls hc1 hr1 hbA hbS q0 HA1 HX HB0 HL hlsl
  generalize w1.alloc (.cells #[.slice at_ g.terms.length ct, .slice an g.nons.length cn, .slice ap ls.length cp] 26) = S at *
  generalize w1.heap.size = B1 at *
  have c0 := (blk_cell (i := 0) (u := .slice at_ g.terms.length ct) HQ0.out rfl).1
  have c1 := (blk_cell (i := 1) (u := .slice an g.nons.length cn) HQ0.out rfl).1
  have c2 := (blk_cell (i := 2) (u := .slice ap ls.length cp) HQ0.out rfl).1
  have l1 := heap_lt HQ0.out
  obtain ⟨d, hd, hdl⟩ : ∃ d : Nat, left % (g.nons.length : Int) = d ∧ d < g.nons.length := ⟨(left % (g.nons.length : Int)).toNat, by
    have := Int.emod_nonneg left (show (g.nons.length : Int) ≠ 0 by omega); omega, by
    have := Int.emod_nonneg left (show (g.nons.length : Int) ≠ 0 by omega)
    have := Int.emod_lt_of_pos left (show (0 : Int) < (g.nons.length : Int) by omega); omega⟩
  have HW := Lib.hid fun W => (within_any left (g.nons.length : Int) (by omega) (by omega) W).mono fun e w' ⟨he, hw⟩ => (⟨he.trans (by rw [hd]), hw⟩ : e = Ending.returned (.int .i64 d) ∧ w' = W)
  clear hd
  go_upto_region 3 with (go_at_call 15; refine (HW.out _).mono ?_; rintro e w2 ⟨rfl, hw2⟩; rw [hw2]; clear hw2)
  have hbS : Below S.heap.size S (S.alloc (.cells #[.int .i64 (100 + (d : Int)), .slice none 0 0] 32)) := (Below.refl _ _).alloc (Nat.le_refl _) _
  have qP := heap_alloc_new S (.cells #[.int .i64 (100 + (d : Int)), .slice none 0 0] 32)
  have HG2 := Lib.hid (HG.out.below hbS)
  have HC2 := Lib.hid (HC.out.below hbS)
  have HR2 := Lib.hid (fun p hp => (HR.out p hp).below hbS)
  have HQ02 := Lib.hid ((hbS.block B1 l1).trans HQ0.out)
  have hbw := HBA.out.trans (hbS.mono HBA.out.size)
  have HBA2 := Lib.hid hbw
  have HBS := Lib.hid hbS
  have HQP := Lib.hid qP
  clear hbS qP HC2 HR2 HG2 HQ0 HBA2 HW c0 c1 c2 hbw
  have hPP : B1 < S.heap.size := l1
  have hSP : (S.alloc (.cells #[.int .i64 (100 + (d : Int)), .slice none 0 0] 32)).heap.size = S.heap.size + 1 := by simp
  generalize S.alloc (.cells #[.int .i64 (100 + (d : Int)), .slice none 0 0] 32) = S2 at *
  generalize hPe : S.heap.size = P at *
  have HPE := Lib.hid hPe
  clear hPe
  clear l1
  generalize hpl : 100 + (d : Int) = pl at *
  have hpl1 : 100 ≤ pl ∧ pl < 100 + (g.nons.length : Int) := by omega
  clear hpl hdl
  go_upto_block 0 with fail
  go_cut [9] from 26 to 70 (fun _ wx => ∃ (pa : Option Addr) (r : List Int) (pc : Nat), Hid (r = rowP g.terms.length g.nons.length row) ∧ r.length ≤ 3 ∧ Hid (wx.heap[P]? = some (.cells #[.int .i64 pl, .slice pa r.length pc] 32)) ∧ Hid (wx.ownsRow (P + 1) 3 1 (.slice pa r.length pc) r.length (nums r)) ∧ Hid (Below P S2 wx))
  case first =>
    go_wp2_with fail
    go_loopw [9] (fun i wr => ∃ (k : Nat) (pa : Option Addr) (r : List Int) (pc : Nat), k ≤ 3 ∧ k ≤ row.length ∧ i = .int .i64 k ∧ r.length = k ∧ Hid (r = (row.take k).map (symP g.terms.length g.nons.length)) ∧ wr.heap[P]? = some (.cells #[.int .i64 pl, .slice pa r.length pc] 32) ∧
      wr.ownsRow (P + 1) 3 1 (.slice pa r.length pc) r.length (nums r) ∧ Below P S2 wr) (fun i _ => 3 - (intOf i).toNat)
    case atStart => exact ⟨0, none, [], 0, by omega, by omega, rfl, rfl, Lib.hid (by simp), HQP.out, World.ownsRow_nil _ _ _ _, Below.refl _ _⟩
    case round =>
      obtain ⟨k, pa, r, pc, hk3, hkr, rfl, hrl2, HR3, q2, hown, hbe⟩ := hrel
      have q0 := (hbe.block B1 hPP).trans HQ02.out
      have hsz : P < wr.heap.size := heap_lt q2
      by_cases hlt : k < row.length ∧ k < 3
      · as_aux_lemma =>
        obtain ⟨hlt, hlt3⟩ := hlt
        obtain ⟨x, hx⟩ : ∃ x, row[k]? = some x := ⟨_, List.getElem?_eq_getElem hlt⟩
        have e1 : (k : Int) < row.length := by omega
        have e2 : (k : Int) < 3 := by omega
        obtain ⟨rb, ro, rfl, hrb, hrc⟩ := HLL.out.get (by unfold nums; intro e; rw [List.map_eq_nil_iff] at e; rw [e] at hlt; simp at hlt)
        rw [HPE.out] at hrb
        have x0 := (hbe.cell (p := ⟨rb, ro + k, none⟩) (show rb < P by omega)).trans ((HBS.out.cell (p := ⟨rb, ro + k, none⟩) hrb).trans (hrc k _ (nums_at hx)))
        have hrb2 : rb < wr.heap.size := by omega
        have d0 := (blk_cell (i := 0) (u := .slice at_ g.terms.length ct) q0 rfl).1
        have d1 := (blk_cell (i := 1) (u := .slice an g.nons.length cn) q0 rfl).1
        have d2 : B1 < wr.heap.size := by omega
        obtain ⟨v, hv, hvl⟩ : ∃ v : Nat, x % ((g.terms.length : Int) + g.nons.length) = v ∧ v < g.terms.length + g.nons.length := ⟨(x % ((g.terms.length : Int) + g.nons.length)).toNat, by
          have := Int.emod_nonneg x (show ((g.terms.length : Int) + g.nons.length) ≠ 0 by omega); omega, by
          have := Int.emod_nonneg x (show ((g.terms.length : Int) + g.nons.length) ≠ 0 by omega)
          have := Int.emod_lt_of_pos x (show (0 : Int) < (g.terms.length : Int) + g.nons.length by omega); omega⟩
        have HW := Lib.hid fun a => (within_any x ((g.terms.length : Int) + g.nons.length) (by omega) (by omega) (wr.drewN a)).mono fun e w' ⟨he, hw⟩ => (⟨he.trans (by rw [hv]), a, hw⟩ : e = Ending.returned (.int .i64 v) ∧ ∃ n, w' = wr.drewN n)
        have HRS := Lib.hid (show (row.take (k + 1)).map (symP g.terms.length g.nons.length) = r ++ [symP g.terms.length g.nons.length x] by rw [rowP_take hx, HR3.out])
        have HD := Lib.hid hv
        have HRL := Lib.hid hrl2
        have hr3 : r.length ≤ 3 := by omega
        have HQ0w := Lib.hid q0
        clear hv hx hrc hrl2 q0
        go_wp2
        go_quiet ((go_at_call 15; exact HW.out _))
        have q21 : (wr.drewN nq).heap[P]? = some (.cells #[.int .i64 pl, .slice pa r.length pc] 32) := q2
        have hown1 : (wr.drewN nq).ownsRow (P + 1) 3 1 (.slice pa r.length pc) r.length (nums r) := own_same hown (fun g _ _ => rfl)
        have hbe1 : Below P S2 (wr.drewN nq) := below_drews hbe nq
        have hsz1 : P < (wr.drewN nq).heap.size := hsz
        have p1 := (blk_cell (i := 1) (u := .slice pa r.length pc) q21 rfl).1
        have q01 : (wr.drewN nq).heap[B1]? = some (.cells #[.slice at_ g.terms.length ct, .slice an g.nons.length cn, .slice ap ls.length cp] 26) := HQ0w.out
        have d0' := (blk_cell (i := 0) (u := .slice at_ g.terms.length ct) q01 rfl).1
        have d2' : B1 < (wr.drewN nq).heap.size := d2
        have HQ01 := Lib.hid q01
        clear q2 hown hbe hsz d0 d1 HW x0 hrb2 q01 HQ0w d2
        generalize wr.drewN nq = W1 at *
        by_cases hdt : v < g.terms.length
        · have hdt2 : (v : Int) < g.terms.length := by omega
          have HSY := Lib.hid (show symP g.terms.length g.nons.length x = v + 1 by
            unfold symP
            rw [show ((g.terms.length + g.nons.length : Nat) : Int) = (g.terms.length : Int) + g.nons.length by omega, HD.out, if_pos hdt2])
          go_wp2_with (at_builtin; refine wpList_append_lies _ rfl (.tmp 54) (.tmp 57) 30 rfl (P + 1) 3 i0 (.int .i64 0) 1 8 Try.underlying30 hi0 hz0 hz1 hz2 rfl (by decide) _ r.length (nums r) rfl (hown1.alloc _) ⟨W1.heap.size, 0, none⟩ 1 1 [.int .i64 ((v : Int) + 1)] rfl rfl (World.news_of_block (cs := #[.int .i64 ((v : Int) + 1)]) (t := 3) (fr := (0, 0)) (heap_alloc_new W1 _)) (by simp [Value.oneCell']) (by decide) (by unfold maxLen; omega) (by omega) (by simp; omega) W1.heap.size.succ (by simp) ?_; intro gg cap4 w4 hown4 hgrow4 hat4 hlt4; have q4 := (hgrow4.block P (by simp; omega) (by intro e; have := (own_block hown1 e.symm).1; omega)).trans ((Below.heap_alloc W1 _ P hsz1).trans q21); obtain ⟨p4, z4⟩ := blk_cell (i := 1) (u := .slice pa r.length pc) q4 rfl)
          obtain ⟨g1, g2, g3⟩ := row_put q4 hsz1 hown1 hown4 hgrow4 hbe1
          exact ⟨⟨k + 1, some ⟨gg, 0, none⟩, r ++ [(v : Int) + 1], cap4, by omega, by omega, by go_num, by have := HRL.out; simp; omega, Lib.hid (by rw [HRS.out, HSY.out]), g1, g2, g3⟩, by simp [intOf]; omega⟩
        · have hdt2 : ¬ (v : Int) < g.terms.length := by omega
          have HSY := Lib.hid (show symP g.terms.length g.nons.length x = 100 + (v : Int) - g.terms.length by
            unfold symP
            rw [show ((g.terms.length + g.nons.length : Nat) : Int) = (g.terms.length : Int) + g.nons.length by omega, HD.out, if_neg hdt2])
          go_wp2_with (at_builtin; refine wpList_append_lies _ rfl (.tmp 61) (.tmp 68) 30 rfl (P + 1) 3 i0 (.int .i64 0) 1 8 Try.underlying30 hi0 hz0 hz1 hz2 rfl (by decide) _ r.length (nums r) rfl (hown1.alloc _) ⟨W1.heap.size, 0, none⟩ 1 1 [.int .i64 (100 + (v : Int) - g.terms.length)] rfl rfl (World.news_of_block (cs := #[.int .i64 (100 + (v : Int) - g.terms.length)]) (t := 3) (fr := (0, 0)) (heap_alloc_new W1 _)) (by simp [Value.oneCell']) (by decide) (by unfold maxLen; omega) (by omega) (by simp; omega) W1.heap.size.succ (by simp) ?_; intro gg cap4 w4 hown4 hgrow4 hat4 hlt4; have q4 := (hgrow4.block P (by simp; omega) (by intro e; have := (own_block hown1 e.symm).1; omega)).trans ((Below.heap_alloc W1 _ P hsz1).trans q21); obtain ⟨p4, z4⟩ := blk_cell (i := 1) (u := .slice pa r.length pc) q4 rfl)
          obtain ⟨g1, g2, g3⟩ := row_put q4 hsz1 hown1 hown4 hgrow4 hbe1
          exact ⟨⟨k + 1, some ⟨gg, 0, none⟩, r ++ [100 + (v : Int) - g.terms.length], cap4, by omega, by omega, by go_num, by have := HRL.out; simp; omega, Lib.hid (by rw [HRS.out, HSY.out]), g1, g2, g3⟩, by simp [intOf]; omega⟩
      · have hfin : r = rowP g.terms.length g.nons.length row := by
          rw [HR3.out]
          unfold rowP
          congr 1
          by_cases hk : k < 3
          · rw [List.take_of_length_le (by omega), List.take_of_length_le (by omega)]
          · rw [show k = 3 by omega]
        have hr3 : r.length ≤ 3 := by omega
        have hex : ¬ (k : Int) < row.length ∨ ((k : Int) < row.length ∧ ¬ (k : Int) < 3) := by omega
        have HFIN := Lib.hid hfin
        have HQP3 := Lib.hid q2
        have HOWN := Lib.hid hown
        have HBE := Lib.hid hbe
        clear hfin q2 hown hbe hlt hk3 hkr q0 hsz hrl2 HR3
        rcases hex with hx1 | ⟨hx1, hx2⟩
        all_goals
          go_wp2_with fail
          go_meet
          case rel => exact ⟨pa, r, pc, HFIN, hr3, HQP3, HOWN, HBE⟩
  case rest =>
    obtain ⟨pa, r, pc, HFIN, hr3, HQP3, HOWN, HBE⟩ := hcut
    rename World => wr
    have hsz : P < wr.heap.size := heap_lt HQP3.out
    have q0 := (HBE.out.block B1 hPP).trans HQ02.out
    have p0 := (blk_cell (i := 0) (u := .int .i64 pl) HQP3.out rfl).1
    have p1 := (blk_cell (i := 1) (u := .slice pa r.length pc) HQP3.out rfl).1
    have d0 := (blk_cell (i := 0) (u := .slice at_ g.terms.length ct) q0 rfl).1
    have d1 := (blk_cell (i := 1) (u := .slice an g.nons.length cn) q0 rfl).1
    have d2 := (blk_cell (i := 2) (u := .slice ap ls.length cp) q0 rfl).1
    have d3 : B1 < wr.heap.size := by omega
    have hSw : Below S.heap.size S wr := by have := HBS.out.trans HBE.out; rwa [← HPE.out] at this
    have HGW := Lib.hid (HG.out.below hSw)
    have HCW := Lib.hid (HC.out.below hSw)
    have HRW := Lib.hid (fun p hp => (HR.out p hp).below hSw)
    have hwB : Below w.heap.size w wr := HBA.out.trans ((HBS.out.trans HBE.out).mono (by rw [← HPE.out]; exact HBA.out.size))
    have HWB := Lib.hid hwB
    have HQ0w := Lib.hid q0
    obtain ⟨b3, o3, rfl, hb3, hc3⟩ := HCW.out.get (by intro e; have := congrArg List.length e; rw [lays_len] at this; simp at this; omega)
    have HNC := Lib.hid hc3
    clear hSw hwB q0 hc3 HG HC HR HBA HBS HLL HQ02 HQP HBE
    go_upto_region 11 with fail
    have hbQ : Below wr.heap.size wr (wr.alloc (.cells #[.slice at_ g.terms.length ct, .slice an g.nons.length cn, .slice (some ⟨b3, o3, none⟩) ls.length cp] 26)) := (Below.refl _ _).alloc (Nat.le_refl _) _
    have qQ := heap_alloc_new wr (.cells #[.slice at_ g.terms.length ct, .slice an g.nons.length cn, .slice (some ⟨b3, o3, none⟩) ls.length cp] 26)
    have s0 := (hbQ.cell (p := ⟨P, 0, none⟩) hsz).trans p0
    have s1 := (hbQ.cell (p := ⟨P, 1, none⟩) hsz).trans p1
    have s2 := (hbQ.cell (p := ⟨B1, 2, none⟩) d3).trans d2
    have s3 := (blk_cell (i := 2) (u := .slice (some ⟨b3, o3, none⟩) ls.length cp) qQ rfl)
    obtain ⟨s3, s4⟩ := s3
    have s5 := heap_lt qQ
    have s6 := Nat.lt_of_lt_of_le hsz hbQ.size
    have s7 := Nat.lt_of_lt_of_le d3 hbQ.size
    have HBQ := Lib.hid hbQ
    have HQP4 := Lib.hid ((hbQ.block P hsz).trans HQP3.out)
    have HQQ := Lib.hid qQ
    have HNC2 := Lib.hid fun (W : World) (hW : ∀ k, k < (wr.alloc (.cells #[.slice at_ g.terms.length ct, .slice an g.nons.length cn, .slice (some ⟨b3, o3, none⟩) ls.length cp] 26)).heap.size → W.heap[k]? = (wr.alloc (.cells #[.slice at_ g.terms.length ct, .slice an g.nons.length cn, .slice (some ⟨b3, o3, none⟩) ls.length cp] 26)).heap[k]?) => (fun j u hj => by
      have e : (⟨b3, o3, none⟩ : Addr).add j = ⟨b3, o3 + j, none⟩ := by unfold Addr.add; split <;> simp_all
      rw [e]
      rw [World.cell?_of_block (w := wr.alloc (.cells #[.slice at_ g.terms.length ct, .slice an g.nons.length cn, .slice (some ⟨b3, o3, none⟩) ls.length cp] 26)) (hW b3 (Nat.lt_of_lt_of_le hb3 hbQ.size))]
      exact (hbQ.cell (p := ⟨b3, o3 + j, none⟩) hb3).trans (HNC.out j u hj) : ∀ j u, (lays ls)[j]? = some u → W.cell? ((⟨b3, o3, none⟩ : Addr).add j) = some u)
    have ONE : ∀ u ∈ lays ls, u.oneCell' = true := fun u hu => by
      obtain ⟨z, _, hz⟩ := List.mem_flatMap.1 hu
      simp only [List.mem_cons, List.not_mem_nil, or_false] at hz
      rcases hz with rfl | rfl <;> rfl
    have HONE := Lib.hid ONE
    clear p0 p1 d0 d1 d2 HNC qQ hbQ ONE
    generalize wr.alloc (.cells #[.slice at_ g.terms.length ct, .slice an g.nons.length cn, .slice (some ⟨b3, o3, none⟩) ls.length cp] 26) = W3 at *
    have hPQ : P < wr.heap.size := hsz
    have hBQ : B1 < wr.heap.size := d3
    clear hsz d3 hb3
    generalize hQe : wr.heap.size = Q at *
    have HQE := Lib.hid hQe
    clear hQe
    go_cut [11] from 72 to 78 (fun p wx => p = .pointer (some ⟨Q, 0, none⟩) ∧ ∃ (gy cy : Nat), Hid (wx.heap[Q]? = some (.cells #[.slice at_ g.terms.length ct, .slice an g.nons.length cn, .slice (some ⟨gy, 0, none⟩) (ls.length + 1) cy] 26)) ∧ Hid (wx.ownsRow W3.heap.size 32 2 (.slice (some ⟨gy, 0, none⟩) (ls.length + 1) cy) (ls.length + 1) (lays ls ++ [.int .i64 pl, .slice pa r.length pc])) ∧ Hid (Below Q W3 wx))
    case first =>
      go_region_law (first
        | (refine step_append_lies _ (by rfl) _ _ _ (by rfl) W3.heap.size 32 i1 _ 2 32 Try.underlying24 hi1 hy0 hy1 hy2 rfl (by omega) _ 0 [] (by rfl) (World.ownsRow_nil _ _ _ _) ⟨b3, o3, none⟩ ls.length cp (lays ls) (by rfl) (lays_len ls) (HNC2.out _ (by first | exact fun _ _ => rfl | exact fun k hk => Below.heap_alloc W3 _ k hk)) HONE.out (by omega) (by unfold maxLen; omega) (by omega) (by first | exact Nat.le_refl _ | simp) _ rfl ?_
           intro gx cx wx hownx hgrowx hatx hltx
           have hk : Hid (∀ k, k < W3.heap.size → wx.heap[k]? = W3.heap[k]?) := Lib.hid (by first | exact fun k hk => hgrowx.block k hk (by simp [Value.ownBlock]) | exact fun k hk => (hgrowx.block k (by simp; omega) (by simp [Value.ownBlock])).trans (Below.heap_alloc W3 _ k hk))
           have hkz : Hid (W3.heap.size ≤ wx.heap.size) := Lib.hid (by first | exact hgrowx.size | exact Nat.le_trans (by simp) hgrowx.size)
           have HK := hk
           have HKZ := hkz
           have qPx := (HK.out P (by omega)).trans HQP4.out
           obtain ⟨px0, px2⟩ := blk_cell (i := 0) (u := .int .i64 pl) qPx rfl
           obtain ⟨px1, px3⟩ := blk_cell (i := 1) (u := .slice pa r.length pc) qPx rfl
           have px4 := heap_lt qPx
           have hox : wx.ownsRow W3.heap.size 32 2 (.slice (some ⟨gx, 0, none⟩) ls.length cx) ls.length (lays ls) := by simpa using hownx
           have HOX := Lib.hid hox
           have HGX := Lib.hid hgrowx
           clear hox hownx)
        | (refine step_append_lies _ (by rfl) _ _ _ (by rfl) W3.heap.size 32 i1 _ 2 32 Try.underlying24 hi1 hy0 hy1 hy2 rfl (by omega) (.slice (some ⟨gx, 0, none⟩) ls.length cx) ls.length (lays ls) (by first | rfl | simp) (by first | exact HOX.out | exact HOX.out.alloc _) _ 1 1 [.int .i64 pl, .slice pa r.length pc] (by rfl) rfl (by first | exact World.news_of_block (cs := #[.int .i64 pl, .slice pa r.length pc]) (t := 32) (fr := (0, 0)) (heap_alloc_new _ _) | exact World.news_of_block (cs := #[.int .i64 pl, .slice pa r.length pc]) (t := 32) (fr := (0, 0)) ((HGX.out.block _ (by simp) (by simp [Value.ownBlock])).trans (heap_alloc_new _ _))) (by simp [Value.oneCell']) (by decide) (by unfold maxLen; omega) (by omega) (by first | exact HKZ.out | exact Nat.le_trans HKZ.out (by simp)) _ rfl ?_
           intro gy cy wy howny hgrowy haty hlty
           have hgx : W3.heap.size ≤ gx := (own_block HOX.out (g := gx) rfl).1
           have hk2 : Hid (∀ k, k < W3.heap.size → wy.heap[k]? = W3.heap[k]?) := Lib.hid (by first | exact fun k hk => (hgrowy.block k (Nat.lt_of_lt_of_le hk HKZ.out) (by simp [Value.ownBlock]; omega)).trans (HK.out k hk) | exact fun k hk => (hgrowy.block k (by simp; exact Nat.lt_succ_of_lt (Nat.lt_of_lt_of_le hk HKZ.out)) (by simp [Value.ownBlock]; omega)).trans ((Below.heap_alloc _ _ k (Nat.lt_of_lt_of_le hk HKZ.out)).trans (HK.out k hk)))
           have qQy := (hk2.out Q (by omega)).trans HQQ.out
           obtain ⟨py0, py1⟩ := blk_cell (i := 2) (u := .slice (some ⟨b3, o3, none⟩) ls.length cp) qQy rfl
           have py4 := heap_lt qQy))
      all_goals
        go_wp2_with fail
        go_meet
        case rel =>
          refine ⟨rfl, gy, cy, Lib.hid ?_, Lib.hid ?_, Lib.hid ?_⟩
          · exact (heap_set _ Q 2 _ _ _ qQy (by simp)).trans (by simp)
          · refine own_same (by simpa using howny) fun k hk _ => Below.heap_setCell _ _ _ _ ?_
            have := (own_block howny hk).1
            show k ≠ Q; omega
          · have hog := own_block HOX.out (g := gx) rfl
            refine Below.setCell ?_ (p := ⟨Q, 2, none⟩) (Nat.le_refl _) _
            first
              | exact (((Below.refl Q W3).drew.grown HGX.out (Nat.le_of_lt s5) (by intro k hk; simp [Value.ownBlock] at hk)).alloc (Nat.le_trans (Nat.le_of_lt s5) HKZ.out) _).grown hgrowy (by simp; have := HKZ.out; omega) (by intro k hk; simp [Value.ownBlock] at hk; omega)
              | exact (((Below.refl Q W3).drew.alloc (Nat.le_of_lt s5) _).grown HGX.out (by simp; omega) (by intro k hk; simp [Value.ownBlock] at hk)).grown hgrowy (by have := HKZ.out; omega) (by intro k hk; simp [Value.ownBlock] at hk; omega)
    case rest =>
      obtain ⟨rfl, gy, cy, HQX, HOX, HBX⟩ := hcut
      rename World => wx
      have hB3 : Below wr.heap.size wr W3 := by have := HBQ.out; rwa [HQE.out]
      have hBx : Below wr.heap.size wr wx := hB3.trans (by have := HBX.out; rwa [HQE.out])
      have hgw := HGW.out.below hBx
      have hrw := fun p hp => (HRW.out p hp).below hBx
      have how := (own_cells HOWN.out).1.below hBx
      have hww := HWB.out.trans (hBx.mono HWB.out.size)
      obtain ⟨hc1, hc2, hc3, hc4⟩ := gram_parts hgw
      have hgh : GramAt wx (.agg #[.slice at_ g.terms.length ct, .slice an g.nons.length cn, .slice (some ⟨gy, 0, none⟩) (ls.length + 1) cy]) (moreG g (pl, r)) := by
        have hoc := own_cells HOX.out
        refine ⟨at_, an, some ⟨gy, 0, none⟩, ct, cn, cy, ls ++ [⟨pl, r, pa, pc⟩], by simp [moreG], ?_, hc1, hc2, ?_, ?_, hc3, hc4, by simpa using hoc.2⟩
        · rw [List.map_append, HLS.out]; rfl
        · have e : lays (ls ++ [⟨pl, r, pa, pc⟩]) = lays ls ++ [.int .i64 pl, .slice pa r.length pc] := by simp [lays]
          rw [e]; exact hoc.1
        · intro q hq
          rcases List.mem_append.1 hq with hq | hq
          · exact hrw q hq
          · rw [List.mem_singleton.1 hq]; exact how
      have hqB := (hBx.block B1 (by rw [HQE.out]; exact hBQ)).trans HQ0w.out
      have hqQ := HQX.out
      have HGG := Lib.hid hgw
      have HGH := Lib.hid hgh
      have HWW := Lib.hid hww
      have HQB := Lib.hid hqB
      clear hB3 hBx hgw hrw how hww hc1 hc2 hc3 hc4 hgh hqB hqQ HQ0w HWB HBQ HQE HBX HOX HNC2 HONE HQQ HQP4 HQP3 HOWN HRW HGW HCW s0 s1 s2 s3 s4 s5 s6 s7
      have HSZ : Hid ((moreG g (pl, r)).prods.length = g.prods.length + 1) := Lib.hid (by simp [moreG])
      have hfit : Fits (moreG g (pl, r)) := ⟨by show g.terms.length ≤ _; omega, by show g.nons.length ≤ _; omega, by rw [HSZ.out]; omega, fun p hp => by
        rcases List.mem_append.1 hp with hp | hp
        · have := (HCK.out.pv p hp).2.1; omega
        · rw [List.mem_singleton.1 hp]; show r.length ≤ _; omega⟩
      have HCH := Lib.hid (check_any rname_any _ (moreG g (pl, r)) wx HGH.out hfit.1 hfit.2.1 hfit.2.2.1 hfit.2.2.2 (fun x hx => by
        rcases List.mem_append.1 hx with hx | hx
        · have := kind_len (x := x) (by rw [HCK.out.tk x hx]; decide); omega
        · have := kind_len (x := x) (by rw [HCK.out.nk x hx]; decide); omega))
      clear hfit
      obtain ⟨a0, a0'⟩ := blk_cell (i := 0) (u := .slice at_ g.terms.length ct) HQX.out rfl
      obtain ⟨a1, a1'⟩ := blk_cell (i := 1) (u := .slice an g.nons.length cn) HQX.out rfl
      obtain ⟨a2, a2'⟩ := blk_cell (i := 2) (u := .slice (some ⟨gy, 0, none⟩) (ls.length + 1) cy) HQX.out rfl
      have a3 := heap_lt HQX.out
      clear a0' a1' a2'
      by_cases hh : CheckG (moreG g (pl, r))
      · as_aux_lemma =>
        have hok : okB (moreG g (pl, r)) = true := (okB_iff _).2 hh
        rw [hok] at HCH
        have HHH := Lib.hid hh
        clear hok hh
        go_upto_region 14 with (go_at_call 19; refine HCH.out.mono ?_; rintro e w4 ⟨rfl, hb4⟩)
        have hw4 := HWW.out.trans (hb4.mono HWW.out.size)
        have HG4 := Lib.hid (HGG.out.below hb4)
        have HH4 := Lib.hid (HGH.out.below hb4)
        have qB4 := (hb4.block B1 (heap_lt HQB.out)).trans HQB.out
        have qQ4 := (hb4.block Q a3).trans HQX.out
        have HW4 := Lib.hid hw4
        clear a0 a1 a2 hb4 hw4 HCH a3
        have e0 := (blk_cell (i := 0) (u := .slice at_ g.terms.length ct) qB4 rfl).1
        have e1 := (blk_cell (i := 1) (u := .slice an g.nons.length cn) qB4 rfl).1
        have e2 := (blk_cell (i := 2) (u := .slice (some ⟨b3, o3, none⟩) ls.length cp) qB4 rfl).1
        have f0 := (blk_cell (i := 0) (u := .slice at_ g.terms.length ct) qQ4 rfl).1
        have f1 := (blk_cell (i := 1) (u := .slice an g.nons.length cn) qQ4 rfl).1
        have f2 := (blk_cell (i := 2) (u := .slice (some ⟨gy, 0, none⟩) (ls.length + 1) cy) qQ4 rfl).1
        have lB4 := heap_lt qB4
        have lQ4 := heap_lt qQ4
        have HQB4 := Lib.hid qB4
        have HQQ4 := Lib.hid qQ4
        clear qB4 qQ4
        have HNG := Lib.hid fun W (hW : Below w4.heap.size w4 W) => new_one _ g W (HG4.out.below hW) HCK.out
        have HNH := Lib.hid fun W (hW : Below w4.heap.size w4 W) => new_one _ (moreG g (pl, r)) W (HH4.out.below hW) HHH.out
        have HSK : Hid (∀ W W' : World, Hid (Below w4.heap.size w4 W) → Below W.heap.size W W' → (W'.cell? ⟨B1, 0, none⟩ = some (.slice at_ g.terms.length ct) ∧ W'.cell? ⟨B1, 1, none⟩ = some (.slice an g.nons.length cn) ∧ W'.cell? ⟨B1, 2, none⟩ = some (.slice (some ⟨b3, o3, none⟩) ls.length cp) ∧ W'.cell? ⟨Q, 0, none⟩ = some (.slice at_ g.terms.length ct) ∧ W'.cell? ⟨Q, 1, none⟩ = some (.slice an g.nons.length cn) ∧ W'.cell? ⟨Q, 2, none⟩ = some (.slice (some ⟨gy, 0, none⟩) (ls.length + 1) cy)) ∧ Hid (Below w4.heap.size w4 W')) := Lib.hid fun W W' h k => by
          have hb := h.out.trans (k.mono h.out.size)
          have q1 := (hb.block B1 lB4).trans HQB4.out
          have q2 := (hb.block Q lQ4).trans HQQ4.out
          exact ⟨⟨(blk_cell q1 rfl).1, (blk_cell q1 rfl).1, (blk_cell q1 rfl).1, (blk_cell q2 rfl).1, (blk_cell q2 rfl).1, (blk_cell q2 rfl).1⟩, Lib.hid hb⟩
        clear HGG HGH HWW HQX HQB
        go_upto_region 15 with (go_at_call 51; refine (HNG.out _ (Below.refl _ _)).mono ?_; rintro e w5 ⟨hb5, pg, eg, rfl, hNG⟩)
        obtain ⟨⟨h0, h1, h2, h3, h4, h5⟩, _⟩ := HSK.out _ _ (Lib.hid (Below.refl w4.heap.size w4)) hb5
        have lB5 := Nat.lt_of_lt_of_le lB4 hb5.size
        have lQ5 := Nat.lt_of_lt_of_le lQ4 hb5.size
        have HNH5 := Lib.hid (HNH.out _ hb5)
        have HB5 := Lib.hid hb5
        clear e0 e1 e2 f0 f1 f2 hb5 HNG HNH
        go_upto_region 16 with (go_at_call 51; refine HNH5.out.mono ?_; rintro e w6 ⟨hb6, ph, eh, rfl, hNH⟩)
        have hb46 := HB5.out.trans (hb6.mono HB5.out.size)
        obtain ⟨⟨m0, m1, m2, m3, m4, m5⟩, _⟩ := HSK.out _ _ HB5 hb6
        have lB6 := Nat.lt_of_lt_of_le lB5 hb6.size
        have HFIN := Lib.hid (HW4.out.trans (hb46.mono HW4.out.size))
        clear h0 h1 h2 h3 h4 h5 HSK
        rcases hNG with ⟨hfg, rfl, Bg, bg, F, rfl, htg⟩ | ⟨hfg, rfl, rfl⟩
        · have hfh : Fru (moreG g (pl, r)) 100 := fru_more hfg
          rcases hNH with ⟨_, rfl, Bh, bh, G, rfl, hth⟩ | ⟨hn, _⟩
          · have htg6 := htg.below hb6
            have hiF := htg6.is HCK.out
            have hiG := hth.is HHH.out
            have hFG := first_more hiF hiG
            have HOG := Lib.hid fun W (hW : Below w6.heap.size w6 W) k (hk : k < g.nons.length) => (show Calls Try.prog 55 #[.pointer (some ⟨Bg, 0, none⟩), .slice (some ⟨W.heap.size, 0, none⟩) 1 1] (W.alloc (.cells #[.int .i64 (100 + (k : Int))] 3)) fun e w' => e = Ending.returned (.int .u64 (F.getD k 0 : Nat)) ∧ Below (W.alloc (.cells #[.int .i64 (100 + (k : Int))] 3)).heap.size (W.alloc (.cells #[.int .i64 (100 + (k : Int))] 3)) w' from (fof_any Bg bg g.terms.length F (some ⟨W.heap.size, 0, none⟩) 1 [100 + (k : Int)] (W.alloc (.cells #[.int .i64 (100 + (k : Int))] 3)) ((htg6.at_.below hW).below (box_below W _)) (cells_new W #[.int .i64 (100 + (k : Int))] 3) (by simp) (by intro s hs; simp at hs; omega) hiF.low (by omega) (by have := hiF.len; omega)).mono fun e w' ⟨he, hb⟩ => (⟨he.trans (by rw [of_one, alone_non (by omega) (by rw [hiF.len]; exact hk)]), hb⟩ : e = Ending.returned (.int .u64 (F.getD k 0 : Nat)) ∧ Below (W.alloc (.cells #[.int .i64 (100 + (k : Int))] 3)).heap.size (W.alloc (.cells #[.int .i64 (100 + (k : Int))] 3)) w'))
            have HOH := Lib.hid fun W (hW : Below w6.heap.size w6 W) k (hk : k < g.nons.length) => (show Calls Try.prog 55 #[.pointer (some ⟨Bh, 0, none⟩), .slice (some ⟨W.heap.size, 0, none⟩) 1 1] (W.alloc (.cells #[.int .i64 (100 + (k : Int))] 3)) fun e w' => e = Ending.returned (.int .u64 (G.getD k 0 : Nat)) ∧ Below (W.alloc (.cells #[.int .i64 (100 + (k : Int))] 3)).heap.size (W.alloc (.cells #[.int .i64 (100 + (k : Int))] 3)) w' from (fof_any Bh bh g.terms.length G (some ⟨W.heap.size, 0, none⟩) 1 [100 + (k : Int)] (W.alloc (.cells #[.int .i64 (100 + (k : Int))] 3)) ((hth.at_.below hW).below (box_below W _)) (cells_new W #[.int .i64 (100 + (k : Int))] 3) (by simp) (by intro s hs; simp at hs; omega) hiG.low (by omega) (by have h1 : G.length = g.nons.length := hiG.len; omega)).mono fun e w' ⟨he, hb⟩ => (⟨he.trans (by rw [of_one, alone_non (by omega) (by have h1 : G.length = g.nons.length := hiG.len; omega)]), hb⟩ : e = Ending.returned (.int .u64 (G.getD k 0 : Nat)) ∧ Below (W.alloc (.cells #[.int .i64 (100 + (k : Int))] 3)).heap.size (W.alloc (.cells #[.int .i64 (100 + (k : Int))] 3)) w'))
            have HIN := Lib.hid fun k W => (in_any (F.getD k 0) (G.getD k 0) (low_lt (hiF.low k) (by omega)) (low_lt (hiG.low k) (show g.terms.length ≤ 63 by omega)) W).mono fun e w' ⟨he, hw⟩ => (⟨he.trans (by rw [sub_less (low_lt (hiF.low k) (by omega)) (low_lt (hiG.low k) (show g.terms.length ≤ 63 by omega)) (hFG k)]; rfl), hw⟩ : e = Ending.returned (.bool true) ∧ w' = W)
            clear htg htg6 hth hiF hiG hFG hfg hfh hb6 hb46
            go_upto_region 20 with fail
            go_wp2
            go_loopw [117] (fun i wr => ∃ k : Nat, k ≤ g.nons.length ∧ i = .int .i64 k ∧ Hid (Below w6.heap.size w6 wr)) (fun i _ => g.nons.length - (intOf i).toNat)
            case atStart => exact ⟨0, by omega, rfl, Lib.hid (Below.refl _ _)⟩
            case round =>
              rename World => wz
              obtain ⟨k, hk, rfl, HBZ⟩ := hrel
              by_cases hlt : k < g.nons.length
              · have e1 : (k : Int) < g.nons.length := by omega
                have HG1 := Lib.hid (HOG.out wz HBZ.out k hlt)
                have HH1 := Lib.hid fun W (hW : Below w6.heap.size w6 W) => HOH.out W hW k hlt
                have HI1 := Lib.hid fun W => HIN.out k W
                clear HOG HOH HIN
                generalize F.getD k 0 = fk at *
                generalize G.getD k 0 = gk at *
                go_wp2_with (first
                  | (go_at_call 55; first
                      | (with_reducible refine HG1.out.mono ?_; rintro e w7 ⟨rfl, hb7⟩; have hbz7 := HBZ.out.trans (((box_below wz _).trans (hb7.mono (box_below wz _).size)).mono HBZ.out.size))
                      | (with_reducible refine (HH1.out _ hbz7).mono ?_; rintro e w8 ⟨rfl, hb8⟩))
                  | (go_at_call 50; refine (HI1.out _).mono ?_; rintro e w9 ⟨rfl, rfl⟩))
                exact ⟨⟨k + 1, by omega, by go_num, Lib.hid (hbz7.trans (((box_below w7 _).trans (hb8.mono (box_below w7 _).size)).mono hbz7.size))⟩, by simp [intOf]; omega⟩
              · have e1 : ¬ (k : Int) < g.nons.length := by omega
                go_wp2_with (go_at_call 52; refine (wakes6_any _).mono ?_; rintro e w9 ⟨rfl, hb9⟩)
                go_ret
                have q1 := HFIN.out.trans (HBZ.out.mono HFIN.out.size)
                exact ⟨rfl, q1.trans (hb9.mono q1.size)⟩
          · exact absurd hfh hn
        · clear hfg hNH hb6 hb46
          go_wp2_with (first
            | (go_at_call 52; refine (wakes6_any _).mono ?_; rintro e w9 ⟨rfl, hb9⟩))
          go_ret
          exact ⟨rfl, HFIN.out.trans (hb9.mono HFIN.out.size)⟩
      · as_aux_lemma =>
        have hok : okB (moreG g (pl, r)) = false := by
          cases h : okB (moreG g (pl, r)) with
          | false => rfl
          | true => exact absurd ((okB_iff _).1 h) hh
        rw [hok] at HCH
        clear hok hh
        go_wp2_with (first
          | (go_at_call 19; refine HCH.out.mono ?_; rintro e w4 ⟨rfl, hb4⟩)
          | (go_at_call 52; refine (wakes6_any _).mono ?_; rintro e w9 ⟨rfl, hb9⟩))
        go_ret
        have q1 := HWW.out.trans (hb4.mono HWW.out.size)
        exact ⟨rfl, q1.trans (hb9.mono q1.size)⟩


end Go.Proofs.Ytmilldclgheiaaa
