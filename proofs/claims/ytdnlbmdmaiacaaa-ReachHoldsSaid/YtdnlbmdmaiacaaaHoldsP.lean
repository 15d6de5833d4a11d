/- prodsHold, Check: walked. -/
import Derived.Test.YtdnlbmdmaiacaaaHolds
import Derived.Test.YtdnlbmdmaiacaaaSame
namespace Go.Proofs.Ytdnlbmdmaiacaaa
open Go.RowKit
open Doc

def PHolds (g : Gr) : Prop := 1 ≤ g.prods.length ∧ g.prods.length ≤ 24 ∧ (∀ p ∈ g.prods, prodB g p = true) ∧ g.prods.Nodup ∧ ∀ i, i < g.nons.length → ∃ p ∈ g.prods, p.1 = ((100 + i : Nat) : Int)
instance (g : Gr) : Decidable (PHolds g) := by unfold PHolds; exact inferInstance

def SmallG (g : Gr) : Prop := ∀ p ∈ g.prods, p.1 ≤ maxI ∧ ∀ s ∈ p.2, s ≤ maxI

theorem lays_append (a b : List Lay) : lays (a ++ b) = lays a ++ lays b := by simp [lays]

set_option maxRecDepth 100000 in
set_option maxHeartbeats 8000000 in
theorem prodsHold_any (v : Value) (g : Gr) (w : World) (hg : GramAt w v g) (hf : Fits g) (hs : SmallG g) :
    Calls Try.prog 53 #[v] w fun e w' => e = .returned (.bool (decide (PHolds g))) ∧ Below w.heap.size w w' := by
  have hg0 := hg
  obtain ⟨a1, a2, a3, c1, c2, c3, ls, rfl, hp, k1, k2, k3, k4, k5, k6, k7⟩ := hg
  have hpl : ls.length = g.prods.length := by rw [← hp, List.length_map]
  have hll : ls.length ≤ 1000000 := by have := hf.2.2.1; omega
  have hS : Below w.heap.size w (w.alloc (.cells #[.slice a1 g.terms.length c1, .slice a2 g.nons.length c2, .slice a3 ls.length c3] 26)) := (Below.refl _ _).alloc (Nat.le_refl _) _
  have f0 := heap_alloc_new w (.cells #[.slice a1 g.terms.length c1, .slice a2 g.nons.length c2, .slice a3 ls.length c3] 26)
  have HP := Lib.hid hp
  have HPL := Lib.hid hpl
  have HF := Lib.hid hf
  have HSM := Lib.hid hs
  have HG := Lib.hid (hg0.below hS)
  have H3 := Lib.hid (k3.below hS)
  have H4 := Lib.hid fun q (hq : q ∈ ls) => (k4 q hq).below hS
  have HS := Lib.hid hS
  have HF0 := Lib.hid f0
  have hn1 : g.nons.length ≤ 1000000 := hf.2.1
  clear hg0 hp hpl k1 k2 k3 k4 hS f0 hf hs
  by_cases hz : 1 ≤ ls.length ∧ ls.length ≤ 24
  · obtain ⟨z1, z2⟩ := hz
    have HZ := Lib.hid (And.intro z1 z2)
    go_enter Try.func53, Try.ntmps53
    go_wp2
    generalize w.alloc (.cells #[.slice a1 g.terms.length c1, .slice a2 g.nons.length c2, .slice a3 ls.length c3] 26) = S at *
    go_loopw [19] (fun i wr => ∃ k : Nat, k ≤ ls.length ∧ i = .int .i64 k ∧ Below S.heap.size S wr ∧ Hid ((∀ j p, j < k → g.prods[j]? = some p → prodB g p = true) ∧ (g.prods.take k).Nodup)) (fun i _ => ls.length - (intOf i).toNat)
    case atStart => exact ⟨0, Nat.zero_le _, rfl, Below.refl _ _, Lib.hid ⟨by intro j p hj; omega, by simp⟩⟩
    case round =>
      obtain ⟨k, hk, rfl, hbe, HB⟩ := hrel
      by_cases hlt : k < ls.length
      · obtain ⟨p, hpk⟩ : ∃ p, ls[k]? = some p := ⟨_, List.getElem?_eq_getElem hlt⟩
        have hpm := List.mem_of_getElem? hpk
        have gp : g.prods[k]? = some p.plain := by rw [← HP.out, List.getElem?_map, hpk]; rfl
        have hgm : p.plain ∈ g.prods := List.mem_of_getElem? gp
        obtain ⟨b, off, rfl, hb, hc⟩ := (H3.out.below hbe).get (by intro e; have := (lays_at ls k p hpk).1; rw [e] at this; simp at this)
        have x0 := hc _ _ (lays_at ls k p hpk).1
        have x1 := hc _ _ (lays_at ls k p hpk).2
        rw [← Nat.add_assoc] at x1
        have e1 : (k : Int) < ls.length := by omega
        have i1 : (k : Int) ≤ c3 := by omega
        have hph := fun W (hW : Below wr.heap.size wr W) => prodHolds_any _ g p W ((HG.out.below hbe).below hW) (((H4.out p hpm).below hbe).below hW) (HF.out.2.2.2 _ hgm) (HSM.out _ hgm)
        have htl : (ls.take k).length = k := by rw [List.length_take]; omega
        have hst := fun W (hW : Below wr.heap.size wr W) => stands_any (some ⟨b, off, none⟩) c3 (ls.take k) p W (by
            rcases ((H3.out.below hbe).below hW) with h | ⟨b', o', he, hl', hc'⟩
            · exfalso
              have := (lays_at ls k p hpk).1; rw [h] at this; simp at this
            · cases he
              refine .inr ⟨_, _, rfl, hl', fun j u hj => hc' j u ?_⟩
              have : (lays ls)[j]? = (lays (ls.take k) ++ lays (ls.drop k))[j]? := by rw [← lays_append, List.take_append_drop]
              rw [this, List.getElem?_append_left (List.getElem?_eq_some_iff.1 hj).1]
              exact hj) (by omega) (((H4.out p hpm).below hbe).below hW) (HF.out.2.2.2 _ hgm)
          (fun q hq => ⟨((H4.out q (List.mem_of_mem_take hq)).below hbe).below hW, HF.out.2.2.2 q.plain (HP.out ▸ List.mem_map_of_mem (List.mem_of_mem_take hq))⟩)
        rw [htl] at hst
        obtain ⟨pl, pr, pa, pc⟩ := p
        unfold prodV Lay.plain at hph hst
        unfold Lay.plain at gp hgm
        simp only at hph hst gp hgm x0 x1
        have hal : ∀ o, Below wr.heap.size wr (wr.alloc o) := fun o => (Below.refl _ _).alloc (Nat.le_refl _) o
        have hgq := (hbe.block _ (heap_lt HF0.out)).trans HF0.out
        have hgq1 := ((hal (.cells #[.int .i64 pl, .slice pa pr.length pc] 37)).block _ (heap_lt hgq)).trans hgq
        have hpq1 := heap_alloc_new wr (.cells #[.int .i64 pl, .slice pa pr.length pc] 37)
        have HPH := Lib.hid (hph _ ((hal (.cells #[.int .i64 pl, .slice pa pr.length pc] 37)).drew))
        have HST := Lib.hid fun W (hW : Below (wr.alloc (.cells #[.int .i64 pl, .slice pa pr.length pc] 37)).drew.heap.size (wr.alloc (.cells #[.int .i64 pl, .slice pa pr.length pc] 37)).drew W) => hst W ((hal (.cells #[.int .i64 pl, .slice pa pr.length pc] 37)).drew.trans (hW.mono (by simp)))
        have HGP := Lib.hid gp
        have HGM := Lib.hid hgm
        have HAL := Lib.hid (hbe.trans ((hal (.cells #[.int .i64 pl, .slice pa pr.length pc] 37)).mono hbe.size))
        have HG1 := Lib.hid hgq1
        have HP1 := Lib.hid hpq1
        clear hph hst gp hgm hal hgq hgq1 hpq1 hc htl hpk hpm hbe
        go_wp2
        have g0 := (blk_cell (i := 0) HG1.out rfl).1
        have g1 := (blk_cell (i := 1) HG1.out rfl).1
        have g2 := (blk_cell (i := 2) HG1.out rfl).1
        have p0 := (blk_cell (i := 0) HP1.out rfl).1
        have p1 := (blk_cell (i := 1) HP1.out rfl).1
        generalize wr.alloc (.cells #[.int .i64 pl, .slice pa pr.length pc] 37) = W1 at *
        generalize wr.heap.size = B4 at *
        clear x0 x1 hb
        cases hpb : prodB g (pl, pr) with
        | false =>
          have HR := Lib.hid (show decide (PHolds g) = false by
            rw [decide_eq_false_iff_not]
            intro h
            have := h.2.2.1 _ HGM.out
            rw [hpb] at this; cases this)
          rw [hpb] at HPH
          first
            | (go_region_with (go_at_call 95; with_reducible refine HPH.out.mono ?_
                               rintro e w3 ⟨rfl, hb3⟩))
            | fail
          all_goals
            go_wp2
            go_ret
            have h1 := HAL.out.drew.trans (hb3.mono HAL.out.size)
            exact ⟨ret_bool HR.out.symm, HS.out.trans (h1.mono HS.out.size)⟩
        | true =>
          rw [hpb] at HPH
          cases hsb : (ls.take k).any fun q => decide ((pl, pr) = (q.left, q.right)) with
          | true =>
            have HR := Lib.hid (show decide (PHolds g) = false by
              rw [decide_eq_false_iff_not]
              intro h
              rw [List.any_eq_true] at hsb
              obtain ⟨q, hq, he⟩ := hsb
              obtain ⟨j, hj, ej⟩ := List.getElem_of_mem hq
              rw [List.length_take] at hj
              rw [List.getElem_take] at ej
              have h1 : g.prods[j]? = some (pl, pr) := by
                rw [← HP.out, List.getElem?_map, List.getElem?_eq_getElem (by omega), ej, of_decide_eq_true he]; rfl
              exact not_nodupG h1 HGP.out (by omega) h.2.2.2.1)
            simp only [hsb] at HST
            first
              | (go_region_with (first
                  | (go_at_call 95; with_reducible refine HPH.out.mono ?_
                     rintro e w3 ⟨rfl, hb3⟩
                     have hg3 := (hb3.block _ (heap_lt HG1.out)).trans HG1.out
                     have hp3 := (hb3.block _ (heap_lt HP1.out)).trans HP1.out
                     have g23 := (blk_cell (i := 2) hg3 rfl).1
                     have p03 := (blk_cell (i := 0) hp3 rfl).1
                     have p13 := (blk_cell (i := 1) hp3 rfl).1)
                  | (go_at_call 96; with_reducible refine (HST.out _ hb3).mono ?_
                     rintro e w4 ⟨rfl, hb4⟩)))
              | fail
            all_goals
              go_wp2
              go_ret
              have h1 := HAL.out.drew.trans (hb3.mono HAL.out.size)
              have h2 := h1.trans (hb4.mono h1.size)
              exact ⟨ret_bool HR.out.symm, HS.out.trans (h2.mono HS.out.size)⟩
          | false =>
            have HB2 : Hid ((∀ j p, j < k + 1 → g.prods[j]? = some p → prodB g p = true) ∧ (g.prods.take (k + 1)).Nodup) := Lib.hid ⟨fun j x hj hx => by
              by_cases h : j = k
              · subst h; rw [HGP.out] at hx; cases hx; exact hpb
              · exact HB.out.1 j x (by omega) hx, nodup_takeG HGP.out HB.out.2 fun j hj hjx => by
                rw [List.any_eq_false] at hsb
                rw [← HP.out, List.getElem?_map] at hjx
                cases hq : ls[j]? with
                | none => rw [hq] at hjx; cases hjx
                | some q =>
                  rw [hq] at hjx
                  have hm : q ∈ ls.take k := List.mem_of_getElem? (i := j) (by rw [List.getElem?_take_of_lt hj]; exact hq)
                  exact hsb q hm (decide_eq_true (Option.some.inj hjx).symm)⟩
            simp only [hsb] at HST
            first
              | (go_region_with (first
                  | (go_at_call 95; with_reducible refine HPH.out.mono ?_
                     rintro e w3 ⟨rfl, hb3⟩
                     have hg3 := (hb3.block _ (heap_lt HG1.out)).trans HG1.out
                     have hp3 := (hb3.block _ (heap_lt HP1.out)).trans HP1.out
                     have g23 := (blk_cell (i := 2) hg3 rfl).1
                     have p03 := (blk_cell (i := 0) hp3 rfl).1
                     have p13 := (blk_cell (i := 1) hp3 rfl).1)
                  | (go_at_call 96; with_reducible refine (HST.out _ hb3).mono ?_
                     rintro e w4 ⟨rfl, hb4⟩)))
              | fail
            all_goals
              have h1 := HAL.out.drew.trans (hb3.mono HAL.out.size)
              have h2 := h1.trans (hb4.mono h1.size)
              go_wp2
              go_roundw
              case rel => exact ⟨k + 1, by omega, by go_num, h2, HB2⟩
              case measure => simp [intOf]; omega
      · have hAll := Lib.hid (show (∀ p ∈ g.prods, prodB g p = true) ∧ g.prods.Nodup by
          have e : g.prods.take k = g.prods := List.take_of_length_le (by have := HPL.out; omega)
          have h := HB.out
          rw [e] at h
          refine ⟨fun x hx => ?_, h.2⟩
          obtain ⟨j, hj, ej⟩ := List.getElem_of_mem hx
          exact h.1 j x (by have := HPL.out; omega) (by rw [List.getElem?_eq_getElem hj, ej]))
        have e1 : ¬ (k : Int) < ls.length := by omega
        have hgq := (hbe.block _ (heap_lt HF0.out)).trans HF0.out
        have g1 := (blk_cell (i := 1) hgq rfl).1
        have HBE := Lib.hid hbe
        clear HB hgq hbe
        go_wp2
        go_loopw [40] (fun i w6 => ∃ k : Nat, k ≤ g.nons.length ∧ i = .int .i64 k ∧ Below S.heap.size S w6 ∧ Hid (∀ i, i < k → ∃ p ∈ g.prods, p.1 = ((100 + i : Nat) : Int))) (fun i _ => g.nons.length - (intOf i).toNat)
        case atStart => exact ⟨0, Nat.zero_le _, rfl, HBE.out, Lib.hid (by intro i hi; omega)⟩
        case round =>
          clear HBE g1 e1 hlt hk
          obtain ⟨k, hk, rfl, hbe, HB⟩ := hrel
          rename World => w6
          by_cases hlt : k < g.nons.length
          · have e1 : (k : Int) < g.nons.length := by omega
            have hgq := (hbe.block _ (heap_lt HF0.out)).trans HF0.out
            have g2 := (blk_cell (i := 2) hgq rfl).1
            have hhp := hasProd_any a3 c3 ls (100 + (k : Int)) w6 (H3.out.below hbe) hll
            have HHP := Lib.hid hhp
            have HBE := Lib.hid hbe
            clear hhp hgq hbe
            cases hh : ls.any fun q => decide (q.left = 100 + (k : Int)) with
            | true =>
              have HB2 : Hid (∀ i, i < k + 1 → ∃ p ∈ g.prods, p.1 = ((100 + i : Nat) : Int)) := Lib.hid fun i hi => by
                by_cases h : i = k
                · subst h
                  rw [List.any_eq_true] at hh
                  obtain ⟨q, hq, he⟩ := hh
                  exact ⟨q.plain, HP.out ▸ List.mem_map_of_mem hq, by rw [show q.plain.1 = q.left from rfl, of_decide_eq_true he]; push_cast; rfl⟩
                · exact HB.out i (by omega)
              go_wp2_with (go_at_call 97; refine HHP.out.mono ?_; rintro e w7 ⟨rfl, hb7⟩; simp only [hh])
              go_roundw
              case rel => exact ⟨k + 1, by omega, by go_num, HBE.out.trans (hb7.mono HBE.out.size), HB2⟩
              case measure => simp [intOf]; omega
            | false =>
              have HR := Lib.hid (show decide (PHolds g) = false by
                rw [decide_eq_false_iff_not]
                intro h
                obtain ⟨p, hp, he⟩ := h.2.2.2.2 k hlt
                rw [← HP.out] at hp
                obtain ⟨q, hq, rfl⟩ := List.mem_map.1 hp
                rw [List.any_eq_false] at hh
                exact hh q hq (decide_eq_true (by rw [show q.plain.1 = q.left from rfl] at he; rw [he]; push_cast; rfl)))
              go_wp2_with (go_at_call 97; refine HHP.out.mono ?_; rintro e w7 ⟨rfl, hb7⟩; simp only [hh])
              go_ret
              have h1 := HBE.out.trans (hb7.mono HBE.out.size)
              exact ⟨ret_bool HR.out.symm, HS.out.trans (h1.mono HS.out.size)⟩
          · have HR := Lib.hid (show decide (PHolds g) = true from decide_eq_true ⟨by have := HZ.out.1; have := HPL.out; omega, by have := HZ.out.2; have := HPL.out; omega, hAll.out.1, hAll.out.2, fun i hi => HB.out i (by omega)⟩)
            have e1 : ¬ (k : Int) < g.nons.length := by omega
            clear HB
            go_wp2
            go_ret
            exact ⟨ret_bool HR.out.symm, HS.out.trans (hbe.mono HS.out.size)⟩
  · have HR := Lib.hid (show decide (PHolds g) = false by
      rw [decide_eq_false_iff_not]
      intro h
      exact hz ⟨by have := h.1; have := HPL.out; omega, by have := h.2.1; have := HPL.out; omega⟩)
    have hor : ls.length < 1 ∨ (1 ≤ ls.length ∧ 24 < ls.length) := by omega
    clear hz
    rcases hor with q | ⟨q, q'⟩
    all_goals
      go_enter Try.func53, Try.ntmps53
      go_wp2
      go_ret
      exact ⟨ret_bool HR.out.symm, HS.out⟩

end Go.Proofs.Ytdnlbmdmaiacaaa
