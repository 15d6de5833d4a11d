/- reach: the small calls, walked. reach: lefts, walked. -/
import Derived.Test.YtdnlbmdmaiacaaaReachS
import Derived.Test.YtdnlbmdmaiacaaaChk
import Derived.Test.YtdnlbmdmaiacaaaWake
namespace Go.Proofs.Ytdnlbmdmaiacaaa
open Go.RowKit
open Doc

theorem place_any (s : Int) (w : World) (h1 : -1000000 ≤ s) (h2 : s ≤ 1000000) :
    Calls Try.prog 73 #[.int .i64 s] w fun e w' => e = .returned (.int .i64 (s - 100)) ∧ w' = w := by
  go_enter Try.func73, Try.ntmps73
  go_wp2
  go_ret
  exact ⟨rfl, rfl⟩
theorem terminal_any (s : Int) (w : World) :
    Calls Try.prog 106 #[.int .i64 s] w fun e w' => e = .returned (.bool (decide (s < 100))) ∧ w' = w := by
  go_enter Try.func106, Try.ntmps106
  go_wp2
  go_ret
  exact ⟨rfl, rfl⟩

theorem all_take {r : List Int} {h : Int → Bool} {k : Nat} {s : Int} (hs : r[k]? = some s) (hp : (r.take k).all h = true) (hh : h s = true) : (r.take (k + 1)).all h = true := by
  rw [List.take_add_one, hs]; simp only [Option.toList_some, List.all_append, hp, List.all_cons, hh, List.all_nil, Bool.and_self]
theorem all_not {r : List Int} {h : Int → Bool} {k : Nat} {s : Int} (hs : r[k]? = some s) (hh : h s = false) : r.all h = false := by
  rw [List.all_eq_false]
  exact ⟨s, List.mem_of_getElem? hs, by simp [hh]⟩

def Small (r : List Int) : Prop := ∀ s ∈ r, -1000 ≤ s ∧ s ≤ 1000

set_option maxHeartbeats 2000000 in
theorem vanishes_any (left : Int) (a : Option Addr) (cap : Nat) (r : List Int) (S : Nat) (hS : S < 18446744073709551616) (w : World) (h : Cells w a (nums r)) (hr : Small r) (hl : r.length ≤ 1000000) :
    Calls Try.prog 79 #[.agg #[.int .i64 left, .slice a r.length cap], .int .u64 S] w fun e w' => e = .returned (.bool (vanI r S)) ∧ Below w.heap.size w w' := by
  have hbl : Below w.heap.size w (w.alloc (.cells #[.int .i64 left, .slice a r.length cap] 37)) := (Below.refl _ _).alloc (Nat.le_refl _) _
  have HC := Lib.hid (h.below hbl)
  have HBL := Lib.hid hbl
  have HR := Lib.hid hr
  clear h hbl hr
  go_enter Try.func79, Try.ntmps79
  go_wp2
  generalize w.alloc (.cells #[.int .i64 left, .slice a r.length cap] 37) = W at *
  go_loop [10] (fun i => ∃ k : Nat, k ≤ r.length ∧ i = .int .i64 k ∧ Hid ((r.take k).all (fun s => shas S (s - 100)) = true)) (fun i => r.length - (intOf i).toNat)
  case atStart => exact ⟨0, by omega, rfl, Lib.hid (by simp)⟩
  case round =>
    obtain ⟨k, hk, rfl, HA⟩ := hrel
    by_cases hlt : k < r.length
    · obtain ⟨s, hs⟩ : ∃ s, r[k]? = some s := ⟨_, List.getElem?_eq_getElem hlt⟩
      obtain ⟨b, off, rfl, hb, hc⟩ := HC.out.get (by unfold nums; intro e; rw [List.map_eq_nil_iff] at e; rw [e] at hlt; simp at hlt)
      have x0 := hc k _ (nums_at hs)
      have e1 : (k : Int) < r.length := by omega
      have hsm := HR.out s (List.mem_of_getElem? hs)
      have HP := Lib.hid (place_any s W (by omega) (by omega))
      have HH := Lib.hid (has_any S (s - 100) hS W)
      have HS := Lib.hid hs
      clear hc hs hsm
      cases hv : shas S (s - 100) with
      | true =>
        have hN := Lib.hid (all_take HS.out HA.out hv)
        go_wp2_with (first | (go_at_call 73; refine HP.out.mono ?_; rintro e w2 ⟨rfl, rfl⟩) | (go_at_call 45; refine HH.out.mono ?_; rintro e w2 ⟨rfl, rfl⟩; simp only [hv]))
        exact ⟨⟨k + 1, by omega, by go_num, hN⟩, by simp [intOf]; omega⟩
      | false =>
        have hN := Lib.hid (show vanI r S = false from all_not HS.out hv)
        go_wp2_with (first | (go_at_call 73; refine HP.out.mono ?_; rintro e w2 ⟨rfl, rfl⟩) | (go_at_call 45; refine HH.out.mono ?_; rintro e w2 ⟨rfl, rfl⟩; simp only [hv]))
        go_ret
        exact ⟨ret_bool hN.out.symm, HBL.out⟩
    · have hN := Lib.hid (show vanI r S = true by unfold vanI; have := HA.out; rwa [List.take_of_length_le (by omega)] at this)
      have e1 : ¬ (k : Int) < r.length := by omega
      go_wp2
      go_ret
      exact ⟨ret_bool hN.out.symm, HBL.out⟩

set_option maxHeartbeats 2000000 in
theorem bears_any (left : Int) (a : Option Addr) (cap : Nat) (r : List Int) (S : Nat) (hS : S < 18446744073709551616) (w : World) (h : Cells w a (nums r)) (hr : Small r) (hl : r.length ≤ 1000000) :
    Calls Try.prog 74 #[.agg #[.int .i64 left, .slice a r.length cap], .int .u64 S] w fun e w' => e = .returned (.bool (bearI r S)) ∧ Below w.heap.size w w' := by
  have hbl : Below w.heap.size w (w.alloc (.cells #[.int .i64 left, .slice a r.length cap] 37)) := (Below.refl _ _).alloc (Nat.le_refl _) _
  have HC := Lib.hid (h.below hbl)
  have HBL := Lib.hid hbl
  have HR := Lib.hid hr
  clear h hbl hr
  go_enter Try.func74, Try.ntmps74
  go_wp2
  generalize w.alloc (.cells #[.int .i64 left, .slice a r.length cap] 37) = W at *
  go_loop [10] (fun i => ∃ k : Nat, k ≤ r.length ∧ i = .int .i64 k ∧ Hid ((r.take k).all (fun s => decide (s < 100) || shas S (s - 100)) = true)) (fun i => r.length - (intOf i).toNat)
  case atStart => exact ⟨0, by omega, rfl, Lib.hid (by simp)⟩
  case round =>
    obtain ⟨k, hk, rfl, HA⟩ := hrel
    by_cases hlt : k < r.length
    · obtain ⟨s, hs⟩ : ∃ s, r[k]? = some s := ⟨_, List.getElem?_eq_getElem hlt⟩
      obtain ⟨b, off, rfl, hb, hc⟩ := HC.out.get (by unfold nums; intro e; rw [List.map_eq_nil_iff] at e; rw [e] at hlt; simp at hlt)
      have x0 := hc k _ (nums_at hs)
      have e1 : (k : Int) < r.length := by omega
      have hsm := HR.out s (List.mem_of_getElem? hs)
      have HP := Lib.hid (place_any s W (by omega) (by omega))
      have HH := Lib.hid (has_any S (s - 100) hS W)
      have HS := Lib.hid hs
      clear hc hs hsm
      have HT := Lib.hid (terminal_any s W)
      cases ht : decide (s < 100) with
      | true =>
        have hN := Lib.hid (all_take (h := fun s => decide (s < 100) || shas S (s - 100)) HS.out HA.out (by simp only [ht, Bool.true_or]))
        go_wp2_with (go_at_call 106; refine HT.out.mono ?_; rintro e w2 ⟨rfl, rfl⟩; simp only [ht])
        exact ⟨⟨k + 1, by omega, by go_num, hN⟩, by simp [intOf]; omega⟩
      | false =>
        cases hv : shas S (s - 100) with
        | true =>
          have hN := Lib.hid (all_take (h := fun s => decide (s < 100) || shas S (s - 100)) HS.out HA.out (by simp only [ht, hv, Bool.or_true]))
          go_wp2_with (first | (go_at_call 106; refine HT.out.mono ?_; rintro e w2 ⟨rfl, rfl⟩; simp only [ht]) | (go_at_call 73; refine HP.out.mono ?_; rintro e w2 ⟨rfl, rfl⟩) | (go_at_call 45; refine HH.out.mono ?_; rintro e w2 ⟨rfl, rfl⟩; simp only [hv]))
          exact ⟨⟨k + 1, by omega, by go_num, hN⟩, by simp [intOf]; omega⟩
        | false =>
          have hN := Lib.hid (show bearI r S = false from all_not (h := fun s => decide (s < 100) || shas S (s - 100)) HS.out (by simp only [ht, hv, Bool.or_self]))
          go_wp2_with (first | (go_at_call 106; refine HT.out.mono ?_; rintro e w2 ⟨rfl, rfl⟩; simp only [ht]) | (go_at_call 73; refine HP.out.mono ?_; rintro e w2 ⟨rfl, rfl⟩) | (go_at_call 45; refine HH.out.mono ?_; rintro e w2 ⟨rfl, rfl⟩; simp only [hv]))
          go_ret
          exact ⟨ret_bool hN.out.symm, HBL.out⟩
    · have hN := Lib.hid (show bearI r S = true by unfold bearI; have := HA.out; rwa [List.take_of_length_le (by omega)] at this)
      have e1 : ¬ (k : Int) < r.length := by omega
      go_wp2
      go_ret
      exact ⟨ret_bool hN.out.symm, HBL.out⟩

theorem nul11_any (left : Int) (a : Option Addr) (cap : Nat) (r : List Int) (b S : Nat) (hS : S < 18446744073709551616) (w : World) (hc : w.heap[b]? = some (.cells #[.int .u64 S] 59)) (h : Cells w a (nums r)) (hr : Small r) (hl : r.length ≤ 1000000) :
    Calls Try.prog 78 #[.agg #[.int .i64 left, .slice a r.length cap], .pointer (some ⟨b, 0, none⟩)] w fun e w' => e = .returned (.bool (vanI r S)) ∧ Below w.heap.size w w' := by
  have hbl : Below w.heap.size w (w.alloc (.cells #[.int .i64 left, .slice a r.length cap] 37)) := (Below.refl _ _).alloc (Nat.le_refl _) _
  have HV := Lib.hid (vanishes_any left a cap r S hS (w.alloc (.cells #[.int .i64 left, .slice a r.length cap] 37)) (h.below hbl) hr hl)
  have c0 := (blk_cell (i := 0) (u := .int .u64 S) hc rfl).1
  have hlt := heap_lt hc
  have HBL := Lib.hid hbl
  clear h hbl hr hc
  go_enter Try.func78, Try.ntmps78
  go_wp2_with (go_at_call 79; refine HV.out.mono ?_; rintro e w2 ⟨rfl, hb2⟩)
  go_ret
  exact ⟨rfl, HBL.out.trans (hb2.mono HBL.out.size)⟩

theorem fru11_any (left : Int) (a : Option Addr) (cap : Nat) (r : List Int) (b S : Nat) (hS : S < 18446744073709551616) (w : World) (hc : w.heap[b]? = some (.cells #[.int .u64 S] 59)) (h : Cells w a (nums r)) (hr : Small r) (hl : r.length ≤ 1000000) :
    Calls Try.prog 105 #[.agg #[.int .i64 left, .slice a r.length cap], .pointer (some ⟨b, 0, none⟩)] w fun e w' => e = .returned (.bool (bearI r S)) ∧ Below w.heap.size w w' := by
  have hbl : Below w.heap.size w (w.alloc (.cells #[.int .i64 left, .slice a r.length cap] 37)) := (Below.refl _ _).alloc (Nat.le_refl _) _
  have HV := Lib.hid (bears_any left a cap r S hS (w.alloc (.cells #[.int .i64 left, .slice a r.length cap] 37)) (h.below hbl) hr hl)
  have c0 := (blk_cell (i := 0) (u := .int .u64 S) hc rfl).1
  have hlt := heap_lt hc
  have HBL := Lib.hid hbl
  clear h hbl hr hc
  go_enter Try.func105, Try.ntmps105
  go_wp2_with (go_at_call 74; refine HV.out.mono ?_; rintro e w2 ⟨rfl, hb2⟩)
  go_ret
  exact ⟨rfl, HBL.out.trans (hb2.mono HBL.out.size)⟩

theorem leftsN_step {ls : List Lay} {k : Nat} {p : Lay} {S : Nat} (hp : ls[k]? = some p) (h : List Int → Nat → Bool) : leftsF ((ls.take (k + 1)).map Lay.plain) h S = if h p.right S = true then leftsF ((ls.take k).map Lay.plain) h S ||| sdig (p.left - 100) else leftsF ((ls.take k).map Lay.plain) h S := by
  rw [List.take_add_one, hp]
  simp only [Option.toList_some, List.map_append, List.map_cons, List.map_nil, leftsF, List.foldl_append, List.foldl_cons, List.foldl_nil]
  rfl


end Go.Proofs.Ytdnlbmdmaiacaaa

namespace Go.Proofs.Ytdnlbmdmaiacaaa
open Go.RowKit
open Doc

set_option maxHeartbeats 2000000 in
theorem lefts_nul (a1 a2 a3 : Option Addr) (n1 c1 n2 c2 c3 : Nat) (ls : List Lay) (b S : Nat) (hS : S < 18446744073709551616) (w : World) (hc : w.heap[b]? = some (.cells #[.int .u64 S] 59)) (h3 : Cells w a3 (lays ls)) (h4 : ∀ p ∈ ls, Cells w p.addr (nums p.right)) (hr : ∀ p ∈ ls, Small p.right ∧ p.right.length ≤ 1000000 ∧ -1000 ≤ p.left ∧ p.left ≤ 1000) (hls : ls.length ≤ 1000000) :
    Calls Try.prog 77 #[.agg #[.slice a1 n1 c1, .slice a2 n2 c2, .slice a3 ls.length c3], .func (.func 78) #[] #[.pointer (some ⟨b, 0, none⟩)]] w fun e w' => e = .returned (.int .u64 (leftsF (ls.map Lay.plain) vanI S : Nat)) ∧ Below w.heap.size w w' := by
  have hbl : Below w.heap.size w (w.alloc (.cells #[.slice a1 n1 c1, .slice a2 n2 c2, .slice a3 ls.length c3] 26)) := (Below.refl _ _).alloc (Nat.le_refl _) _
  have HC3 := Lib.hid (h3.below hbl)
  have HC4 := Lib.hid (fun p hp => (h4 p hp).below hbl)
  have HCB := Lib.hid ((hbl.block b (heap_lt hc)).trans hc)
  have HBL := Lib.hid hbl
  have HR := Lib.hid hr
  clear h3 h4 hbl hr hc
  go_enter Try.func77, Try.ntmps77
  go_wp2
  generalize w.alloc (.cells #[.slice a1 n1 c1, .slice a2 n2 c2, .slice a3 ls.length c3] 26) = W at *
  go_loopw [5, 11] (fun s i wr => ∃ k : Nat, k ≤ ls.length ∧ i = .int .i64 k ∧ s = .int .u64 (leftsF ((ls.take k).map Lay.plain) vanI S : Nat) ∧ Below W.heap.size W wr) (fun _ i _ => ls.length - (intOf i).toNat)
  case atStart => exact ⟨0, by omega, rfl, rfl, Below.refl _ _⟩
  case round =>
    obtain ⟨k, hk, rfl, rfl, hbe⟩ := hrel
    by_cases hlt : k < ls.length
    · obtain ⟨p, hp⟩ : ∃ p, ls[k]? = some p := ⟨_, List.getElem?_eq_getElem hlt⟩
      obtain ⟨pl, pr, pa, pc⟩ := p
      obtain ⟨b3, o3, rfl, hb3, hc3⟩ := (HC3.out.below hbe).get (by intro e; have := (lays_at ls k _ hp).1; rw [e] at this; simp at this)
      have x0 := hc3 _ _ (lays_at ls k _ hp).1
      have x1 := hc3 _ _ (lays_at ls k _ hp).2
      rw [← Nat.add_assoc] at x1
      simp only at x0 x1
      have e1 : (k : Int) < ls.length := by omega
      have hpm := List.mem_of_getElem? hp
      obtain ⟨r1, r2, r3, r4⟩ := HR.out _ hpm
      simp only at r1 r2 r3 r4
      have hbA : Below wr.heap.size wr (wr.alloc (.cells #[.int .i64 pl, .slice pa pr.length pc] 37)) := (Below.refl _ _).alloc (Nat.le_refl _) _
      have HCL := Lib.hid (nul11_any pl pa pc pr b S hS (wr.alloc (.cells #[.int .i64 pl, .slice pa pr.length pc] 37)) ((hbA.block b (heap_lt ((hbe.block b (heap_lt HCB.out)).trans HCB.out))).trans ((hbe.block b (heap_lt HCB.out)).trans HCB.out)) ((show Cells wr pa (nums pr) from (HC4.out _ hpm).below hbe).below hbA) r1 r2)
      have HPL := Lib.hid fun W => place_any pl W (by omega) (by omega)
      have hll := lefts_lt ((ls.take k).map Lay.plain) vanI S
      have HWI := Lib.hid fun W => with_any (leftsF ((ls.take k).map Lay.plain) vanI S) (pl - 100) hll W
      have HST := Lib.hid (leftsN_step (S := S) hp vanI)
      have HBE := Lib.hid hbe
      have HBA := Lib.hid hbA
      clear hc3 hp hpm r1 r2 hbA hbe
      generalize leftsF ((ls.take k).map Lay.plain) vanI S = T at *
      cases hv : vanI pr S with
      | true =>
        have hN := Lib.hid (show leftsF ((ls.take (k + 1)).map Lay.plain) vanI S = T ||| sdig (pl - 100) by rw [HST.out]; exact if_pos hv)
        go_wp2_with (first
          | (go_at_call 78; refine HCL.out.mono ?_; rintro e w2 ⟨rfl, hb2⟩; simp only [hv]; have y0 := (hb2.cell (p := ⟨wr.heap.size, 0, none⟩) (by simp)).trans (by go_simp : _ = some (.int .i64 pl)); have y1 : wr.heap.size < w2.heap.size := Nat.lt_of_lt_of_le (by simp) hb2.size)
          | (go_at_call 73; refine (HPL.out _).mono ?_; rintro e w2 ⟨rfl, rfl⟩)
          | (go_at_call 80; refine (HWI.out _).mono ?_; rintro e w2 ⟨rfl, rfl⟩))
        exact ⟨⟨k + 1, by omega, by go_num, by rw [hN.out], HBE.out.trans ((HBA.out.trans (hb2.mono HBA.out.size)).mono HBE.out.size)⟩, by simp [intOf]; omega⟩
      | false =>
        have hN := Lib.hid (show leftsF ((ls.take (k + 1)).map Lay.plain) vanI S = T by rw [HST.out]; exact if_neg (by show ¬ vanI pr S = true; rw [hv]; decide))
        go_wp2_with (go_at_call 78; refine HCL.out.mono ?_; rintro e w2 ⟨rfl, hb2⟩; simp only [hv])
        exact ⟨⟨k + 1, by omega, by go_num, by rw [hN.out], HBE.out.trans ((HBA.out.trans (hb2.mono HBA.out.size)).mono HBE.out.size)⟩, by simp [intOf]; omega⟩
    · have e1 : ¬ (k : Int) < ls.length := by omega
      have hN := Lib.hid (show leftsF ((ls.take k).map Lay.plain) vanI S = leftsF (ls.map Lay.plain) vanI S by rw [List.take_of_length_le (by omega)])
      generalize leftsF ((ls.take k).map Lay.plain) vanI S = T at *
      have HBE := Lib.hid hbe
      clear hbe
      go_wp2
      go_ret
      exact ⟨ret_int (by rw [hN.out]), HBL.out.trans (HBE.out.mono HBL.out.size)⟩


set_option maxHeartbeats 2000000 in
theorem lefts_fru (a1 a2 a3 : Option Addr) (n1 c1 n2 c2 c3 : Nat) (ls : List Lay) (b S : Nat) (hS : S < 18446744073709551616) (w : World) (hc : w.heap[b]? = some (.cells #[.int .u64 S] 59)) (h3 : Cells w a3 (lays ls)) (h4 : ∀ p ∈ ls, Cells w p.addr (nums p.right)) (hr : ∀ p ∈ ls, Small p.right ∧ p.right.length ≤ 1000000 ∧ -1000 ≤ p.left ∧ p.left ≤ 1000) (hls : ls.length ≤ 1000000) :
    Calls Try.prog 77 #[.agg #[.slice a1 n1 c1, .slice a2 n2 c2, .slice a3 ls.length c3], .func (.func 105) #[] #[.pointer (some ⟨b, 0, none⟩)]] w fun e w' => e = .returned (.int .u64 (leftsF (ls.map Lay.plain) bearI S : Nat)) ∧ Below w.heap.size w w' := by
  have hbl : Below w.heap.size w (w.alloc (.cells #[.slice a1 n1 c1, .slice a2 n2 c2, .slice a3 ls.length c3] 26)) := (Below.refl _ _).alloc (Nat.le_refl _) _
  have HC3 := Lib.hid (h3.below hbl)
  have HC4 := Lib.hid (fun p hp => (h4 p hp).below hbl)
  have HCB := Lib.hid ((hbl.block b (heap_lt hc)).trans hc)
  have HBL := Lib.hid hbl
  have HR := Lib.hid hr
  clear h3 h4 hbl hr hc
  go_enter Try.func77, Try.ntmps77
  go_wp2
  generalize w.alloc (.cells #[.slice a1 n1 c1, .slice a2 n2 c2, .slice a3 ls.length c3] 26) = W at *
  go_loopw [5, 11] (fun s i wr => ∃ k : Nat, k ≤ ls.length ∧ i = .int .i64 k ∧ s = .int .u64 (leftsF ((ls.take k).map Lay.plain) bearI S : Nat) ∧ Below W.heap.size W wr) (fun _ i _ => ls.length - (intOf i).toNat)
  case atStart => exact ⟨0, by omega, rfl, rfl, Below.refl _ _⟩
  case round =>
    obtain ⟨k, hk, rfl, rfl, hbe⟩ := hrel
    by_cases hlt : k < ls.length
    · obtain ⟨p, hp⟩ : ∃ p, ls[k]? = some p := ⟨_, List.getElem?_eq_getElem hlt⟩
      obtain ⟨pl, pr, pa, pc⟩ := p
      obtain ⟨b3, o3, rfl, hb3, hc3⟩ := (HC3.out.below hbe).get (by intro e; have := (lays_at ls k _ hp).1; rw [e] at this; simp at this)
      have x0 := hc3 _ _ (lays_at ls k _ hp).1
      have x1 := hc3 _ _ (lays_at ls k _ hp).2
      rw [← Nat.add_assoc] at x1
      simp only at x0 x1
      have e1 : (k : Int) < ls.length := by omega
      have hpm := List.mem_of_getElem? hp
      obtain ⟨r1, r2, r3, r4⟩ := HR.out _ hpm
      simp only at r1 r2 r3 r4
      have hbA : Below wr.heap.size wr (wr.alloc (.cells #[.int .i64 pl, .slice pa pr.length pc] 37)) := (Below.refl _ _).alloc (Nat.le_refl _) _
      have HCL := Lib.hid (fru11_any pl pa pc pr b S hS (wr.alloc (.cells #[.int .i64 pl, .slice pa pr.length pc] 37)) ((hbA.block b (heap_lt ((hbe.block b (heap_lt HCB.out)).trans HCB.out))).trans ((hbe.block b (heap_lt HCB.out)).trans HCB.out)) ((show Cells wr pa (nums pr) from (HC4.out _ hpm).below hbe).below hbA) r1 r2)
      have HPL := Lib.hid fun W => place_any pl W (by omega) (by omega)
      have hll := lefts_lt ((ls.take k).map Lay.plain) bearI S
      have HWI := Lib.hid fun W => with_any (leftsF ((ls.take k).map Lay.plain) bearI S) (pl - 100) hll W
      have HST := Lib.hid (leftsN_step (S := S) hp bearI)
      have HBE := Lib.hid hbe
      have HBA := Lib.hid hbA
      clear hc3 hp hpm r1 r2 hbA hbe
      generalize leftsF ((ls.take k).map Lay.plain) bearI S = T at *
      cases hv : bearI pr S with
      | true =>
        have hN := Lib.hid (show leftsF ((ls.take (k + 1)).map Lay.plain) bearI S = T ||| sdig (pl - 100) by rw [HST.out]; exact if_pos hv)
        go_wp2_with (first
          | (go_at_call 105; refine HCL.out.mono ?_; rintro e w2 ⟨rfl, hb2⟩; simp only [hv]; have y0 := (hb2.cell (p := ⟨wr.heap.size, 0, none⟩) (by simp)).trans (by go_simp : _ = some (.int .i64 pl)); have y1 : wr.heap.size < w2.heap.size := Nat.lt_of_lt_of_le (by simp) hb2.size)
          | (go_at_call 73; refine (HPL.out _).mono ?_; rintro e w2 ⟨rfl, rfl⟩)
          | (go_at_call 80; refine (HWI.out _).mono ?_; rintro e w2 ⟨rfl, rfl⟩))
        exact ⟨⟨k + 1, by omega, by go_num, by rw [hN.out], HBE.out.trans ((HBA.out.trans (hb2.mono HBA.out.size)).mono HBE.out.size)⟩, by simp [intOf]; omega⟩
      | false =>
        have hN := Lib.hid (show leftsF ((ls.take (k + 1)).map Lay.plain) bearI S = T by rw [HST.out]; exact if_neg (by show ¬ bearI pr S = true; rw [hv]; decide))
        go_wp2_with (go_at_call 105; refine HCL.out.mono ?_; rintro e w2 ⟨rfl, hb2⟩; simp only [hv])
        exact ⟨⟨k + 1, by omega, by go_num, by rw [hN.out], HBE.out.trans ((HBA.out.trans (hb2.mono HBA.out.size)).mono HBE.out.size)⟩, by simp [intOf]; omega⟩
    · have e1 : ¬ (k : Int) < ls.length := by omega
      have hN := Lib.hid (show leftsF ((ls.take k).map Lay.plain) bearI S = leftsF (ls.map Lay.plain) bearI S by rw [List.take_of_length_le (by omega)])
      generalize leftsF ((ls.take k).map Lay.plain) bearI S = T at *
      have HBE := Lib.hid hbe
      clear hbe
      go_wp2
      go_ret
      exact ⟨ret_int (by rw [hN.out]), HBL.out.trans (HBE.out.mono HBL.out.size)⟩


end Go.Proofs.Ytdnlbmdmaiacaaa
