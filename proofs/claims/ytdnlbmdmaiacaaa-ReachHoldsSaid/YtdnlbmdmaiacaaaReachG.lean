/- reach: what grows, walked. -/
import Derived.Test.YtdnlbmdmaiacaaaReachW
namespace Go.Proofs.Ytdnlbmdmaiacaaa
open Go.RowKit
open Doc

/-- Sizes and numbers that the walks ask for. -/
structure RGr (g : Gr) : Prop where
  ps : g.prods.length ≤ 1000000
  pv : ∀ p ∈ g.prods, Small p.2 ∧ p.2.length ≤ 1000000 ∧ -1000 ≤ p.1 ∧ p.1 ≤ 1000
theorem rgr_check {g : Gr} (h : CheckG g) : RGr g := by
  refine ⟨by have := h.p24; omega, fun p hp => ?_⟩
  have h1 := (nums_of_check h) p hp
  have h2 := (h.pv p hp).2.1
  exact ⟨fun s hs => by have := h1.2 s hs; omega, by omega, by omega, by omega⟩
theorem rgr_lay {g : Gr} (h : RGr g) {ls : List Lay} (hp : ls.map Lay.plain = g.prods) : (∀ p ∈ ls, Small p.right ∧ p.right.length ≤ 1000000 ∧ -1000 ≤ p.left ∧ p.left ≤ 1000) ∧ ls.length ≤ 1000000 := by
  refine ⟨fun p hp' => ?_, ?_⟩
  · have := h.pv p.plain (by rw [← hp]; exact List.mem_map.2 ⟨p, hp', rfl⟩)
    exact this
  · have := h.ps; rw [← hp, List.length_map] at this; exact this

theorem nul1_any (a1 a2 a3 : Option Addr) (n1 c1 n2 c2 c3 : Nat) (ls : List Lay) (b S : Nat) (hS : S < 18446744073709551616) (w : World) (hc : w.heap[b]? = some (.cells #[.slice a1 n1 c1, .slice a2 n2 c2, .slice a3 ls.length c3] 26)) (h3 : Cells w a3 (lays ls)) (h4 : ∀ p ∈ ls, Cells w p.addr (nums p.right)) (hr : ∀ p ∈ ls, Small p.right ∧ p.right.length ≤ 1000000 ∧ -1000 ≤ p.left ∧ p.left ≤ 1000) (hls : ls.length ≤ 1000000) :
    Calls Try.prog 76 #[.int .u64 S, .pointer (some ⟨b, 0, none⟩)] w fun e w' => e = .returned (.int .u64 (leftsF (ls.map Lay.plain) vanI S : Nat)) ∧ Below w.heap.size w w' := by
  have hbl : Below w.heap.size w (w.alloc (.cells #[.int .u64 S] 59)) := (Below.refl _ _).alloc (Nat.le_refl _) _
  have HV := Lib.hid (lefts_nul a1 a2 a3 n1 c1 n2 c2 c3 ls w.heap.size S hS (w.alloc (.cells #[.int .u64 S] 59)) (heap_alloc_new w _) (h3.below hbl) (fun p hp => (h4 p hp).below hbl) hr hls)
  have x0 := (blk_cell (i := 0) (u := .slice a1 n1 c1) hc rfl).1
  have x1 := (blk_cell (i := 1) (u := .slice a2 n2 c2) hc rfl).1
  have x2 := (blk_cell (i := 2) (u := .slice a3 ls.length c3) hc rfl).1
  have hlt := heap_lt hc
  have HBL := Lib.hid hbl
  clear h3 h4 hbl hr hc
  go_enter Try.func76, Try.ntmps76
  go_wp2_with (go_at_call 77; refine HV.out.mono ?_; rintro e w2 ⟨rfl, hb2⟩)
  go_ret
  exact ⟨rfl, HBL.out.trans (hb2.mono HBL.out.size)⟩

theorem fru1_any (a1 a2 a3 : Option Addr) (n1 c1 n2 c2 c3 : Nat) (ls : List Lay) (b S : Nat) (hS : S < 18446744073709551616) (w : World) (hc : w.heap[b]? = some (.cells #[.slice a1 n1 c1, .slice a2 n2 c2, .slice a3 ls.length c3] 26)) (h3 : Cells w a3 (lays ls)) (h4 : ∀ p ∈ ls, Cells w p.addr (nums p.right)) (hr : ∀ p ∈ ls, Small p.right ∧ p.right.length ≤ 1000000 ∧ -1000 ≤ p.left ∧ p.left ≤ 1000) (hls : ls.length ≤ 1000000) :
    Calls Try.prog 104 #[.int .u64 S, .pointer (some ⟨b, 0, none⟩)] w fun e w' => e = .returned (.int .u64 (leftsF (ls.map Lay.plain) bearI S : Nat)) ∧ Below w.heap.size w w' := by
  have hbl : Below w.heap.size w (w.alloc (.cells #[.int .u64 S] 59)) := (Below.refl _ _).alloc (Nat.le_refl _) _
  have HV := Lib.hid (lefts_fru a1 a2 a3 n1 c1 n2 c2 c3 ls w.heap.size S hS (w.alloc (.cells #[.int .u64 S] 59)) (heap_alloc_new w _) (h3.below hbl) (fun p hp => (h4 p hp).below hbl) hr hls)
  have x0 := (blk_cell (i := 0) (u := .slice a1 n1 c1) hc rfl).1
  have x1 := (blk_cell (i := 1) (u := .slice a2 n2 c2) hc rfl).1
  have x2 := (blk_cell (i := 2) (u := .slice a3 ls.length c3) hc rfl).1
  have hlt := heap_lt hc
  have HBL := Lib.hid hbl
  clear h3 h4 hbl hr hc
  go_enter Try.func104, Try.ntmps104
  go_wp2_with (go_at_call 77; refine HV.out.mono ?_; rintro e w2 ⟨rfl, hb2⟩)
  go_ret
  exact ⟨rfl, HBL.out.trans (hb2.mono HBL.out.size)⟩

theorem named_step {ls : List Lay} {k : Nat} {p : Lay} {S : Nat} (hp : ls[k]? = some p) : namedF ((ls.take (k + 1)).map Lay.plain) S = if shas S (p.left - 100) = true then namedR p.right (namedF ((ls.take k).map Lay.plain) S) else namedF ((ls.take k).map Lay.plain) S := by
  rw [List.take_add_one, hp]
  simp only [Option.toList_some, List.map_append, List.map_cons, List.map_nil, namedF, List.foldl_append, List.foldl_cons, List.foldl_nil]
  rfl
theorem namedR_step {r : List Int} {k : Nat} {s : Int} (hs : r[k]? = some s) (a : Nat) : namedR (r.take (k + 1)) a = namedR (r.take k) a ||| sdig (s - 100) := by
  rw [List.take_add_one, hs]
  simp only [Option.toList_some, namedR, List.foldl_append, List.foldl_cons, List.foldl_nil]

set_option maxHeartbeats 2000000 in
theorem named_any (a1 a2 a3 : Option Addr) (n1 c1 n2 c2 c3 : Nat) (ls : List Lay) (S : Nat) (hS : S < 18446744073709551616) (w : World) (h3 : Cells w a3 (lays ls)) (h4 : ∀ p ∈ ls, Cells w p.addr (nums p.right)) (hr : ∀ p ∈ ls, Small p.right ∧ p.right.length ≤ 1000000 ∧ -1000 ≤ p.left ∧ p.left ≤ 1000) (hls : ls.length ≤ 1000000) :
    Calls Try.prog 82 #[.agg #[.slice a1 n1 c1, .slice a2 n2 c2, .slice a3 ls.length c3], .int .u64 S] w fun e w' => e = .returned (.int .u64 (namedF (ls.map Lay.plain) S : Nat)) ∧ Below w.heap.size w w' := by
  have hbl : Below w.heap.size w (w.alloc (.cells #[.slice a1 n1 c1, .slice a2 n2 c2, .slice a3 ls.length c3] 26)) := (Below.refl _ _).alloc (Nat.le_refl _) _
  have HC3 := Lib.hid (h3.below hbl)
  have HC4 := Lib.hid (fun p hp => (h4 p hp).below hbl)
  have HBL := Lib.hid hbl
  have HR := Lib.hid hr
  clear h3 h4 hbl hr
  go_enter Try.func82, Try.ntmps82
  go_wp2
  generalize w.alloc (.cells #[.slice a1 n1 c1, .slice a2 n2 c2, .slice a3 ls.length c3] 26) = W at *
  go_loopw [5, 13] (fun s i wr => ∃ k : Nat, k ≤ ls.length ∧ i = .int .i64 k ∧ s = .int .u64 (namedF ((ls.take k).map Lay.plain) S : Nat) ∧ Below W.heap.size W wr) (fun _ i _ => ls.length - (intOf i).toNat)
  case atStart => exact ⟨0, by omega, rfl, rfl, Below.refl _ _⟩
  case round =>
    obtain ⟨k, hk, rfl, rfl, hbe⟩ := hrel
    by_cases hlt : k < ls.length
    · obtain ⟨p, hp⟩ : ∃ p, ls[k]? = some p := ⟨_, List.getElem?_eq_getElem hlt⟩
      obtain ⟨pl, pr, pa, pc⟩ := p
      obtain ⟨b3, o3, rfl, hb3, hc3⟩ := (HC3.out.below hbe).get (by intro e; have := (lays_at ls k _ hp).1; rw [e] at this; simp at this)
      have x0 := hc3 _ _ (lays_at ls k _ hp).1
      have x1 := hc3 _ _ (lays_at ls k _ hp).2
      rw [← Nat.add_assoc] at x1
      simp only at x0 x1
      have e1 : (k : Int) < ls.length := by omega
      have hpm := List.mem_of_getElem? hp
      obtain ⟨r1, r2, r3, r4⟩ := HR.out _ hpm
      simp only at r1 r2 r3 r4
      have hbA : Below wr.heap.size wr (wr.alloc (.cells #[.int .i64 pl, .slice pa pr.length pc] 37)) := (Below.refl _ _).alloc (Nat.le_refl _) _
      have HCR := Lib.hid ((show Cells wr pa (nums pr) from (HC4.out _ hpm).below hbe).below hbA)
      have HPL := Lib.hid fun W => place_any pl W (by omega) (by omega)
      have HHA := Lib.hid fun W => has_any S (pl - 100) hS W
      have hll := named_lt ((ls.take k).map Lay.plain) S
      have HST := Lib.hid (named_step (S := S) hp)
      have HBE := Lib.hid hbe
      have HBA := Lib.hid hbA
      have HR1 := Lib.hid r1
      clear hc3 hp hpm r1 hbA hbe
      generalize namedF ((ls.take k).map Lay.plain) S = T at *
      cases hv : shas S (pl - 100) with
      | true =>
        have hN := Lib.hid (show namedF ((ls.take (k + 1)).map Lay.plain) S = namedR pr T by rw [HST.out]; exact if_pos hv)
        go_wp2_with (first
          | (go_at_call 73; refine (HPL.out _).mono ?_; rintro e w2 ⟨rfl, rfl⟩)
          | (go_at_call 45; refine (HHA.out _).mono ?_; rintro e w2 ⟨rfl, rfl⟩; simp only [hv]))
        have HBF := Lib.hid (HBE.out.trans (HBA.out.mono HBE.out.size))
        generalize wr.alloc (.cells #[.int .i64 pl, .slice pa pr.length pc] 37) = W2 at *
        go_loop [5, 26] (fun s i => ∃ m : Nat, m ≤ pr.length ∧ i = .int .i64 m ∧ s = .int .u64 (namedR (pr.take m) T : Nat)) (fun _ i => pr.length - (intOf i).toNat)
        case atStart => exact ⟨0, by omega, rfl, rfl⟩
        case round =>
          obtain ⟨m, hm, rfl, rfl⟩ := hrel
          by_cases hml : m < pr.length
          · obtain ⟨s, hs⟩ : ∃ s, pr[m]? = some s := ⟨_, List.getElem?_eq_getElem hml⟩
            obtain ⟨b4, o4, rfl, hb4, hc4⟩ := HCR.out.get (by unfold nums; intro e; rw [List.map_eq_nil_iff] at e; rw [e] at hml; simp at hml)
            have z0 := hc4 m _ (nums_at hs)
            have e2 : (m : Int) < pr.length := by omega
            have hsm := HR1.out s (List.mem_of_getElem? hs)
            have HP2 := Lib.hid fun W => place_any s W (by omega) (by omega)
            have hr2 := namedR_lt (pr.take m) T hll
            have HW2 := Lib.hid fun W => with_any (namedR (pr.take m) T) (s - 100) hr2 W
            have HS2 := Lib.hid (namedR_step hs T)
            clear hc4 hs hsm
            generalize namedR (pr.take m) T = U at *
            go_wp2_with (first
              | (go_at_call 73; with_reducible refine (HP2.out _).mono ?_; rintro e w2 ⟨rfl, rfl⟩)
              | (go_at_call 80; with_reducible refine (HW2.out _).mono ?_; rintro e w2 ⟨rfl, rfl⟩))
            exact ⟨⟨m + 1, by omega, by go_num, by rw [HS2.out]⟩, by simp [intOf]; omega⟩
          · have e2 : ¬ (m : Int) < pr.length := by omega
            have hN2 := Lib.hid (show namedF ((ls.take (k + 1)).map Lay.plain) S = namedR (pr.take m) T by rw [hN.out, List.take_of_length_le (by omega)])
            generalize namedR (pr.take m) T = U at *
            go_wp2
            exact ⟨⟨k + 1, by omega, by go_num, by rw [hN2.out], HBF.out⟩, by simp [intOf]; omega⟩
      | false =>
        have hN := Lib.hid (show namedF ((ls.take (k + 1)).map Lay.plain) S = T by rw [HST.out]; exact if_neg (by show ¬ shas S (pl - 100) = true; rw [hv]; decide))
        go_wp2_with (first
          | (go_at_call 73; refine (HPL.out _).mono ?_; rintro e w2 ⟨rfl, rfl⟩)
          | (go_at_call 45; refine (HHA.out _).mono ?_; rintro e w2 ⟨rfl, rfl⟩; simp only [hv]))
        exact ⟨⟨k + 1, by omega, by go_num, by rw [hN.out], HBE.out.trans (HBA.out.mono HBE.out.size)⟩, by simp [intOf]; omega⟩
    · have e1 : ¬ (k : Int) < ls.length := by omega
      have hN := Lib.hid (show namedF ((ls.take k).map Lay.plain) S = namedF (ls.map Lay.plain) S by rw [List.take_of_length_le (by omega)])
      generalize namedF ((ls.take k).map Lay.plain) S = T at *
      have HBE := Lib.hid hbe
      clear hbe
      go_wp2
      go_ret
      exact ⟨ret_int (by rw [hN.out]), HBL.out.trans (HBE.out.mono HBL.out.size)⟩

theorem rea1_any (a1 a2 a3 : Option Addr) (n1 c1 n2 c2 c3 : Nat) (ls : List Lay) (b S : Nat) (hS : S < 18446744073709551616) (w : World) (hc : w.heap[b]? = some (.cells #[.slice a1 n1 c1, .slice a2 n2 c2, .slice a3 ls.length c3] 26)) (h3 : Cells w a3 (lays ls)) (h4 : ∀ p ∈ ls, Cells w p.addr (nums p.right)) (hr : ∀ p ∈ ls, Small p.right ∧ p.right.length ≤ 1000000 ∧ -1000 ≤ p.left ∧ p.left ≤ 1000) (hls : ls.length ≤ 1000000) :
    Calls Try.prog 81 #[.int .u64 S, .pointer (some ⟨b, 0, none⟩)] w fun e w' => e = .returned (.int .u64 (namedF (ls.map Lay.plain) S : Nat)) ∧ Below w.heap.size w w' := by
  have HV := Lib.hid (named_any a1 a2 a3 n1 c1 n2 c2 c3 ls S hS w h3 h4 hr hls)
  have x0 := (blk_cell (i := 0) (u := .slice a1 n1 c1) hc rfl).1
  have x1 := (blk_cell (i := 1) (u := .slice a2 n2 c2) hc rfl).1
  have x2 := (blk_cell (i := 2) (u := .slice a3 ls.length c3) hc rfl).1
  have hlt := heap_lt hc
  clear h3 h4 hr hc
  go_enter Try.func81, Try.ntmps81
  go_wp2_with (go_at_call 82; refine HV.out.mono ?_; rintro e w2 ⟨rfl, hb2⟩)
  go_ret
  exact ⟨rfl, hb2⟩

set_option maxHeartbeats 1000000 in
theorem grow_nul (a1 a2 a3 : Option Addr) (n1 c1 n2 c2 c3 : Nat) (ls : List Lay) (b s : Nat) (hs : s < 18446744073709551616) (w : World) (hc : w.heap[b]? = some (.cells #[.slice a1 n1 c1, .slice a2 n2 c2, .slice a3 ls.length c3] 26)) (h3 : Cells w a3 (lays ls)) (h4 : ∀ p ∈ ls, Cells w p.addr (nums p.right)) (hr : ∀ p ∈ ls, Small p.right ∧ p.right.length ≤ 1000000 ∧ -1000 ≤ p.left ∧ p.left ≤ 1000) (hls : ls.length ≤ 1000000) :
    Calls Try.prog 75 #[.int .u64 s, .func (.func 76) #[] #[.pointer (some ⟨b, 0, none⟩)]] w fun e w' => (∃ r : Nat, e = .returned (.int .u64 r) ∧ Grown (leftsF (ls.map Lay.plain) vanI) s r) ∧ Below w.heap.size w w' := by
  have HF := Lib.hid fun (u : Nat) (hu : u < 18446744073709551616) W (hW : Below w.heap.size w W) => nul1_any a1 a2 a3 n1 c1 n2 c2 c3 ls b u hu W ((hW.block b (heap_lt hc)).trans hc) (h3.below hW) (fun p hp => (h4 p hp).below hW) hr hls
  have HLT := Lib.hid (lefts_lt (ls.map Lay.plain) vanI)
  clear hc h3 h4 hr hls
  go_enter Try.func75, Try.ntmps75
  go_wp2
  go_loopw [0] (fun v wr => ∃ u : Nat, v = .int .u64 u ∧ u < 18446744073709551616 ∧ Hid (∃ n, u = iterS (leftsF (ls.map Lay.plain) vanI) s n) ∧ Below w.heap.size w wr) (fun v _ => 18446744073709551616 - (intOf v).toNat)
  case atStart => exact ⟨s, rfl, hs, Lib.hid ⟨0, rfl⟩, Below.refl _ _⟩
  case round =>
    obtain ⟨u, rfl, hu, HN, hbe⟩ := hrel
    have HC := Lib.hid (HF.out u hu wr hbe)
    have ht := HLT.out u
    have HNX := Lib.hid (show ∃ n, u ||| leftsF (ls.map Lay.plain) vanI u = iterS (leftsF (ls.map Lay.plain) vanI) s n from HN.out.elim fun n hn => ⟨n + 1, by rw [hn]; rfl⟩)
    have HGR : Hid (u ||| leftsF (ls.map Lay.plain) vanI u = u → Grown (leftsF (ls.map Lay.plain) vanI) s u) := Lib.hid fun h => ⟨HN.out, h⟩
    have hle := le_or u (leftsF (ls.map Lay.plain) vanI u)
    have hol := or_lt u (leftsF (ls.map Lay.plain) vanI u) hu ht
    have HJ := Lib.hid fun W => join_any u (leftsF (ls.map Lay.plain) vanI u) hu ht W
    have HBE := Lib.hid hbe
    clear hbe
    generalize leftsF (ls.map Lay.plain) vanI u = t at *
    by_cases he : u ||| t = u
    · have heb : (((u ||| t : Nat) : Int) == (u : Int)) = true := by rw [he]; simp
      have HG := Lib.hid (HGR.out he)
      clear he hle hol
      go_wp2_with (first
        | (go_at_call 76; refine HC.out.mono ?_; rintro e w2 ⟨rfl, hb2⟩)
        | (go_at_call 107; refine (HJ.out _).mono ?_; rintro e w2 ⟨rfl, rfl⟩))
      go_ret
      exact ⟨⟨u, rfl, HG.out⟩, HBE.out.trans (hb2.mono HBE.out.size)⟩
    · have heb : (((u ||| t : Nat) : Int) == (u : Int)) = false := by simpa using fun h => he (by exact_mod_cast h)
      have hlt : u < u ||| t := by omega
      have HLT2 := Lib.hid hlt
      clear he hle hlt
      go_wp2_with (first
        | (go_at_call 76; refine HC.out.mono ?_; rintro e w2 ⟨rfl, hb2⟩)
        | (go_at_call 107; refine (HJ.out _).mono ?_; rintro e w2 ⟨rfl, rfl⟩))
      exact ⟨⟨u ||| t, rfl, hol, HNX, HBE.out.trans (hb2.mono HBE.out.size)⟩, by have := HLT2.out; simp only [intOf]; omega⟩

set_option maxHeartbeats 1000000 in
theorem grow_fru (a1 a2 a3 : Option Addr) (n1 c1 n2 c2 c3 : Nat) (ls : List Lay) (b s : Nat) (hs : s < 18446744073709551616) (w : World) (hc : w.heap[b]? = some (.cells #[.slice a1 n1 c1, .slice a2 n2 c2, .slice a3 ls.length c3] 26)) (h3 : Cells w a3 (lays ls)) (h4 : ∀ p ∈ ls, Cells w p.addr (nums p.right)) (hr : ∀ p ∈ ls, Small p.right ∧ p.right.length ≤ 1000000 ∧ -1000 ≤ p.left ∧ p.left ≤ 1000) (hls : ls.length ≤ 1000000) :
    Calls Try.prog 75 #[.int .u64 s, .func (.func 104) #[] #[.pointer (some ⟨b, 0, none⟩)]] w fun e w' => (∃ r : Nat, e = .returned (.int .u64 r) ∧ Grown (leftsF (ls.map Lay.plain) bearI) s r) ∧ Below w.heap.size w w' := by
  have HF := Lib.hid fun (u : Nat) (hu : u < 18446744073709551616) W (hW : Below w.heap.size w W) => fru1_any a1 a2 a3 n1 c1 n2 c2 c3 ls b u hu W ((hW.block b (heap_lt hc)).trans hc) (h3.below hW) (fun p hp => (h4 p hp).below hW) hr hls
  have HLT := Lib.hid (lefts_lt (ls.map Lay.plain) bearI)
  clear hc h3 h4 hr hls
  go_enter Try.func75, Try.ntmps75
  go_wp2
  go_loopw [0] (fun v wr => ∃ u : Nat, v = .int .u64 u ∧ u < 18446744073709551616 ∧ Hid (∃ n, u = iterS (leftsF (ls.map Lay.plain) bearI) s n) ∧ Below w.heap.size w wr) (fun v _ => 18446744073709551616 - (intOf v).toNat)
  case atStart => exact ⟨s, rfl, hs, Lib.hid ⟨0, rfl⟩, Below.refl _ _⟩
  case round =>
    obtain ⟨u, rfl, hu, HN, hbe⟩ := hrel
    have HC := Lib.hid (HF.out u hu wr hbe)
    have ht := HLT.out u
    have HNX := Lib.hid (show ∃ n, u ||| leftsF (ls.map Lay.plain) bearI u = iterS (leftsF (ls.map Lay.plain) bearI) s n from HN.out.elim fun n hn => ⟨n + 1, by rw [hn]; rfl⟩)
    have HGR : Hid (u ||| leftsF (ls.map Lay.plain) bearI u = u → Grown (leftsF (ls.map Lay.plain) bearI) s u) := Lib.hid fun h => ⟨HN.out, h⟩
    have hle := le_or u (leftsF (ls.map Lay.plain) bearI u)
    have hol := or_lt u (leftsF (ls.map Lay.plain) bearI u) hu ht
    have HJ := Lib.hid fun W => join_any u (leftsF (ls.map Lay.plain) bearI u) hu ht W
    have HBE := Lib.hid hbe
    clear hbe
    generalize leftsF (ls.map Lay.plain) bearI u = t at *
    by_cases he : u ||| t = u
    · have heb : (((u ||| t : Nat) : Int) == (u : Int)) = true := by rw [he]; simp
      have HG := Lib.hid (HGR.out he)
      clear he hle hol
      go_wp2_with (first
        | (go_at_call 104; refine HC.out.mono ?_; rintro e w2 ⟨rfl, hb2⟩)
        | (go_at_call 107; refine (HJ.out _).mono ?_; rintro e w2 ⟨rfl, rfl⟩))
      go_ret
      exact ⟨⟨u, rfl, HG.out⟩, HBE.out.trans (hb2.mono HBE.out.size)⟩
    · have heb : (((u ||| t : Nat) : Int) == (u : Int)) = false := by simpa using fun h => he (by exact_mod_cast h)
      have hlt : u < u ||| t := by omega
      have HLT2 := Lib.hid hlt
      clear he hle hlt
      go_wp2_with (first
        | (go_at_call 104; refine HC.out.mono ?_; rintro e w2 ⟨rfl, hb2⟩)
        | (go_at_call 107; refine (HJ.out _).mono ?_; rintro e w2 ⟨rfl, rfl⟩))
      exact ⟨⟨u ||| t, rfl, hol, HNX, HBE.out.trans (hb2.mono HBE.out.size)⟩, by have := HLT2.out; simp only [intOf]; omega⟩

set_option maxHeartbeats 1000000 in
theorem grow_rea (a1 a2 a3 : Option Addr) (n1 c1 n2 c2 c3 : Nat) (ls : List Lay) (b s : Nat) (hs : s < 18446744073709551616) (w : World) (hc : w.heap[b]? = some (.cells #[.slice a1 n1 c1, .slice a2 n2 c2, .slice a3 ls.length c3] 26)) (h3 : Cells w a3 (lays ls)) (h4 : ∀ p ∈ ls, Cells w p.addr (nums p.right)) (hr : ∀ p ∈ ls, Small p.right ∧ p.right.length ≤ 1000000 ∧ -1000 ≤ p.left ∧ p.left ≤ 1000) (hls : ls.length ≤ 1000000) :
    Calls Try.prog 75 #[.int .u64 s, .func (.func 81) #[] #[.pointer (some ⟨b, 0, none⟩)]] w fun e w' => (∃ r : Nat, e = .returned (.int .u64 r) ∧ Grown (namedF (ls.map Lay.plain)) s r) ∧ Below w.heap.size w w' := by
  have HF := Lib.hid fun (u : Nat) (hu : u < 18446744073709551616) W (hW : Below w.heap.size w W) => rea1_any a1 a2 a3 n1 c1 n2 c2 c3 ls b u hu W ((hW.block b (heap_lt hc)).trans hc) (h3.below hW) (fun p hp => (h4 p hp).below hW) hr hls
  have HLT := Lib.hid (named_lt (ls.map Lay.plain))
  clear hc h3 h4 hr hls
  go_enter Try.func75, Try.ntmps75
  go_wp2
  go_loopw [0] (fun v wr => ∃ u : Nat, v = .int .u64 u ∧ u < 18446744073709551616 ∧ Hid (∃ n, u = iterS (namedF (ls.map Lay.plain)) s n) ∧ Below w.heap.size w wr) (fun v _ => 18446744073709551616 - (intOf v).toNat)
  case atStart => exact ⟨s, rfl, hs, Lib.hid ⟨0, rfl⟩, Below.refl _ _⟩
  case round =>
    obtain ⟨u, rfl, hu, HN, hbe⟩ := hrel
    have HC := Lib.hid (HF.out u hu wr hbe)
    have ht := HLT.out u
    have HNX := Lib.hid (show ∃ n, u ||| namedF (ls.map Lay.plain) u = iterS (namedF (ls.map Lay.plain)) s n from HN.out.elim fun n hn => ⟨n + 1, by rw [hn]; rfl⟩)
    have HGR : Hid (u ||| namedF (ls.map Lay.plain) u = u → Grown (namedF (ls.map Lay.plain)) s u) := Lib.hid fun h => ⟨HN.out, h⟩
    have hle := le_or u (namedF (ls.map Lay.plain) u)
    have hol := or_lt u (namedF (ls.map Lay.plain) u) hu ht
    have HJ := Lib.hid fun W => join_any u (namedF (ls.map Lay.plain) u) hu ht W
    have HBE := Lib.hid hbe
    clear hbe
    generalize namedF (ls.map Lay.plain) u = t at *
    by_cases he : u ||| t = u
    · have heb : (((u ||| t : Nat) : Int) == (u : Int)) = true := by rw [he]; simp
      have HG := Lib.hid (HGR.out he)
      clear he hle hol
      go_wp2_with (first
        | (go_at_call 81; refine HC.out.mono ?_; rintro e w2 ⟨rfl, hb2⟩)
        | (go_at_call 107; refine (HJ.out _).mono ?_; rintro e w2 ⟨rfl, rfl⟩))
      go_ret
      exact ⟨⟨u, rfl, HG.out⟩, HBE.out.trans (hb2.mono HBE.out.size)⟩
    · have heb : (((u ||| t : Nat) : Int) == (u : Int)) = false := by simpa using fun h => he (by exact_mod_cast h)
      have hlt : u < u ||| t := by omega
      have HLT2 := Lib.hid hlt
      clear he hle hlt
      go_wp2_with (first
        | (go_at_call 81; refine HC.out.mono ?_; rintro e w2 ⟨rfl, hb2⟩)
        | (go_at_call 107; refine (HJ.out _).mono ?_; rintro e w2 ⟨rfl, rfl⟩))
      exact ⟨⟨u ||| t, rfl, hol, HNX, HBE.out.trans (hb2.mono HBE.out.size)⟩, by have := HLT2.out; simp only [intOf]; omega⟩

end Go.Proofs.Ytdnlbmdmaiacaaa
