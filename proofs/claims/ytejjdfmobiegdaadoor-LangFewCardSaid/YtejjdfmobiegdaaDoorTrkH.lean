/- lang: asked, Has and Begins of what may be, walked. -/
import Derived.Test.YtejjdfmobiegdaaDoorTrkB
import Derived.Test.YtejjdfmobiegdaaDoorTrkN
set_option linter.unusedVariables false
namespace Go.Proofs.YtejjdfmobiegdaaDoor
open Go.RowKit
open Doc

set_option maxHeartbeats 1000000 in
theorem indexA_any (cv : Value) (f : Int → Bool) (a : Option Addr) (cap : Nat) (ls : List Int) (w : World) (h : Cells w a (nums ls)) (hl : ls.length ≤ 1000000)
    (hF : ∀ q ∈ ls, ∀ W, Below w.heap.size w W → Calls Tryd.prog 87 #[Value.int .i64 q, cv] W fun e w' => e = .returned (.bool (f q)) ∧ Below W.heap.size W w') :
    Calls Tryd.prog 111 #[.slice a ls.length cap, .func (.func 87) #[] #[cv]] w fun e w' => e = .returned (.int .i64 (oint (ls.findIdx? f))) ∧ Below w.heap.size w w' := by
  have HH := Lib.hid h
  have HF := Lib.hid hF
  clear h hF
  go_enter Tryd.func111, Tryd.ntmps111
  go_wp2
  go_loopw [8] (fun i wr => ∃ k : Nat, k ≤ ls.length ∧ i = .int .i64 k ∧ Below w.heap.size w wr ∧ Hid (∀ j q, j < k → ls[j]? = some q → f q = false)) (fun i _ => ls.length - (intOf i).toNat)
  case atStart => exact ⟨0, Nat.zero_le _, rfl, Below.refl _ _, Lib.hid (by intro j q hj; omega)⟩
  case round =>
    obtain ⟨k, hk, rfl, hb, HB⟩ := hrel
    by_cases hlt : k < ls.length
    · obtain ⟨q, hq⟩ : ∃ q, ls[k]? = some q := ⟨_, List.getElem?_eq_getElem hlt⟩
      obtain ⟨b, off, rfl, hbl, hc⟩ := (HH.out.below hb).get (by intro e; have := nums_at hq; rw [e] at this; simp at this)
      have c0 := hc _ _ (nums_at hq)
      have e1 : (k : Int) < ls.length := by omega
      have HC := Lib.hid (HF.out q (List.mem_of_getElem? hq) wr hb)
      have HQ := Lib.hid hq
      have HW := Lib.hid hb
      clear hc hq
      cases hf : f q with
      | true =>
        go_wp2_with (go_at_call 87; refine HC.out.mono ?_; rintro e w2 ⟨rfl, hb2⟩; simp only [hf])
        go_ret
        refine ⟨ret_int ?_, HW.out.trans (hb2.mono HW.out.size)⟩
        rw [findIdx_first HQ.out hf HB.out]; rfl
      | false =>
        go_wp2_with (go_at_call 87; refine HC.out.mono ?_; rintro e w2 ⟨rfl, hb2⟩; simp only [hf])
        refine ⟨⟨k + 1, by omega, by go_num, HW.out.trans (hb2.mono HW.out.size), Lib.hid fun j q hj hq => ?_⟩, by simp [intOf]; omega⟩
        by_cases hjk : j = k
        · subst hjk; rw [HQ.out] at hq; cases hq; exact hf
        · exact HB.out j q (by omega) hq
    · have e1 : ¬ (k : Int) < ls.length := by omega
      go_wp2
      go_ret
      refine ⟨ret_int ?_, hb⟩
      rw [findIdx_never fun j q hq => HB.out j q (by have := (List.getElem?_eq_some_iff.1 hq).1; omega) hq]; rfl


theorem containsA_any (cv : Value) (f : Int → Bool) (a : Option Addr) (cap : Nat) (ls : List Int) (w : World) (h : Cells w a (nums ls)) (hl : ls.length ≤ 1000000)
    (hF : ∀ q ∈ ls, ∀ W, Below w.heap.size w W → Calls Tryd.prog 87 #[Value.int .i64 q, cv] W fun e w' => e = .returned (.bool (f q)) ∧ Below W.heap.size W w') :
    Calls Tryd.prog 86 #[.slice a ls.length cap, .func (.func 87) #[] #[cv]] w fun e w' => e = .returned (.bool (ls.any f)) ∧ Below w.heap.size w w' := by
  have HI := Lib.hid (indexA_any cv f a cap ls w h hl hF)
  clear hF h
  cases hi : ls.findIdx? f with
  | none =>
    have hr := Lib.hid (show ls.any f = false by
      rw [List.any_eq_false]
      intro x hx
      have := List.findIdx?_eq_none_iff.1 hi x hx
      simp [this])
    go_enter Tryd.func86, Tryd.ntmps86
    go_wp2_with (go_at_call 111; refine HI.out.mono ?_; rintro e w2 ⟨rfl, hb2⟩; rw [hi]; simp only [oint])
    go_ret
    exact ⟨ret_bool hr.out.symm, hb2⟩
  | some k =>
    have hr := Lib.hid (show ls.any f = true by
      obtain ⟨hk, h1, _⟩ := List.findIdx?_eq_some_iff_getElem.1 hi
      rw [List.any_eq_true]
      exact ⟨_, List.getElem_mem hk, h1⟩)
    go_enter Tryd.func86, Tryd.ntmps86
    go_wp2_with (go_at_call 111; refine HI.out.mono ?_; rintro e w2 ⟨rfl, hb2⟩; rw [hi]; simp only [oint])
    go_ret
    exact ⟨ret_bool (by rw [hr.out]), hb2⟩


theorem asked1_any (s : Int) (B : Nat) (v1 v2 v3 : Value) (a1 : Option Addr) (n c1 : Nat) (w : World) (hq : w.heap[B]? = some (.cells #[.slice a1 n c1, v2, v3] 29)) :
    Calls Tryd.prog 87 #[.int .i64 s, .pointer (some ⟨B, 0, none⟩)] w fun e w' => e = .returned (.bool (decide (s < 1 ∨ (n : Int) < s))) ∧ Below w.heap.size w w' := by
  have x0 := (blk_cell (i := 0) (u := .slice a1 n c1) hq rfl).1
  have l0 := heap_lt hq
  clear hq
  by_cases h1 : s < 1
  · have hr := Lib.hid (show decide (s < 1 ∨ (n : Int) < s) = true by simp [h1])
    go_enter Tryd.func87, Tryd.ntmps87
    go_wp2
    go_ret
    exact ⟨ret_bool hr.out.symm, Below.refl _ _⟩
  · have hr := Lib.hid (show decide (s < 1 ∨ (n : Int) < s) = decide ((n : Int) < s) by simp [h1])
    go_enter Tryd.func87, Tryd.ntmps87
    go_wp2
    go_ret
    exact ⟨ret_bool (by simp; omega), Below.refl _ _⟩
theorem asked_any (v : Value) (g : Gr) (pa : Option Addr) (pc : Nat) (u : List Int) (w : World) (hg : GramAt w v g) (hck : CheckG g) (hu : Cells w pa (nums u)) (hul : u.length ≤ 12) (hus : ∀ s ∈ u, 1 ≤ s ∧ s ≤ (g.terms.length : Int)) :
    Calls Tryd.prog 54 #[v, .slice pa u.length pc] w fun e w' => e = .returned (.bool true) ∧ Below w.heap.size w w' := by
  have hg0 := hg
  obtain ⟨a1, a2, a3, c1, c2, c3, ls, rfl, hp, k1, k2, k3, k4, k5, k6, k7⟩ := hg
  have hS : Below w.heap.size w (w.alloc (.cells #[.slice a1 g.terms.length c1, .slice a2 g.nons.length c2, .slice a3 ls.length c3] 29)) := (Below.refl _ _).alloc (Nat.le_refl _) _
  have hQ := heap_alloc_new w (.cells #[.slice a1 g.terms.length c1, .slice a2 g.nons.length c2, .slice a3 ls.length c3] 29)
  have x0 := (blk_cell (i := 0) (u := .slice a1 g.terms.length c1) hQ rfl).1
  have x1 := (blk_cell (i := 1) (u := .slice a2 g.nons.length c2) hQ rfl).1
  have x2 := (blk_cell (i := 2) (u := .slice a3 ls.length c3) hQ rfl).1
  have hl0 := heap_lt hQ
  have HCK := Lib.hid (check_calls _ g _ (hg0.below hS) hck)
  have hle : decide ((u.length : Int) ≤ 12) = true := by simp; omega
  have HCO := Lib.hid fun (W : World) (hW : Below (w.alloc (.cells #[.slice a1 g.terms.length c1, .slice a2 g.nons.length c2, .slice a3 ls.length c3] 29)).heap.size (w.alloc (.cells #[.slice a1 g.terms.length c1, .slice a2 g.nons.length c2, .slice a3 ls.length c3] 29)) W) => (containsA_any (.pointer (some ⟨w.heap.size, 0, none⟩)) (fun s => decide (s < 1 ∨ (g.terms.length : Int) < s)) pa pc u W ((hu.below hS).below hW) (by omega) (fun q hq W' hW' => asked1_any q w.heap.size (.int .i64 0) (.slice a2 g.nons.length c2) (.slice a3 ls.length c3) a1 g.terms.length c1 W' ((hW'.block _ (heap_lt ((hW.block _ hl0).trans hQ))).trans ((hW.block _ hl0).trans hQ)))).mono fun e w' ⟨he, hb⟩ => (⟨he.trans (by
    have : u.any (fun s => decide (s < 1 ∨ (g.terms.length : Int) < s)) = false := by
      rw [List.any_eq_false]; intro s hs; have := hus s hs; simp; omega
    rw [this]), hb⟩ : e = Ending.returned (.bool false) ∧ Below W.heap.size W w')
  have HS := Lib.hid hS
  clear hg0 hp k1 k2 k3 k4 k5 k6 k7 hu hul hus hQ hck hS
  go_enter Tryd.func54, Tryd.ntmps54
  go_wp2_with (first
    | (go_at_call 44; refine HCK.out.mono ?_; rintro e w2 ⟨rfl, hb2⟩)
    | (go_at_call 86; refine (HCO.out _ hb2).mono ?_; rintro e w3 ⟨rfl, hb3⟩))
  go_ret
  exact ⟨rfl, HS.out.trans ((hb2.trans (hb3.mono hb2.size)).mono HS.out.size)⟩
/-- How Has and Begins end: y is where the last place's steps stay. -/
def LangEnd (g : Gr) (u : List Int) (y : Nat) (e : Ending) : Prop := ∃ F l er ls a c E, SetIs F (Fru g) ∧ TrimOf g F l er ∧ ls.map Lay.plain = g.prods ∧ SetT (wordT a c (pickL ls l) g.terms.length (stT u u.length) u.length y) (u.length + 1) (List.replicate 104 0) E ∧ E.length = 104 ∧ (∀ x ∈ E, x < 8192) ∧ e = .returned (.bool ((E.getD 0 0).testBit u.length))

set_option maxRecDepth 100000 in
set_option maxHeartbeats 8000000 in
theorem lhas_any (v : Value) (g : Gr) (pa : Option Addr) (pc : Nat) (u : List Int) (w : World) (hg : GramAt w v g) (hck : CheckG g) (hu : Cells w pa (nums u)) (hul : u.length ≤ 12) (hus : ∀ s ∈ u, 1 ≤ s ∧ s ≤ (g.terms.length : Int)) (hT : Tab32 w) :
    Calls Tryd.prog 18 #[v, .slice pa u.length pc] w fun e w' => Below w.heap.size w w' ∧ LangEnd g u (if false = true then 2 ^ u.length else 0) e := by
  have hg0 := hg
  obtain ⟨a1, a2, a3, c1, c2, c3, ls, rfl, hp, k1, k2, k3, k4, k5, k6, k7⟩ := hg
  have hS : Below w.heap.size w (w.alloc (.cells #[.slice a1 g.terms.length c1, .slice a2 g.nons.length c2, .slice a3 ls.length c3] 29)) := (Below.refl _ _).alloc (Nat.le_refl _) _
  have hQ := heap_alloc_new w (.cells #[.slice a1 g.terms.length c1, .slice a2 g.nons.length c2, .slice a3 ls.length c3] 29)
  have HQ := Lib.hid hQ
  have x0 := (blk_cell (i := 0) (u := .slice a1 g.terms.length c1) hQ rfl).1
  have x1 := (blk_cell (i := 1) (u := .slice a2 g.nons.length c2) hQ rfl).1
  have x2 := (blk_cell (i := 2) (u := .slice a3 ls.length c3) hQ rfl).1
  have hl0 := heap_lt hQ
  have hgS := hg0.below hS
  have huS := hu.below hS
  have hTS := hT.below hS
  have HS := Lib.hid hS
  have HUL := Lib.hid hul
  have HUS := Lib.hid hus
  have HCK := Lib.hid hck
  clear hg0 hp k1 k2 k3 k4 k5 k6 k7 hu hul hus hQ hck hS hT
  go_enter Tryd.func18, Tryd.ntmps18
  go_upto_region 1 with fail
  generalize hSq : w.alloc (.cells #[.slice a1 g.terms.length c1, .slice a2 g.nons.length c2, .slice a3 ls.length c3] 29) = S at *
  clear hSq
  generalize hB0 : w.heap.size = B0 at *
  have HB0 := Lib.hid hB0
  clear hB0
  have HGS := Lib.hid hgS
  have HUU := Lib.hid huS
  have HTT := Lib.hid hTS
  clear hgS huS hTS
  have HX := Lib.hid fun (W : World) (hW : Below S.heap.size S W) => (⟨(hW.block B0 hl0).trans HQ.out, Nat.lt_of_lt_of_le hl0 hW.size⟩ : W.heap[B0]? = some (.cells #[.slice a1 g.terms.length c1, .slice a2 g.nons.length c2, .slice a3 ls.length c3] 29) ∧ B0 < W.heap.size)
  have HA := Lib.hid fun (W : World) (hW : Below S.heap.size S W) => asked_any _ g pa pc u W (HGS.out.below hW) HCK.out (HUU.out.below hW) HUL.out HUS.out
  have HBR := Lib.hid fun (W : World) (hW : Below S.heap.size S W) => bearing_any _ g W (HGS.out.below hW) HCK.out
  have HWT := Lib.hid fun (ls : List Lay) (l : List Int) (a : Option Addr) (c : Nat) (W : World) (hW : Below S.heap.size S W) (hpl : ls.map Lay.plain = g.prods) (h1 : Cells W a (lays (pickL ls l))) (h2 : ∀ p ∈ pickL ls l, Cells W p.addr (nums p.right)) (hl : l.length ≤ 1000000) => wtrack_any a c (pickL ls l) g.terms.length pa pc u false W h1 h2 (fun p hp => by
      have hpp : p.plain ∈ g.prods := by
        rw [← hpl]
        obtain ⟨q, _, hq⟩ := List.mem_filterMap.1 hp
        exact List.mem_map_of_mem (List.mem_of_getElem? hq)
      have hv := HCK.out.pv _ hpp
      have h8 := HCK.out.n8
      have t8 := HCK.out.t8
      have hle : p.plain.2.length ≤ 6 := hv.2.1
      refine ⟨⟨hv.1.1, by have := hv.1.2; show p.plain.1 < 108; omega⟩, fun s hs => ?_, by show p.plain.2.length ≤ _; omega⟩
      have hs' := hv.2.2 s hs
      unfold symOk at hs'
      omega) (HUU.out.below hW) HUL.out (fun s hs => by have := HUS.out s hs; have := HCK.out.t8; omega) (Nat.le_trans (pickL_len _ _) hl) (HTT.out.below hW)
  have HLD := Lib.hid fun (X : Trk) (E : List Nat) (W : World) h9 h104 hE hl => leads_any X E W h9 h104 hE hl
  have HTL := Lib.hid fun (F : Nat) (l : List Int) (er : Int) (h : TrimOf g F l er) => (show l.length ≤ 1000000 by
    rcases h with ⟨_, _, rfl⟩ | ⟨_, _, rfl⟩
    · have := trimF_len F g.prods 0; have := HCK.out.p24; omega
    · simp)
  go_region_with (first
    | (go_at_call 54; refine (HA.out _ (below_drews (Below.refl _ _) 1)).mono ?_; rintro e w2 ⟨rfl, hb2⟩
       have hS2 := (Below.refl S.heap.size S).drew.trans hb2
       have HS2 := Lib.hid hS2
       obtain ⟨q2, l2⟩ := HX.out w2 hS2
       have d0 := (blk_cell (i := 0) (u := .slice a1 g.terms.length c1) q2 rfl).1
       have d1 := (blk_cell (i := 1) (u := .slice a2 g.nons.length c2) q2 rfl).1
       have d2 := (blk_cell (i := 2) (u := .slice a3 ls.length c3) q2 rfl).1
       clear hb2 hS2 q2)
    | (go_at_call 45; refine (HBR.out _ HS2.out).mono ?_; rintro e w3 ⟨hb3, F, l, er, ls2, a, c, hF, hTO, hpl2, rfl, hc3, hrw3⟩
       have hS3 := HS2.out.trans (hb3.mono HS2.out.size)
       have HS3 := Lib.hid hS3
       obtain ⟨q3, l3⟩ := HX.out w3 hS3
       have f0 := (blk_cell (i := 0) (u := .slice a1 g.terms.length c1) q3 rfl).1
       have HF := Lib.hid hF
       have HTO := Lib.hid hTO
       have HPL2 := Lib.hid hpl2
       have HC3 := Lib.hid hc3
       have HRW3 := Lib.hid hrw3
       clear hb3 hS3 q3 hF hTO hpl2 hc3 hrw3)
    | (go_at_call 55; refine (HWT.out ls2 l a c _ HS3.out HPL2.out HC3.out HRW3.out (HTL.out F l er HTO.out)).mono ?_; rintro e w4 ⟨hb4, E, rfl, hE, hE104, hEl⟩
       have HS4 := Lib.hid (HS3.out.trans (hb4.mono HS3.out.size))
       have HE := Lib.hid hE
       have HEL := Lib.hid hEl
       clear hb4 hE hEl)
    | (go_at_call 56; refine (HLD.out (wordT a c (pickL ls2 l) g.terms.length (stT u u.length) u.length (if false = true then 2 ^ u.length else 0)) E _ (stT_len u _) hE104 HEL.out (by have := HUL.out; show u.length < 13; omega)).mono ?_; rintro e w5 ⟨rfl, hb5⟩
       have HS5 := Lib.hid (HS4.out.trans (hb5.mono HS4.out.size))
       clear hb5))
  all_goals
    go_wp2
    go_ret
    exact ⟨by rw [HB0.out]; exact HS.out.trans (HS5.out.mono (Nat.le_of_lt hl0)), F, l, er, ls2, a, c, E, HF.out, HTO.out, HPL2.out, HE.out, hE104, HEL.out, ret_bool (by first | rfl | simp [wordT, List.getElem?_eq_getElem (show 0 < E.length by omega)])⟩

set_option maxRecDepth 100000 in
set_option maxHeartbeats 8000000 in
theorem lbegins_any (v : Value) (g : Gr) (pa : Option Addr) (pc : Nat) (u : List Int) (w : World) (hg : GramAt w v g) (hck : CheckG g) (hu : Cells w pa (nums u)) (hul : u.length ≤ 12) (hus : ∀ s ∈ u, 1 ≤ s ∧ s ≤ (g.terms.length : Int)) (hT : Tab32 w) :
    Calls Tryd.prog 19 #[v, .slice pa u.length pc] w fun e w' => Below w.heap.size w w' ∧ LangEnd g u (if true = true then 2 ^ u.length else 0) e := by
  have hg0 := hg
  obtain ⟨a1, a2, a3, c1, c2, c3, ls, rfl, hp, k1, k2, k3, k4, k5, k6, k7⟩ := hg
  have hS : Below w.heap.size w (w.alloc (.cells #[.slice a1 g.terms.length c1, .slice a2 g.nons.length c2, .slice a3 ls.length c3] 29)) := (Below.refl _ _).alloc (Nat.le_refl _) _
  have hQ := heap_alloc_new w (.cells #[.slice a1 g.terms.length c1, .slice a2 g.nons.length c2, .slice a3 ls.length c3] 29)
  have HQ := Lib.hid hQ
  have x0 := (blk_cell (i := 0) (u := .slice a1 g.terms.length c1) hQ rfl).1
  have x1 := (blk_cell (i := 1) (u := .slice a2 g.nons.length c2) hQ rfl).1
  have x2 := (blk_cell (i := 2) (u := .slice a3 ls.length c3) hQ rfl).1
  have hl0 := heap_lt hQ
  have hgS := hg0.below hS
  have huS := hu.below hS
  have hTS := hT.below hS
  have HS := Lib.hid hS
  have HUL := Lib.hid hul
  have HUS := Lib.hid hus
  have HCK := Lib.hid hck
  clear hg0 hp k1 k2 k3 k4 k5 k6 k7 hu hul hus hQ hck hS hT
  go_enter Tryd.func19, Tryd.ntmps19
  go_upto_region 1 with fail
  generalize hSq : w.alloc (.cells #[.slice a1 g.terms.length c1, .slice a2 g.nons.length c2, .slice a3 ls.length c3] 29) = S at *
  clear hSq
  generalize hB0 : w.heap.size = B0 at *
  have HB0 := Lib.hid hB0
  clear hB0
  have HGS := Lib.hid hgS
  have HUU := Lib.hid huS
  have HTT := Lib.hid hTS
  clear hgS huS hTS
  have HX := Lib.hid fun (W : World) (hW : Below S.heap.size S W) => (⟨(hW.block B0 hl0).trans HQ.out, Nat.lt_of_lt_of_le hl0 hW.size⟩ : W.heap[B0]? = some (.cells #[.slice a1 g.terms.length c1, .slice a2 g.nons.length c2, .slice a3 ls.length c3] 29) ∧ B0 < W.heap.size)
  have HA := Lib.hid fun (W : World) (hW : Below S.heap.size S W) => asked_any _ g pa pc u W (HGS.out.below hW) HCK.out (HUU.out.below hW) HUL.out HUS.out
  have HBR := Lib.hid fun (W : World) (hW : Below S.heap.size S W) => bearing_any _ g W (HGS.out.below hW) HCK.out
  have HWT := Lib.hid fun (ls : List Lay) (l : List Int) (a : Option Addr) (c : Nat) (W : World) (hW : Below S.heap.size S W) (hpl : ls.map Lay.plain = g.prods) (h1 : Cells W a (lays (pickL ls l))) (h2 : ∀ p ∈ pickL ls l, Cells W p.addr (nums p.right)) (hl : l.length ≤ 1000000) => wtrack_any a c (pickL ls l) g.terms.length pa pc u true W h1 h2 (fun p hp => by
      have hpp : p.plain ∈ g.prods := by
        rw [← hpl]
        obtain ⟨q, _, hq⟩ := List.mem_filterMap.1 hp
        exact List.mem_map_of_mem (List.mem_of_getElem? hq)
      have hv := HCK.out.pv _ hpp
      have h8 := HCK.out.n8
      have t8 := HCK.out.t8
      have hle : p.plain.2.length ≤ 6 := hv.2.1
      refine ⟨⟨hv.1.1, by have := hv.1.2; show p.plain.1 < 108; omega⟩, fun s hs => ?_, by show p.plain.2.length ≤ _; omega⟩
      have hs' := hv.2.2 s hs
      unfold symOk at hs'
      omega) (HUU.out.below hW) HUL.out (fun s hs => by have := HUS.out s hs; have := HCK.out.t8; omega) (Nat.le_trans (pickL_len _ _) hl) (HTT.out.below hW)
  have HLD := Lib.hid fun (X : Trk) (E : List Nat) (W : World) h9 h104 hE hl => leads_any X E W h9 h104 hE hl
  have HTL := Lib.hid fun (F : Nat) (l : List Int) (er : Int) (h : TrimOf g F l er) => (show l.length ≤ 1000000 by
    rcases h with ⟨_, _, rfl⟩ | ⟨_, _, rfl⟩
    · have := trimF_len F g.prods 0; have := HCK.out.p24; omega
    · simp)
  go_region_with (first
    | (go_at_call 54; refine (HA.out _ (below_drews (Below.refl _ _) 1)).mono ?_; rintro e w2 ⟨rfl, hb2⟩
       have hS2 := (Below.refl S.heap.size S).drew.trans hb2
       have HS2 := Lib.hid hS2
       obtain ⟨q2, l2⟩ := HX.out w2 hS2
       have d0 := (blk_cell (i := 0) (u := .slice a1 g.terms.length c1) q2 rfl).1
       have d1 := (blk_cell (i := 1) (u := .slice a2 g.nons.length c2) q2 rfl).1
       have d2 := (blk_cell (i := 2) (u := .slice a3 ls.length c3) q2 rfl).1
       clear hb2 hS2 q2)
    | (go_at_call 45; refine (HBR.out _ HS2.out).mono ?_; rintro e w3 ⟨hb3, F, l, er, ls2, a, c, hF, hTO, hpl2, rfl, hc3, hrw3⟩
       have hS3 := HS2.out.trans (hb3.mono HS2.out.size)
       have HS3 := Lib.hid hS3
       obtain ⟨q3, l3⟩ := HX.out w3 hS3
       have f0 := (blk_cell (i := 0) (u := .slice a1 g.terms.length c1) q3 rfl).1
       have HF := Lib.hid hF
       have HTO := Lib.hid hTO
       have HPL2 := Lib.hid hpl2
       have HC3 := Lib.hid hc3
       have HRW3 := Lib.hid hrw3
       clear hb3 hS3 q3 hF hTO hpl2 hc3 hrw3)
    | (go_at_call 55; refine (HWT.out ls2 l a c _ HS3.out HPL2.out HC3.out HRW3.out (HTL.out F l er HTO.out)).mono ?_; rintro e w4 ⟨hb4, E, rfl, hE, hE104, hEl⟩
       have HS4 := Lib.hid (HS3.out.trans (hb4.mono HS3.out.size))
       have HE := Lib.hid hE
       have HEL := Lib.hid hEl
       clear hb4 hE hEl)
    | (go_at_call 56; refine (HLD.out (wordT a c (pickL ls2 l) g.terms.length (stT u u.length) u.length (if true = true then 2 ^ u.length else 0)) E _ (stT_len u _) hE104 HEL.out (by have := HUL.out; show u.length < 13; omega)).mono ?_; rintro e w5 ⟨rfl, hb5⟩
       have HS5 := Lib.hid (HS4.out.trans (hb5.mono HS4.out.size))
       clear hb5))
  all_goals
    go_wp2
    go_ret
    exact ⟨by rw [HB0.out]; exact HS.out.trans (HS5.out.mono (Nat.le_of_lt hl0)), F, l, er, ls2, a, c, E, HF.out, HTO.out, HPL2.out, HE.out, hE104, HEL.out, ret_bool (by first | rfl | simp [wordT, List.getElem?_eq_getElem (show 0 < E.length by omega)])⟩
end Go.Proofs.YtejjdfmobiegdaaDoor
