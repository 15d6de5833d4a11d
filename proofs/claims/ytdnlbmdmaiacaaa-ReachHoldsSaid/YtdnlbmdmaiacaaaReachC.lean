/- reach: Nullable, Fruitful, Reached, Trim: of a grammar that may be. -/
import Derived.Test.YtdnlbmdmaiacaaaReachG
namespace Go.Proofs.Ytdnlbmdmaiacaaa
open Go.RowKit
open Doc

theorem chk_ok {g : Gr} (h : CheckG g) : chkI g = 0 := if_pos ((chk_iff g).2 h)
theorem fits_check {g : Gr} (h : CheckG g) : Fits g := by
  have h1 := h.t8
  have h2 := h.n8
  have h3 := h.p24
  exact ⟨by omega, by omega, by omega, fun p hp => by have := (h.pv p hp).2.1; omega⟩
theorem small_checkG {g : Gr} (h : CheckG g) : SmallG g := fun p hp => by
  have h1 := nums_of_check h p hp
  unfold maxI
  exact ⟨by omega, fun s hs => by have := h1.2 s hs; omega⟩
theorem kind_len {x : List UInt8} (h : kindOf x ≠ 0) : x.length ≤ 8 := by
  cases x with
  | nil => simp
  | cons c l =>
    have e : kindOf (c :: l) = if nameOk (c :: l) = true then (if up c = true then 1 else 2) else 0 := rfl
    rw [e] at h
    cases hn : nameOk (c :: l) with
    | false => rw [hn] at h; simp at h
    | true => unfold nameOk at hn; simp at hn; have := hn.1.1; simp only [List.length_cons]; omega
theorem check_terms {g : Gr} (h : CheckG g) : ∀ x ∈ g.terms, x.length ≤ maxLen := fun x hx => by
  have := kind_len (x := x) (by rw [h.tk x hx]; decide); unfold maxLen; omega
theorem check_nons {g : Gr} (h : CheckG g) : ∀ x ∈ g.nons, x.length ≤ maxLen := fun x hx => by
  have := kind_len (x := x) (by rw [h.nk x hx]; decide); unfold maxLen; omega
theorem check_calls (v : Value) (g : Gr) (w : World) (hg : GramAt w v g) (h : CheckG g) :
    Calls Try.prog 14 #[v] w fun e w' => e = .returned (.int .i64 0) ∧ Below w.heap.size w w' :=
  (chk_any v g w hg (fits_check h) (small_checkG h) (check_terms h) (check_nons h)).mono fun e w' ⟨he, hb⟩ => ⟨he.trans (by rw [chk_ok h]), hb⟩

theorem box_at {w w2 : World} {o : Obj} (h : Below (w.alloc o).heap.size (w.alloc o) w2) : w2.heap[w.heap.size]? = some o := (h.block w.heap.size (by simp)).trans (heap_alloc_new w o)

set_option maxHeartbeats 1000000 in
theorem nullable_any (v : Value) (g : Gr) (w : World) (hg : GramAt w v g) (h : CheckG g) :
    Calls Try.prog 32 #[v] w fun e w' => (∃ r : Nat, e = .returned (.int .u64 r) ∧ SetIs r (Nul g)) ∧ Below w.heap.size w w' := by
  have hg0 := hg
  obtain ⟨a1, a2, a3, c1, c2, c3, ls, rfl, hp, k1, k2, k3, k4, k5, k6, k7⟩ := hg
  have hS : Below w.heap.size w (w.alloc (.cells #[.slice a1 g.terms.length c1, .slice a2 g.nons.length c2, .slice a3 ls.length c3] 26)) := (Below.refl _ _).alloc (Nat.le_refl _) _
  have HCK := Lib.hid (check_calls _ g _ (hg0.below hS) h)
  have hL := rgr_lay (rgr_check h) hp
  have HGR := Lib.hid fun (W : World) (hW : Below (w.alloc (.cells #[.slice a1 g.terms.length c1, .slice a2 g.nons.length c2, .slice a3 ls.length c3] 26)).heap.size (w.alloc (.cells #[.slice a1 g.terms.length c1, .slice a2 g.nons.length c2, .slice a3 ls.length c3] 26)) W) =>
    grow_nul a1 a2 a3 g.terms.length c1 g.nons.length c2 c3 ls w.heap.size 0 (by decide) W (box_at hW) ((k3.below hS).below hW) (fun p hp => ((k4 p hp).below hS).below hW) hL.1 hL.2
  have HIS := Lib.hid fun r (hr : Grown (leftsF (ls.map Lay.plain) vanI) 0 r) => nul_is (nums_of_check h) (hp ▸ hr)
  have HS := Lib.hid hS
  clear hg0 hS k1 k2 k3 k4 hp h hL
  go_enter Try.func32, Try.ntmps32
  go_wp2_with (first
    | (go_at_call 14; refine HCK.out.mono ?_; rintro e w2 ⟨rfl, hb2⟩)
    | (go_at_call 75; refine (HGR.out _ hb2).mono ?_; rintro e w3 ⟨⟨r, rfl, hr⟩, hb3⟩))
  go_ret
  exact ⟨⟨r, rfl, HIS.out r hr⟩, (HS.out.trans (hb2.mono HS.out.size)).trans (hb3.mono (Nat.le_trans HS.out.size hb2.size))⟩

set_option maxHeartbeats 1000000 in
theorem fruitful0_any (v : Value) (g : Gr) (w : World) (hg : GramAt w v g) (h : CheckG g) :
    Calls Try.prog 72 #[v] w fun e w' => (∃ r : Nat, e = .returned (.int .u64 r) ∧ SetIs r (Fru g)) ∧ Below w.heap.size w w' := by
  have hg0 := hg
  obtain ⟨a1, a2, a3, c1, c2, c3, ls, rfl, hp, k1, k2, k3, k4, k5, k6, k7⟩ := hg
  have hS : Below w.heap.size w (w.alloc (.cells #[.slice a1 g.terms.length c1, .slice a2 g.nons.length c2, .slice a3 ls.length c3] 26)) := (Below.refl _ _).alloc (Nat.le_refl _) _
  have hL := rgr_lay (rgr_check h) hp
  have HGR := Lib.hid (grow_fru a1 a2 a3 g.terms.length c1 g.nons.length c2 c3 ls w.heap.size 0 (by decide) (w.alloc (.cells #[.slice a1 g.terms.length c1, .slice a2 g.nons.length c2, .slice a3 ls.length c3] 26)) (heap_alloc_new w _) (k3.below hS) (fun p hp => (k4 p hp).below hS) hL.1 hL.2)
  have HIS := Lib.hid fun r (hr : Grown (leftsF (ls.map Lay.plain) bearI) 0 r) => fru_is (nums_of_check h) (hp ▸ hr)
  have HS := Lib.hid hS
  clear hg0 hS k1 k2 k3 k4 hp h hL
  go_enter Try.func72, Try.ntmps72
  go_wp2_with (go_at_call 75; refine HGR.out.mono ?_; rintro e w3 ⟨⟨r, rfl, hr⟩, hb3⟩)
  go_ret
  exact ⟨⟨r, rfl, HIS.out r hr⟩, HS.out.trans (hb3.mono HS.out.size)⟩

set_option maxHeartbeats 1000000 in
theorem fruitful_any (v : Value) (g : Gr) (w : World) (hg : GramAt w v g) (h : CheckG g) :
    Calls Try.prog 34 #[v] w fun e w' => (∃ r : Nat, e = .returned (.int .u64 r) ∧ SetIs r (Fru g)) ∧ Below w.heap.size w w' := by
  have hg0 := hg
  obtain ⟨a1, a2, a3, c1, c2, c3, ls, rfl, hp, k1, k2, k3, k4, k5, k6, k7⟩ := hg
  have hS : Below w.heap.size w (w.alloc (.cells #[.slice a1 g.terms.length c1, .slice a2 g.nons.length c2, .slice a3 ls.length c3] 26)) := (Below.refl _ _).alloc (Nat.le_refl _) _
  have HCK := Lib.hid (check_calls _ g _ (hg0.below hS) h)
  have HFR := Lib.hid fun (W : World) (hW : Below (w.alloc (.cells #[.slice a1 g.terms.length c1, .slice a2 g.nons.length c2, .slice a3 ls.length c3] 26)).heap.size (w.alloc (.cells #[.slice a1 g.terms.length c1, .slice a2 g.nons.length c2, .slice a3 ls.length c3] 26)) W) => fruitful0_any _ g W ((hg0.below hS).below hW) h
  have HBX := Lib.hid fun (W : World) (hW : Below (w.alloc (.cells #[.slice a1 g.terms.length c1, .slice a2 g.nons.length c2, .slice a3 ls.length c3] 26)).heap.size (w.alloc (.cells #[.slice a1 g.terms.length c1, .slice a2 g.nons.length c2, .slice a3 ls.length c3] 26)) W) => box_at hW
  have HS := Lib.hid hS
  clear hg0 hS k1 k2 k3 k4 hp h
  go_enter Try.func34, Try.ntmps34
  go_wp2_with (first
    | (go_at_call 14; refine HCK.out.mono ?_; rintro e w2 ⟨rfl, hb2⟩; have q0 := HBX.out _ hb2; have q1 := heap_lt q0; have y0 := (blk_cell (i := 0) (u := .slice a1 g.terms.length c1) q0 rfl).1; have y1 := (blk_cell (i := 1) (u := .slice a2 g.nons.length c2) q0 rfl).1; have y2 := (blk_cell (i := 2) (u := .slice a3 ls.length c3) q0 rfl).1; clear q0)
    | (go_at_call 72; refine (HFR.out _ hb2).mono ?_; rintro e w3 ⟨⟨r, rfl, hr⟩, hb3⟩))
  go_ret
  exact ⟨⟨r, rfl, hr⟩, (HS.out.trans (hb2.mono HS.out.size)).trans (hb3.mono (Nat.le_trans HS.out.size hb2.size))⟩

theorem ofL_one' : ofL [0] = 1 := by decide

set_option maxHeartbeats 1000000 in
theorem reached_any (v : Value) (g : Gr) (w : World) (hg : GramAt w v g) (h : CheckG g) :
    Calls Try.prog 35 #[v] w fun e w' => (∃ r : Nat, e = .returned (.int .u64 r) ∧ SetIs r (Rea g)) ∧ Below w.heap.size w w' := by
  have hg0 := hg
  obtain ⟨a1, a2, a3, c1, c2, c3, ls, rfl, hp, k1, k2, k3, k4, k5, k6, k7⟩ := hg
  have hS : Below w.heap.size w (w.alloc (.cells #[.slice a1 g.terms.length c1, .slice a2 g.nons.length c2, .slice a3 ls.length c3] 26)) := (Below.refl _ _).alloc (Nat.le_refl _) _
  have HCK := Lib.hid (check_calls _ g _ (hg0.below hS) h)
  have hL := rgr_lay (rgr_check h) hp
  have HGR := Lib.hid fun (W : World) (hW : Below (w.alloc (.cells #[.slice a1 g.terms.length c1, .slice a2 g.nons.length c2, .slice a3 ls.length c3] 26)).heap.size (w.alloc (.cells #[.slice a1 g.terms.length c1, .slice a2 g.nons.length c2, .slice a3 ls.length c3] 26)) W) =>
    grow_rea a1 a2 a3 g.terms.length c1 g.nons.length c2 c3 ls w.heap.size 1 (by decide) W (box_at hW) ((k3.below hS).below hW) (fun p hp => ((k4 p hp).below hS).below hW) hL.1 hL.2
  have HIS := Lib.hid fun r (hr : Grown (namedF (ls.map Lay.plain)) 1 r) => rea_is (nums_of_check h) (hp ▸ hr)
  have HPL := Lib.hid fun W => place_any 100 W (by omega) (by omega)
  have HOF := Lib.hid fun W => (set_of (some ⟨W.heap.size, 0, none⟩) 1 [0] (W.alloc (.cells #[.int .i64 0] 3)) (cells_new W #[.int .i64 0] 3) (by decide)).mono fun e w' ⟨he, hw⟩ => (⟨he.trans (by rw [ofL_one']; rfl), hw⟩ : e = Ending.returned (.int .u64 1) ∧ w' = W.alloc (.cells #[.int .i64 0] 3))
  have HS := Lib.hid hS
  clear hg0 hS k1 k2 k3 k4 hp h hL
  go_enter Try.func35, Try.ntmps35
  go_wp2_with (first
    | (go_at_call 14; refine HCK.out.mono ?_; rintro e w2 ⟨rfl, hb2⟩)
    | (go_at_call 73; refine (HPL.out _).mono ?_; rintro e w4 ⟨rfl, rfl⟩)
    | (go_at_call 33; refine (HOF.out _).mono ?_; rintro e w4 ⟨rfl, rfl⟩)
    | (go_at_call 75; refine (HGR.out _ (hb2.alloc hb2.size _)).mono ?_; rintro e w3 ⟨⟨r, rfl, hr⟩, hb3⟩))
  go_ret
  exact ⟨⟨r, rfl, HIS.out r hr⟩, ((HS.out.trans (hb2.mono HS.out.size)).alloc (Nat.le_trans HS.out.size hb2.size) _).trans (hb3.mono (((HS.out.trans (hb2.mono HS.out.size)).alloc (Nat.le_trans HS.out.size hb2.size) (.cells #[.int .i64 0] 3)).size))⟩

end Go.Proofs.Ytdnlbmdmaiacaaa
