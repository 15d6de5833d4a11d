/- TreeTells: walked. -/
import Derived.Test.YtjlohjkhnjemaaaTreeM
import Derived.Test.YtjlohjkhnjemaaaTreeC
import Derived.Test.YtjlohjkhnjemaaaTreeE
import Derived.Test.YtjlohjkhnjemaaaTreeD
import Derived.Deep.RegionHeld3
import Derived.Deep.RegionLaw
set_option linter.unusedVariables false
namespace Go.Proofs.Ytjlohjkhnjemaaa
open Go.RowKit
open Doc

/-- A zero tree, alone in its block. -/
def Zer (W : World) (B : Nat) : Prop := W.heap[B]? = some (.cells #[.int .i64 0, .int .i64 0, .slice none 0 0] 79)
theorem Zer.cells {W : World} {B : Nat} (h : Zer W B) : W.cell? ⟨B, 0, none⟩ = some (.int .i64 0) ∧ W.cell? ⟨B, 1, none⟩ = some (.int .i64 0) ∧ W.cell? ⟨B, 2, none⟩ = some (.slice none 0 0) ∧ W.frozen? ⟨B, 0, none⟩ = false ∧ W.frozen? ⟨B, 1, none⟩ = false ∧ W.frozen? ⟨B, 2, none⟩ = false ∧ B < W.heap.size := ⟨(blk_cell (i := 0) h rfl).1, (blk_cell (i := 1) h rfl).1, (blk_cell (i := 2) h rfl).1, (blk_cell (i := 0) h rfl).2, (blk_cell (i := 1) h rfl).2, (blk_cell (i := 2) h rfl).2, heap_lt h⟩
theorem Zer.new (W : World) : Zer (W.alloc (.cells #[.int .i64 0, .int .i64 0, .slice none 0 0] 79)) W.heap.size := heap_alloc_new W _
theorem Zer.alloc {W : World} {B : Nat} (h : Zer W B) (o : Obj) : Zer (W.alloc o) B := (Below.heap_alloc _ _ _ (heap_lt h)).trans h
theorem Zer.drew {W : World} {B : Nat} (h : Zer W B) : Zer W.drew B := h
theorem Zer.next (W : World) : Zer ((W.alloc (.cells #[.int .i64 0, .int .i64 0, .slice none 0 0] 79)).alloc (.cells #[.int .i64 0, .int .i64 0, .slice none 0 0] 79)) (W.heap.size + 1) := by have h := Zer.new (W.alloc (.cells #[.int .i64 0, .int .i64 0, .slice none 0 0] 79)); rwa [show (W.alloc (.cells #[.int .i64 0, .int .i64 0, .slice none 0 0] 79)).heap.size = W.heap.size + 1 by simp] at h
theorem Zer.below {W W' : World} {B : Nat} (h : Zer W B) (hb : Below W.heap.size W W') : Zer W' B := (hb.block _ (heap_lt h)).trans h

/-- Two trees in their boxes. -/
structure Tw (S W : World) (B1 B2 : Nat) (tl ul : Tl) : Prop where
  k : Below S.heap.size S W
  t : W.heap[B1]? = some (.cells #[.int .i64 tl.sym, .int .i64 tl.prod, .slice tl.a tl.kids.length tl.c] 79)
  u : W.heap[B2]? = some (.cells #[.int .i64 ul.sym, .int .i64 ul.prod, .slice ul.a ul.kids.length ul.c] 79)
  l1 : Lies (fun b => b ≠ B1 ∧ b ≠ B2) W tl
  l2 : Lies (fun b => b ≠ B1 ∧ b ≠ B2) W ul

theorem fits_checkT {g : Gr} (h : CheckG g) : Fits g := ⟨by have := h.t8; omega, by have := h.n8; omega, by have := h.p24; omega, fun p hp => by have := (h.pv p hp).2.1; omega⟩
theorem below_up {X W W' : World} (h : Below X.heap.size X W) (k : Below W.heap.size W W') : Below X.heap.size X W' := h.trans (k.mono h.size)
theorem below_al {X W : World} (h : Below X.heap.size X W) (o : Obj) : Below X.heap.size X (W.alloc o) := h.alloc h.size o
theorem below_dr {X W : World} (h : Below X.heap.size X W) : Below X.heap.size X W.drew := h.drew
/-- Both boxes made behind the calls. -/
theorem tw_aa {S w3 w4 : World} {tl ul : Tl} {n1 n2 : Nat} (hS : Below S.heap.size S w4) (h34 : Below w3.heap.size w3 w4) (hl1 : Lies (fun b => n1 ≤ b) w3 tl) (hl2 : Lies (fun b => n2 ≤ b) w4 ul) :
    Tw S ((w4.alloc (.cells #[.int .i64 tl.sym, .int .i64 tl.prod, .slice tl.a tl.kids.length tl.c] 79)).alloc (.cells #[.int .i64 ul.sym, .int .i64 ul.prod, .slice ul.a ul.kids.length ul.c] 79)) w4.heap.size (w4.heap.size + 1) tl ul ∧
    Tw S ((w4.alloc (.cells #[.int .i64 ul.sym, .int .i64 ul.prod, .slice ul.a ul.kids.length ul.c] 79)).alloc (.cells #[.int .i64 tl.sym, .int .i64 tl.prod, .slice tl.a tl.kids.length tl.c] 79)) (w4.heap.size + 1) w4.heap.size tl ul := by
  have k1 : Lies (fun b => b < w4.heap.size) w4 tl := (hl1.under h34).weak fun b _ h => h
  have k2 : Lies (fun b => b < w4.heap.size) w4 ul := hl2.weak fun b _ h => h
  constructor
  · obtain ⟨hb, _, q0, q1⟩ := twin_alloc w4 (.cells #[.int .i64 tl.sym, .int .i64 tl.prod, .slice tl.a tl.kids.length tl.c] 79) (.cells #[.int .i64 ul.sym, .int .i64 ul.prod, .slice ul.a ul.kids.length ul.c] 79)
    exact ⟨below_up hS hb, q0, q1, (k1.under hb).weak fun b h _ => by omega, (k2.under hb).weak fun b h _ => by omega⟩
  · obtain ⟨hb, _, q0, q1⟩ := twin_alloc w4 (.cells #[.int .i64 ul.sym, .int .i64 ul.prod, .slice ul.a ul.kids.length ul.c] 79) (.cells #[.int .i64 tl.sym, .int .i64 tl.prod, .slice tl.a tl.kids.length tl.c] 79)
    exact ⟨below_up hS hb, q1, q0, (k1.under hb).weak fun b h _ => by omega, (k2.under hb).weak fun b h _ => by omega⟩
/-- The first box made ahead of the last call. -/
theorem tw_sa {S w3 w4 : World} {tl ul : Tl} {n1 n2 K : Nat} (hS : Below S.heap.size S w4) (h34 : Below w3.heap.size w3 w4) (hl1 : Lies (fun b => n1 ≤ b) w3 tl) (hl2 : Lies (fun b => n2 ≤ b) w4 ul) (hz : Zer w4 K) (hK : S.heap.size ≤ K) (c1 : K < n1 ∨ w3.heap.size ≤ K) (c2 : K < n2) :
    Tw S ((((w4.setCell ⟨K, 0, none⟩ (.int .i64 tl.sym)).setCell ⟨K, 1, none⟩ (.int .i64 tl.prod)).setCell ⟨K, 2, none⟩ (.slice tl.a tl.kids.length tl.c)).alloc (.cells #[.int .i64 ul.sym, .int .i64 ul.prod, .slice ul.a ul.kids.length ul.c] 79)) K w4.heap.size tl ul ∧
    Tw S ((((w4.setCell ⟨K, 0, none⟩ (.int .i64 ul.sym)).setCell ⟨K, 1, none⟩ (.int .i64 ul.prod)).setCell ⟨K, 2, none⟩ (.slice ul.a ul.kids.length ul.c)).alloc (.cells #[.int .i64 tl.sym, .int .i64 tl.prod, .slice tl.a tl.kids.length tl.c] 79)) w4.heap.size K tl ul := by
  have k1 : Lies (fun b => b < w4.heap.size ∧ b ≠ K) w4 tl := ((hl1.weak (Q := fun b => n1 ≤ b ∧ b < w3.heap.size) fun b h1 h2 => ⟨h1, h2⟩).under h34).weak fun b h hl => by omega
  have k2 : Lies (fun b => b < w4.heap.size ∧ b ≠ K) w4 ul := hl2.weak fun b h hl => by omega
  constructor
  · have hz3 := store3 hz (.int .i64 tl.sym) (.int .i64 tl.prod) (.slice tl.a tl.kids.length tl.c)
    have hb3 := store3_below hS hK (.int .i64 tl.sym) (.int .i64 tl.prod) (.slice tl.a tl.kids.length tl.c)
    have hf := fun b => store3_far (w := w4) (b := K) (.int .i64 tl.sym) (.int .i64 tl.prod) (.slice tl.a tl.kids.length tl.c) b
    have hs : (((w4.setCell ⟨K, 0, none⟩ (.int .i64 tl.sym)).setCell ⟨K, 1, none⟩ (.int .i64 tl.prod)).setCell ⟨K, 2, none⟩ (.slice tl.a tl.kids.length tl.c)).heap.size = w4.heap.size := by simp
    generalize ((w4.setCell ⟨K, 0, none⟩ (.int .i64 tl.sym)).setCell ⟨K, 1, none⟩ (.int .i64 tl.prod)).setCell ⟨K, 2, none⟩ (.slice tl.a tl.kids.length tl.c) = W at *
    have hA := box_belowT W (.cells #[.int .i64 ul.sym, .int .i64 ul.prod, .slice ul.a ul.kids.length ul.c] 79)
    have hn := heap_alloc_new W (.cells #[.int .i64 ul.sym, .int .i64 ul.prod, .slice ul.a ul.kids.length ul.c] 79)
    rw [hs] at hn
    exact ⟨below_up hb3 hA, (hA.block _ (heap_lt hz3)).trans hz3, hn, ((k1.keep (by omega) (fun b h _ => hf b h.2) (fun _ h _ => h)).under hA).weak fun b h _ => by omega, ((k2.keep (by omega) (fun b h _ => hf b h.2) (fun _ h _ => h)).under hA).weak fun b h _ => by omega⟩
  · have hz3 := store3 hz (.int .i64 ul.sym) (.int .i64 ul.prod) (.slice ul.a ul.kids.length ul.c)
    have hb3 := store3_below hS hK (.int .i64 ul.sym) (.int .i64 ul.prod) (.slice ul.a ul.kids.length ul.c)
    have hf := fun b => store3_far (w := w4) (b := K) (.int .i64 ul.sym) (.int .i64 ul.prod) (.slice ul.a ul.kids.length ul.c) b
    have hs : (((w4.setCell ⟨K, 0, none⟩ (.int .i64 ul.sym)).setCell ⟨K, 1, none⟩ (.int .i64 ul.prod)).setCell ⟨K, 2, none⟩ (.slice ul.a ul.kids.length ul.c)).heap.size = w4.heap.size := by simp
    generalize ((w4.setCell ⟨K, 0, none⟩ (.int .i64 ul.sym)).setCell ⟨K, 1, none⟩ (.int .i64 ul.prod)).setCell ⟨K, 2, none⟩ (.slice ul.a ul.kids.length ul.c) = W at *
    have hA := box_belowT W (.cells #[.int .i64 tl.sym, .int .i64 tl.prod, .slice tl.a tl.kids.length tl.c] 79)
    have hn := heap_alloc_new W (.cells #[.int .i64 tl.sym, .int .i64 tl.prod, .slice tl.a tl.kids.length tl.c] 79)
    rw [hs] at hn
    exact ⟨below_up hb3 hA, hn, (hA.block _ (heap_lt hz3)).trans hz3, ((k1.keep (by omega) (fun b h _ => hf b h.2) (fun _ h _ => h)).under hA).weak fun b h _ => by omega, ((k2.keep (by omega) (fun b h _ => hf b h.2) (fun _ h _ => h)).under hA).weak fun b h _ => by omega⟩
/-- Both boxes made ahead of the last call. -/
theorem tw_ss {S w3 w4 : World} {tl ul : Tl} {n1 n2 K1 K2 : Nat} (hS : Below S.heap.size S w4) (h34 : Below w3.heap.size w3 w4) (hl1 : Lies (fun b => n1 ≤ b) w3 tl) (hl2 : Lies (fun b => n2 ≤ b) w4 ul) (hz1 : Zer w4 K1) (hz2 : Zer w4 K2) (hne : K1 ≠ K2) (hK1 : S.heap.size ≤ K1) (hK2 : S.heap.size ≤ K2) (c1 : K1 < n1 ∨ w3.heap.size ≤ K1) (c2 : K1 < n2) (d1 : K2 < n1 ∨ w3.heap.size ≤ K2) (d2 : K2 < n2) :
    Tw S ((((((w4.setCell ⟨K1, 0, none⟩ (.int .i64 tl.sym)).setCell ⟨K1, 1, none⟩ (.int .i64 tl.prod)).setCell ⟨K1, 2, none⟩ (.slice tl.a tl.kids.length tl.c)).setCell ⟨K2, 0, none⟩ (.int .i64 ul.sym)).setCell ⟨K2, 1, none⟩ (.int .i64 ul.prod)).setCell ⟨K2, 2, none⟩ (.slice ul.a ul.kids.length ul.c)) K1 K2 tl ul := by
  have k1 : Lies (fun b => b ≠ K1 ∧ b ≠ K2) w4 tl := ((hl1.weak (Q := fun b => n1 ≤ b ∧ b < w3.heap.size) fun b h1 h2 => ⟨h1, h2⟩).under h34).weak fun b h hl => by omega
  have k2 : Lies (fun b => b ≠ K1 ∧ b ≠ K2) w4 ul := hl2.weak fun b h hl => by omega
  have hz3 := store3 hz1 (.int .i64 tl.sym) (.int .i64 tl.prod) (.slice tl.a tl.kids.length tl.c)
  have hb3 := store3_below hS hK1 (.int .i64 tl.sym) (.int .i64 tl.prod) (.slice tl.a tl.kids.length tl.c)
  have hf := fun b => store3_far (w := w4) (b := K1) (.int .i64 tl.sym) (.int .i64 tl.prod) (.slice tl.a tl.kids.length tl.c) b
  have hs : (((w4.setCell ⟨K1, 0, none⟩ (.int .i64 tl.sym)).setCell ⟨K1, 1, none⟩ (.int .i64 tl.prod)).setCell ⟨K1, 2, none⟩ (.slice tl.a tl.kids.length tl.c)).heap.size = w4.heap.size := by simp
  generalize ((w4.setCell ⟨K1, 0, none⟩ (.int .i64 tl.sym)).setCell ⟨K1, 1, none⟩ (.int .i64 tl.prod)).setCell ⟨K1, 2, none⟩ (.slice tl.a tl.kids.length tl.c) = W at *
  have hzW : Zer W K2 := (hf K2 (Ne.symm hne)).trans hz2
  have hz4 := store3 hzW (.int .i64 ul.sym) (.int .i64 ul.prod) (.slice ul.a ul.kids.length ul.c)
  have hb4 := store3_below hb3 hK2 (.int .i64 ul.sym) (.int .i64 ul.prod) (.slice ul.a ul.kids.length ul.c)
  have hf2 := fun b => store3_far (w := W) (b := K2) (.int .i64 ul.sym) (.int .i64 ul.prod) (.slice ul.a ul.kids.length ul.c) b
  have hs2 : (((W.setCell ⟨K2, 0, none⟩ (.int .i64 ul.sym)).setCell ⟨K2, 1, none⟩ (.int .i64 ul.prod)).setCell ⟨K2, 2, none⟩ (.slice ul.a ul.kids.length ul.c)).heap.size = W.heap.size := by simp
  generalize ((W.setCell ⟨K2, 0, none⟩ (.int .i64 ul.sym)).setCell ⟨K2, 1, none⟩ (.int .i64 ul.prod)).setCell ⟨K2, 2, none⟩ (.slice ul.a ul.kids.length ul.c) = W2 at *
  exact ⟨hb4, (hf2 K1 hne).trans hz3, hz4, k1.keep (by omega) (fun b h _ => (hf2 b h.2).trans (hf b h.1)) (fun _ h _ => h), k2.keep (by omega) (fun b h _ => (hf2 b h.2).trans (hf b h.1)) (fun _ h _ => h)⟩


set_option maxRecDepth 100000 in
set_option maxHeartbeats 20000000 in
theorem treeTells_walk (x : RawX) (a : Option Addr) (len cap : Nat) (zs : List Int) (b : Option Addr) (len2 cap2 : Nat) (ys : List Int) (deep how at_ other : Int) (w : World) (hx : RawAt w x) (hwd : RawWide x) (hr : IsRow .i64 w a len cap zs) (hcap : cap * 8 ≤ 140737488351232) (hr2 : IsRow .i64 w b len2 cap2 ys) (hcap2 : cap2 * 8 ≤ 140737488351232) (hhw : -9223372036854775808 ≤ how ∧ how ≤ 9223372036854775807) (haw : -9223372036854775808 ≤ at_ ∧ at_ ≤ 9223372036854775807) (how2 : -9223372036854775808 ≤ other ∧ other ≤ 9223372036854775807) :
    Calls Try.prog 8 #[x.v, .slice a len cap, .slice b len2 cap2, .int .i64 deep, .int .i64 how, .int .i64 at_, .int .i64 other] w fun e w' => e = .returned (.bool true) ∧ Below w.heap.size w w' := by
  have hln := row_len hr
  have hln2 := row_len hr2
  have HGR := Lib.hid fun W (h : Below w.heap.size w W) => grammar_0 x.calm W ((calm_at hx).below h) (calm_wide hwd) (by show (0 : Int) % 40 < 28; omega)
  have HZ := Lib.hid (row_cells hr)
  have HZW := Lib.hid (row_wide hr)
  have HZL := Lib.hid hln
  have HCP := Lib.hid hcap
  have HY := Lib.hid (row_cells hr2)
  have HYW := Lib.hid (row_wide hr2)
  have HYL := Lib.hid hln2
  have HCP2 := Lib.hid hcap2
  have HWK := Lib.hid fun W => wakes8_any W
  have HHW := Lib.hid hhw
  have HAW := Lib.hid haw
  have HOW2 := Lib.hid how2
  clear hhw haw how2
  obtain ⟨xp, xt, xn, xh, rows, xa, xc, word⟩ := x
  unfold RawX.calm RawX.v at *
  simp only at *
  have hb0 := box_belowT w (.cells #[.int .i64 xp, .int .i64 xt, .int .i64 xn, .int .i64 0, .slice xa rows.length xc, .string word] 24)
  have HG1 := Lib.hid (HGR.out _ hb0)
  have HB1 := Lib.hid hb0
  clear hb0 HGR hx hwd hr hcap hln hr2 hcap2 hln2
  go_enter Try.func8, Try.ntmps8
  go_upto_region 3 with (go_at_call 12; (with_reducible refine HG1.out.mono ?_); rintro e w2 ⟨hb2, a1, a2, a3, c1, c2, c3, g, rfl, hg2, hc2⟩)
  obtain ⟨hbG, -, qG⟩ := one_alloc w2 (.cells #[.slice a1 g.terms.length c1, .slice a2 g.nons.length c2, .slice a3 g.prods.length c3] 28)
  have HBG := Lib.hid ((HB1.out.trans (hb2.mono HB1.out.size)).trans (hbG.mono (Nat.le_trans HB1.out.size hb2.size)))
  have HQG := Lib.hid qG
  have HGG := Lib.hid (hg2.below hbG)
  have HCG := Lib.hid hc2
  clear hb2 hg2 hc2 hbG qG HG1 HB1
  generalize w2.alloc (.cells #[.slice a1 g.terms.length c1, .slice a2 g.nons.length c2, .slice a3 g.prods.length c3] 28) = S at *
  generalize w2.heap.size = BG at *
  have HOF1 := Lib.hid fun W (hW : Hid (Below S.heap.size S W)) => treeOf2_any g HCG.out a1 a2 a3 c1 c2 c3 a cap (zs.take len) deep how at_ W (HGG.out.below hW.out) ((HZ.out.below HBG.out).below hW.out) (by have := HZL.out; omega) (by have := HCP.out; omega) HZW.out HHW.out HAW.out
  have HOF2 := Lib.hid fun W (hW : Hid (Below S.heap.size S W)) => treeOf2_any g HCG.out a1 a2 a3 c1 c2 c3 b cap2 (ys.take len2) deep other at_ W (HGG.out.below hW.out) ((HY.out.below HBG.out).below hW.out) (by have := HYL.out; omega) (by have := HCP2.out; omega) HYW.out HOW2.out HAW.out
  rw [HZL.out.1] at HOF1
  rw [HYL.out.1] at HOF2
  unfold OfEnd2 at HOF1 HOF2
  have HSK : Hid (∀ W W' : World, Hid (Below S.heap.size S W) → Below W.heap.size W W' → (W'.cell? ⟨BG, 0, none⟩ = some (.slice a1 g.terms.length c1) ∧ W'.cell? ⟨BG, 1, none⟩ = some (.slice a2 g.nons.length c2) ∧ W'.cell? ⟨BG, 2, none⟩ = some (.slice a3 g.prods.length c3)) ∧ Hid (Below S.heap.size S W')) := Lib.hid fun W W' h k => by
    have hb := h.out.trans (k.mono h.out.size)
    have z1 := (hb.block _ (heap_lt HQG.out)).trans HQG.out
    exact ⟨⟨(blk_cell z1 rfl).1, (blk_cell z1 rfl).1, (blk_cell z1 rfl).1⟩, Lib.hid hb⟩
  have HB33 := Lib.hid (Below.refl S.heap.size S)
  have HAL : Hid (∀ (W : World) (o : Obj), Hid (Below S.heap.size S W) → Hid (Below S.heap.size S (W.alloc o))) := Lib.hid fun W o h => Lib.hid (h.out.alloc h.out.size o)
  have HSE : Hid (∀ (W : World) (p : Addr) (u : Value), Hid (Below S.heap.size S W) → S.heap.size ≤ p.block → Hid (Below S.heap.size S (W.setCell p u))) := Lib.hid fun W p u h hp => Lib.hid (h.out.setCell hp u)
  have HSL : Hid (∀ F : World, Hid (Below S.heap.size S F) → (F.cell? ⟨BG, 0, none⟩ = some (.slice a1 g.terms.length c1) ∧ F.cell? ⟨BG, 1, none⟩ = some (.slice a2 g.nons.length c2) ∧ F.cell? ⟨BG, 2, none⟩ = some (.slice a3 g.prods.length c3)) ∧ Hid (Below S.heap.size S F)) := Lib.hid fun F h => by
    have z1 := (h.out.block _ (heap_lt HQG.out)).trans HQG.out
    exact ⟨⟨(blk_cell z1 rfl).1, (blk_cell z1 rfl).1, (blk_cell z1 rfl).1⟩, h⟩
  have HDR : Hid (∀ W : World, Hid (Below S.heap.size S W) → Hid (Below S.heap.size S W.drew)) := Lib.hid fun W h => Lib.hid h.out.drew
  obtain ⟨⟨g0, g1, g2⟩, -⟩ := HSL.out _ HB33
  have lG := heap_lt HQG.out
  go_cut [16, 17] from 23 to 34 (fun v1 v2 W => ∃ (B1 B2 : Nat) (tl ul : Tl), v1 = .pointer (some ⟨B1, 0, none⟩) ∧ v2 = .pointer (some ⟨B2, 0, none⟩) ∧ Hid (Tw S W B1 B2 tl ul) ∧ Hid (mildT tl.plain ∧ sizeT tl.plain ≤ 9332) ∧ Hid (mildT ul.plain ∧ sizeT ul.plain ≤ 9332))
  case first =>
    go_region_law (first
        | (go_simp; go_at_call 55; first
            | ((with_reducible refine (HOF1.out _ (by repeat (first | assumption | (with_reducible refine HAL.out _ _ ?_) | (with_reducible refine HDR.out _ ?_) | (with_reducible refine HSE.out _ _ _ ?_ (by simp; omega))))).mono ?_); rintro e w3 ⟨hb3, tl, rfl, hli, hmi, hsz⟩; have K3 : Hid (Below S.heap.size S w3) := (HSK.out _ _ (by repeat (first | assumption | (with_reducible refine HAL.out _ _ ?_) | (with_reducible refine HDR.out _ ?_) | (with_reducible refine HSE.out _ _ _ ?_ (by simp; omega)))) hb3).2; obtain ⟨⟨g30, g31, g32⟩, -⟩ := HSL.out _ K3; have lG3 : BG < w3.heap.size := Nat.lt_of_lt_of_le lG K3.out.size
               (first | (have Z0 : Zer w3 (S.heap.size) := Zer.below (Zer.new _) hb3; obtain ⟨z00, z01, z02, z0f, z0g, z0h, z0l⟩ := Z0.cells) | (have Z0 : Zer w3 (S.heap.size) := Zer.below ((Zer.new _).drew) hb3; obtain ⟨z00, z01, z02, z0f, z0g, z0h, z0l⟩ := Z0.cells) | (have Z0 : Zer w3 (S.heap.size) := Zer.below ((Zer.new _).alloc _) hb3; obtain ⟨z00, z01, z02, z0f, z0g, z0h, z0l⟩ := Z0.cells) | (have Z0 : Zer w3 (S.heap.size) := Zer.below (((Zer.new _).alloc _).drew) hb3; obtain ⟨z00, z01, z02, z0f, z0g, z0h, z0l⟩ := Z0.cells) | skip)
               (first | (have Z1 : Zer w3 (S.heap.size + 1) := Zer.below (Zer.next _) hb3; obtain ⟨z10, z11, z12, z1f, z1g, z1h, z1l⟩ := Z1.cells) | (have Z1 : Zer w3 (S.heap.size + 1) := Zer.below ((Zer.next _).drew) hb3; obtain ⟨z10, z11, z12, z1f, z1g, z1h, z1l⟩ := Z1.cells) | skip))
            | ((with_reducible refine (HOF2.out _ (by repeat (first | assumption | (with_reducible refine HAL.out _ _ ?_) | (with_reducible refine HDR.out _ ?_) | (with_reducible refine HSE.out _ _ _ ?_ (by simp; omega))))).mono ?_); rintro e w4 ⟨hb4, ul, rfl, hli2, hmi2, hsz2⟩; have K4 : Hid (Below S.heap.size S w4) := (HSK.out _ _ (by repeat (first | assumption | (with_reducible refine HAL.out _ _ ?_) | (with_reducible refine HDR.out _ ?_) | (with_reducible refine HSE.out _ _ _ ?_ (by simp; omega)))) hb4).2; obtain ⟨⟨g40, g41, g42⟩, -⟩ := HSL.out _ K4; have lG4 : BG < w4.heap.size := Nat.lt_of_lt_of_le lG K4.out.size
               (first | (have Y0 : Zer w4 (S.heap.size) := Zer.below (Z0) hb4; obtain ⟨y00, y01, y02, y0f, y0g, y0h, y0l⟩ := Y0.cells) | (have Y0 : Zer w4 (S.heap.size) := Zer.below ((Z0).drew) hb4; obtain ⟨y00, y01, y02, y0f, y0g, y0h, y0l⟩ := Y0.cells) | (have Y0 : Zer w4 (S.heap.size) := Zer.below (Z0.alloc _) hb4; obtain ⟨y00, y01, y02, y0f, y0g, y0h, y0l⟩ := Y0.cells) | (have Y0 : Zer w4 (S.heap.size) := Zer.below ((Z0.alloc _).drew) hb4; obtain ⟨y00, y01, y02, y0f, y0g, y0h, y0l⟩ := Y0.cells) | (have Y0 : Zer w4 (S.heap.size) := Zer.below ((Z0.alloc _).alloc _) hb4; obtain ⟨y00, y01, y02, y0f, y0g, y0h, y0l⟩ := Y0.cells) | (have Y0 : Zer w4 (S.heap.size) := Zer.below (((Z0.alloc _).alloc _).drew) hb4; obtain ⟨y00, y01, y02, y0f, y0g, y0h, y0l⟩ := Y0.cells) | skip)
               (first | (have Y1 : Zer w4 (S.heap.size + 1) := Zer.below (Z1) hb4; obtain ⟨y10, y11, y12, y1f, y1g, y1h, y1l⟩ := Y1.cells) | (have Y1 : Zer w4 (S.heap.size + 1) := Zer.below ((Z1).drew) hb4; obtain ⟨y10, y11, y12, y1f, y1g, y1h, y1l⟩ := Y1.cells) | (have Y1 : Zer w4 (S.heap.size + 1) := Zer.below (Z1.alloc _) hb4; obtain ⟨y10, y11, y12, y1f, y1g, y1h, y1l⟩ := Y1.cells) | (have Y1 : Zer w4 (S.heap.size + 1) := Zer.below ((Z1.alloc _).drew) hb4; obtain ⟨y10, y11, y12, y1f, y1g, y1h, y1l⟩ := Y1.cells) | (have Y1 : Zer w4 (S.heap.size + 1) := Zer.below ((Z1.alloc _).alloc _) hb4; obtain ⟨y10, y11, y12, y1f, y1g, y1h, y1l⟩ := Y1.cells) | (have Y1 : Zer w4 (S.heap.size + 1) := Zer.below (((Z1.alloc _).alloc _).drew) hb4; obtain ⟨y10, y11, y12, y1f, y1g, y1h, y1l⟩ := Y1.cells) | skip)
               (first | (have X0 : Zer w4 (w3.heap.size) := Zer.below (Zer.new _) hb4; obtain ⟨x00, x01, x02, x0f, x0g, x0h, x0l⟩ := X0.cells) | (have X0 : Zer w4 (w3.heap.size) := Zer.below ((Zer.new _).drew) hb4; obtain ⟨x00, x01, x02, x0f, x0g, x0h, x0l⟩ := X0.cells) | (have X0 : Zer w4 (w3.heap.size) := Zer.below ((Zer.new _).alloc _) hb4; obtain ⟨x00, x01, x02, x0f, x0g, x0h, x0l⟩ := X0.cells) | (have X0 : Zer w4 (w3.heap.size) := Zer.below (((Zer.new _).alloc _).drew) hb4; obtain ⟨x00, x01, x02, x0f, x0g, x0h, x0l⟩ := X0.cells) | skip)
               (first | (have X1 : Zer w4 (w3.heap.size + 1) := Zer.below (Zer.next _) hb4; obtain ⟨x10, x11, x12, x1f, x1g, x1h, x1l⟩ := X1.cells) | (have X1 : Zer w4 (w3.heap.size + 1) := Zer.below ((Zer.next _).drew) hb4; obtain ⟨x10, x11, x12, x1f, x1g, x1h, x1l⟩ := X1.cells) | skip))))
    all_goals
      have HM1 := Lib.hid (And.intro hmi hsz)
      have HM2 := Lib.hid (And.intro hmi2 hsz2)
      clear hmi hsz hmi2 hsz2
      go_wp2
      go_meet
      case rel =>
        have HB34 : Below w3.heap.size w3 w4 := below_up (by repeat (first | exact Below.refl _ _ | (with_reducible refine below_al ?_ _) | (with_reducible refine below_dr ?_))) hb4
        have hs3 := K3.out.size
        first
          | (with_reducible exact ⟨_, _, tl, ul, rfl, rfl, Lib.hid (tw_aa K4.out HB34 hli hli2).1, HM1, HM2⟩)
          | (with_reducible exact ⟨_, _, tl, ul, rfl, rfl, Lib.hid (tw_aa K4.out HB34 hli hli2).2, HM1, HM2⟩)
          | ((with_reducible refine ⟨_, _, tl, ul, rfl, rfl, Lib.hid (tw_sa K4.out HB34 hli hli2 Y0 (Nat.le_refl _) ?_ ?_).1, HM1, HM2⟩) <;> (first | omega | (left; first | omega | assumption | (show _ < (World.alloc _ _).heap.size; simp; done) | (show _ < (World.alloc _ _).heap.size; simp; omega)) | (right; first | exact Nat.le_refl _ | exact Nat.le_succ _ | omega) | assumption | (show _ < (World.alloc _ _).heap.size; simp; done) | (show _ < (World.alloc _ _).heap.size; simp; omega)))
          | ((with_reducible refine ⟨_, _, tl, ul, rfl, rfl, Lib.hid (tw_sa K4.out HB34 hli hli2 Y0 (Nat.le_refl _) ?_ ?_).2, HM1, HM2⟩) <;> (first | omega | (left; first | omega | assumption | (show _ < (World.alloc _ _).heap.size; simp; done) | (show _ < (World.alloc _ _).heap.size; simp; omega)) | (right; first | exact Nat.le_refl _ | exact Nat.le_succ _ | omega) | assumption | (show _ < (World.alloc _ _).heap.size; simp; done) | (show _ < (World.alloc _ _).heap.size; simp; omega)))
          | ((with_reducible refine ⟨_, _, tl, ul, rfl, rfl, Lib.hid (tw_sa K4.out HB34 hli hli2 X0 K3.out.size ?_ ?_).1, HM1, HM2⟩) <;> (first | omega | (left; first | omega | assumption | (show _ < (World.alloc _ _).heap.size; simp; done) | (show _ < (World.alloc _ _).heap.size; simp; omega)) | (right; first | exact Nat.le_refl _ | exact Nat.le_succ _ | omega) | assumption | (show _ < (World.alloc _ _).heap.size; simp; done) | (show _ < (World.alloc _ _).heap.size; simp; omega)))
          | ((with_reducible refine ⟨_, _, tl, ul, rfl, rfl, Lib.hid (tw_sa K4.out HB34 hli hli2 X0 K3.out.size ?_ ?_).2, HM1, HM2⟩) <;> (first | omega | (left; first | omega | assumption | (show _ < (World.alloc _ _).heap.size; simp; done) | (show _ < (World.alloc _ _).heap.size; simp; omega)) | (right; first | exact Nat.le_refl _ | exact Nat.le_succ _ | omega) | assumption | (show _ < (World.alloc _ _).heap.size; simp; done) | (show _ < (World.alloc _ _).heap.size; simp; omega)))
          | ((with_reducible refine ⟨_, _, tl, ul, rfl, rfl, Lib.hid (tw_ss K4.out HB34 hli hli2 Y0 Y1 ?_ (Nat.le_refl _) (Nat.le_succ _) ?_ ?_ ?_ ?_), HM1, HM2⟩) <;> (first | omega | (left; first | omega | assumption | (show _ < (World.alloc _ _).heap.size; simp; done) | (show _ < (World.alloc _ _).heap.size; simp; omega)) | (right; first | exact Nat.le_refl _ | exact Nat.le_succ _ | omega) | assumption | (show _ < (World.alloc _ _).heap.size; simp; done) | (show _ < (World.alloc _ _).heap.size; simp; omega)))
          | ((with_reducible refine ⟨_, _, tl, ul, rfl, rfl, Lib.hid (tw_ss K4.out HB34 hli hli2 Y1 Y0 ?_ (Nat.le_succ _) (Nat.le_refl _) ?_ ?_ ?_ ?_), HM1, HM2⟩) <;> (first | omega | (left; first | omega | assumption | (show _ < (World.alloc _ _).heap.size; simp; done) | (show _ < (World.alloc _ _).heap.size; simp; omega)) | (right; first | exact Nat.le_refl _ | exact Nat.le_succ _ | omega) | assumption | (show _ < (World.alloc _ _).heap.size; simp; done) | (show _ < (World.alloc _ _).heap.size; simp; omega)))
          | ((with_reducible refine ⟨_, _, tl, ul, rfl, rfl, Lib.hid (tw_ss K4.out HB34 hli hli2 Y0 X0 ?_ (Nat.le_refl _) K3.out.size ?_ ?_ ?_ ?_), HM1, HM2⟩) <;> (first | omega | (left; first | omega | assumption | (show _ < (World.alloc _ _).heap.size; simp; done) | (show _ < (World.alloc _ _).heap.size; simp; omega)) | (right; first | exact Nat.le_refl _ | exact Nat.le_succ _ | omega) | assumption | (show _ < (World.alloc _ _).heap.size; simp; done) | (show _ < (World.alloc _ _).heap.size; simp; omega)))
          | ((with_reducible refine ⟨_, _, tl, ul, rfl, rfl, Lib.hid (tw_ss K4.out HB34 hli hli2 X0 Y0 ?_ K3.out.size (Nat.le_refl _) ?_ ?_ ?_ ?_), HM1, HM2⟩) <;> (first | omega | (left; first | omega | assumption | (show _ < (World.alloc _ _).heap.size; simp; done) | (show _ < (World.alloc _ _).heap.size; simp; omega)) | (right; first | exact Nat.le_refl _ | exact Nat.le_succ _ | omega) | assumption | (show _ < (World.alloc _ _).heap.size; simp; done) | (show _ < (World.alloc _ _).heap.size; simp; omega)))
          | ((with_reducible refine ⟨_, _, tl, ul, rfl, rfl, Lib.hid (tw_ss K4.out HB34 hli hli2 X0 X1 ?_ K3.out.size (Nat.le_trans K3.out.size (Nat.le_succ _)) ?_ ?_ ?_ ?_), HM1, HM2⟩) <;> (first | omega | (left; first | omega | assumption | (show _ < (World.alloc _ _).heap.size; simp; done) | (show _ < (World.alloc _ _).heap.size; simp; omega)) | (right; first | exact Nat.le_refl _ | exact Nat.le_succ _ | omega) | assumption | (show _ < (World.alloc _ _).heap.size; simp; done) | (show _ < (World.alloc _ _).heap.size; simp; omega)))
          | ((with_reducible refine ⟨_, _, tl, ul, rfl, rfl, Lib.hid (tw_ss K4.out HB34 hli hli2 X1 X0 ?_ (Nat.le_trans K3.out.size (Nat.le_succ _)) K3.out.size ?_ ?_ ?_ ?_), HM1, HM2⟩) <;> (first | omega | (left; first | omega | assumption | (show _ < (World.alloc _ _).heap.size; simp; done) | (show _ < (World.alloc _ _).heap.size; simp; omega)) | (right; first | exact Nat.le_refl _ | exact Nat.le_succ _ | omega) | assumption | (show _ < (World.alloc _ _).heap.size; simp; done) | (show _ < (World.alloc _ _).heap.size; simp; omega)))
  case rest =>
    obtain ⟨B1, B2, tl, ul, rfl, rfl, HT, HM1, HM2⟩ := hcut
    rename World => S3
    clear g0 g1 g2 lG HSK HB33 HAL HSE HSL HDR HOF1 HOF2
    have HB3 := HT.out.k
    have HBW := Lib.hid (HBG.out.trans (HB3.mono HBG.out.size))
    have HGT := Lib.hid (HGG.out.below HB3)
    have HQ2 := Lib.hid ((HB3.block _ (heap_lt HQG.out)).trans HQG.out)
    have HC5 := Lib.hid fun (W : World) (hW : Below S3.heap.size S3 W) => And.intro (HGT.out.below hW) (And.intro (HT.out.l1.under hW) (HT.out.l2.under hW))
    obtain ⟨t0, _⟩ := blk_cell (i := 0) HT.out.t rfl
    have lT := heap_lt HT.out.t
    obtain ⟨hbV, -, qV⟩ := one_alloc S3 (.cells #[.int .i64 tl.sym, .int .i64 100, .int .i64 1] 3)
    have HBV := Lib.hid hbV
    have HQV := Lib.hid qV
    clear hbV qV HB3
    have HCX : Hid (∀ W, Below S3.heap.size S3 W → ((W.cell? ⟨BG, 0, none⟩ = some (.slice a1 g.terms.length c1) ∧ W.cell? ⟨BG, 1, none⟩ = some (.slice a2 g.nons.length c2) ∧ W.cell? ⟨BG, 2, none⟩ = some (.slice a3 g.prods.length c3)) ∧ (W.cell? ⟨B1, 0, none⟩ = some (.int .i64 tl.sym) ∧ W.cell? ⟨B1, 1, none⟩ = some (.int .i64 tl.prod) ∧ W.cell? ⟨B1, 2, none⟩ = some (.slice tl.a tl.kids.length tl.c)) ∧ (W.cell? ⟨B2, 0, none⟩ = some (.int .i64 ul.sym) ∧ W.cell? ⟨B2, 1, none⟩ = some (.int .i64 ul.prod) ∧ W.cell? ⟨B2, 2, none⟩ = some (.slice ul.a ul.kids.length ul.c))) ∧ Hid (Below S3.heap.size S3 W)) := Lib.hid fun W hW => by
      have z0 := (hW.block _ (heap_lt HQ2.out)).trans HQ2.out
      have z1 := (hW.block _ (heap_lt HT.out.t)).trans HT.out.t
      have z2 := (hW.block _ (heap_lt HT.out.u)).trans HT.out.u
      exact ⟨⟨⟨(blk_cell z0 rfl).1, (blk_cell z0 rfl).1, (blk_cell z0 rfl).1⟩, ⟨(blk_cell z1 rfl).1, (blk_cell z1 rfl).1, (blk_cell z1 rfl).1⟩, ⟨(blk_cell z2 rfl).1, (blk_cell z2 rfl).1, (blk_cell z2 rfl).1⟩⟩, Lib.hid hW⟩
    have HKX : Hid (∀ W W', Hid (Below S3.heap.size S3 W) → Below W.heap.size W W' → ((W'.cell? ⟨BG, 0, none⟩ = some (.slice a1 g.terms.length c1) ∧ W'.cell? ⟨BG, 1, none⟩ = some (.slice a2 g.nons.length c2) ∧ W'.cell? ⟨BG, 2, none⟩ = some (.slice a3 g.prods.length c3)) ∧ (W'.cell? ⟨B1, 0, none⟩ = some (.int .i64 tl.sym) ∧ W'.cell? ⟨B1, 1, none⟩ = some (.int .i64 tl.prod) ∧ W'.cell? ⟨B1, 2, none⟩ = some (.slice tl.a tl.kids.length tl.c)) ∧ (W'.cell? ⟨B2, 0, none⟩ = some (.int .i64 ul.sym) ∧ W'.cell? ⟨B2, 1, none⟩ = some (.int .i64 ul.prod) ∧ W'.cell? ⟨B2, 2, none⟩ = some (.slice ul.a ul.kids.length ul.c))) ∧ Hid (Below S3.heap.size S3 W')) := Lib.hid fun W W' h k => HCX.out W' (h.out.trans (k.mono h.out.size))
    have HKD : Hid (∀ W W' n, Hid (Below S3.heap.size S3 W) → W' = W.drewN n → Below W.heap.size W W') := Lib.hid fun W W' n h e => by subst e; exact below_drews (Below.refl _ _) _
    have HFT := Lib.hid (fits_checkT HCG.out)
    have HSH := Lib.hid (check_shortN HCG.out)
    go_upto_region 5 with fail
    generalize S3.alloc (.cells #[.int .i64 tl.sym, .int .i64 100, .int .i64 1] 3) = V at *
    clear t0 lT
    go_wp2
    go_loopw [39] (fun i wr => ∃ j : Nat, j ≤ 3 ∧ i = .int .i64 j ∧ Hid (Below V.heap.size V wr)) (fun i _ => 3 - (intOf i).toNat)
    case atStart => exact ⟨0, Nat.zero_le _, rfl, Lib.hid (Below.refl _ _)⟩
    case round =>
      obtain ⟨j, hj, rfl, HBE⟩ := hrel
      have HBR := Lib.hid (HBV.out.trans (HBE.out.mono HBV.out.size))
      have HBRd : Hid (Below S3.heap.size S3 wr.drew) := Lib.hid HBR.out.drew
      obtain ⟨⟨⟨g0, g1, g2⟩, ⟨t0, t1, t2⟩, ⟨u0, u1, u2⟩⟩, _⟩ := HCX.out wr HBR.out
      have lG : BG < wr.heap.size := Nat.lt_of_lt_of_le (heap_lt HQ2.out) HBR.out.size
      have lT : B1 < wr.heap.size := Nat.lt_of_lt_of_le (heap_lt HT.out.t) HBR.out.size
      have lU : B2 < wr.heap.size := Nat.lt_of_lt_of_le (heap_lt HT.out.u) HBR.out.size
      by_cases hlt : j < 3
      · obtain ⟨r, hr⟩ : ∃ r : Int, wr.cell? ⟨S3.heap.size, j, none⟩ = some (.int .i64 r) := by
          have hq := (HBE.out.block _ (heap_lt HQV.out)).trans HQV.out
          obtain rfl | rfl | rfl : j = 0 ∨ j = 1 ∨ j = 2 := by omega
          · exact ⟨_, (blk_cell (i := 0) hq rfl).1⟩
          · exact ⟨_, (blk_cell (i := 1) hq rfl).1⟩
          · exact ⟨_, (blk_cell (i := 2) hq rfl).1⟩
        have lV : S3.heap.size < wr.heap.size := Nat.lt_of_lt_of_le (heap_lt HQV.out) HBE.out.size
        have e1 : (j : Int) < 3 := by omega
        have HCK := Lib.hid fun W (hW : Below S3.heap.size S3 W) => tcheck_any tl _ _ g r W (HC5.out W hW).1 HFT.out (HC5.out W hW).2.1 HM1.out.1 (by have := HM1.out.2; omega)
        have HRK := Lib.hid fun W (hW : Below S3.heap.size S3 W) => rcheck_any tl _ _ g r W (HC5.out W hW).1 HFT.out (HC5.out W hW).2.1 HM1.out.1 (by have := HM1.out.2; omega)
        unfold Tl.v at HCK HRK
        generalize checkT g tl.plain r = C at *
        go_upto_region 7 with fail
        go_region_held3 (fun w' => ((w'.cell? ⟨BG, 0, none⟩ = some (.slice a1 g.terms.length c1) ∧ w'.cell? ⟨BG, 1, none⟩ = some (.slice a2 g.nons.length c2) ∧ w'.cell? ⟨BG, 2, none⟩ = some (.slice a3 g.prods.length c3)) ∧ (w'.cell? ⟨B1, 0, none⟩ = some (.int .i64 tl.sym) ∧ w'.cell? ⟨B1, 1, none⟩ = some (.int .i64 tl.prod) ∧ w'.cell? ⟨B1, 2, none⟩ = some (.slice tl.a tl.kids.length tl.c)) ∧ (w'.cell? ⟨B2, 0, none⟩ = some (.int .i64 ul.sym) ∧ w'.cell? ⟨B2, 1, none⟩ = some (.int .i64 ul.prod) ∧ w'.cell? ⟨B2, 2, none⟩ = some (.slice ul.a ul.kids.length ul.c))) ∧ Hid (Below S3.heap.size S3 w'))
          (first | (exact HKX.out _ _ HBR (Below.refl _ _).drew) | (exact HKX.out _ _ (And.right (show _ ∧ Hid (Below S3.heap.size S3 _) by assumption)) (by assumption)) | go_keep)
          (first
            | (go_at_call 46; (with_reducible refine (HCK.out _ (And.right (show _ ∧ Hid (Below S3.heap.size S3 _) by assumption)).out).mono ?_); rintro e w14 ⟨rfl, hb14⟩)
            | (go_at_call 56; (with_reducible refine (HRK.out _ (And.right (show _ ∧ Hid (Below S3.heap.size S3 _) by assumption)).out).mono ?_); rintro e w15 ⟨rfl, hb15⟩))
        all_goals
          have HVE : Hid (Below V.heap.size V _) := Lib.hid (HBE.out.drew.trans ((hb14.trans (hb15.mono hb14.size)).mono HBE.out.size))
          go_wp2
          exact ⟨⟨j + 1, by omega, by go_num, HVE⟩, by simp [intOf]; omega⟩
      · have e1 : ¬ (j : Int) < 3 := by omega
        have hz1 := HM1.out.2
        have hz2 := HM2.out.2
        have HL1 := Lib.hid fun W (hW : Below S3.heap.size S3 W) => tleaves_any tl _ W (HC5.out W hW).2.1 (by omega)
        have HL2 := Lib.hid fun W (hW : Below S3.heap.size S3 W) => rleaves_any tl _ W (HC5.out W hW).2.1 (by omega)
        have hll := leaves_size tl.plain
        have HKS := Lib.hid fun (a b : Option Addr) (ca cb : Nat) (W : World) (h1 : Cells W a (nums (leavesT tl.plain))) (h2 : Cells W b (nums (leavesT tl.plain))) => (keepSame2_any a b ca cb (leavesT tl.plain) (leavesT tl.plain) W h1 h2 (by omega) (by omega)).mono fun e w' ⟨he, hw⟩ => (⟨he.trans (by rw [decide_eq_true rfl]), hw⟩ : e = Ending.returned (.bool true) ∧ ∃ n, w' = W.drewN n)
        have HS1 := Lib.hid fun W (hW : Below S3.heap.size S3 W) => tsize_any tl _ W (HC5.out W hW).2.1 (by omega)
        have HS2 := Lib.hid fun W (hW : Below S3.heap.size S3 W) => rsize_any tl _ W (HC5.out W hW).2.1 (by omega)
        have HA1 := Lib.hid fun W (hW : Below S3.heap.size S3 W) => tsame_any tl ul _ _ W (HC5.out W hW).2.1 (HC5.out W hW).2.2 (by omega) (by omega)
        have HA2 := Lib.hid fun W (hW : Below S3.heap.size S3 W) => rsame_any tl ul _ _ W (HC5.out W hW).2.1 (HC5.out W hW).2.2 (by omega) (by omega)
        have HA3 := Lib.hid fun W (hW : Below S3.heap.size S3 W) => tsame_any ul ul _ _ W (HC5.out W hW).2.2 (HC5.out W hW).2.2 (by omega) (by omega)
        rw [(same_iff ul.plain ul.plain).2 rfl] at HA3
        have HP1 := Lib.hid fun W (hW : Below S3.heap.size S3 W) => tprint_any tl _ _ g W (HC5.out W hW).1 HFT.out HSH.out (HC5.out W hW).2.1 HM1.out.1 (by omega)
        have HP2 := Lib.hid fun W (hW : Below S3.heap.size S3 W) => rprint_any tl _ _ g W (HC5.out W hW).1 HFT.out HSH.out (HC5.out W hW).2.1 HM1.out.1 (by omega)
        unfold Tl.v at HL1 HL2 HS1 HS2 HA1 HA2 HA3 HP1 HP2
        generalize sizeT tl.plain = sz at *
        generalize sameT tl.plain ul.plain = SB at *
        generalize (⟨(printT g tl.plain).toArray⟩ : ByteArray) = PB at *
        generalize leavesT tl.plain = LL at *
        clear hz2 hll
        go_upto_region 10 with fail
        go_region_held3 (fun w' => ((w'.cell? ⟨BG, 0, none⟩ = some (.slice a1 g.terms.length c1) ∧ w'.cell? ⟨BG, 1, none⟩ = some (.slice a2 g.nons.length c2) ∧ w'.cell? ⟨BG, 2, none⟩ = some (.slice a3 g.prods.length c3)) ∧ (w'.cell? ⟨B1, 0, none⟩ = some (.int .i64 tl.sym) ∧ w'.cell? ⟨B1, 1, none⟩ = some (.int .i64 tl.prod) ∧ w'.cell? ⟨B1, 2, none⟩ = some (.slice tl.a tl.kids.length tl.c)) ∧ (w'.cell? ⟨B2, 0, none⟩ = some (.int .i64 ul.sym) ∧ w'.cell? ⟨B2, 1, none⟩ = some (.int .i64 ul.prod) ∧ w'.cell? ⟨B2, 2, none⟩ = some (.slice ul.a ul.kids.length ul.c))) ∧ Hid (Below S3.heap.size S3 w'))
          (first | (exact HKX.out _ _ HBR (Below.refl _ _).drew) | (exact HKX.out _ _ (And.right (show _ ∧ Hid (Below S3.heap.size S3 _) by assumption)) (by assumption)) | go_keep)
          (first
            | (go_at_call 48; (with_reducible refine (HL1.out _ (And.right (show _ ∧ Hid (Below S3.heap.size S3 _) by assumption)).out).mono ?_); rintro e w14 ⟨hb14, la4, lc4, rfl, ho14⟩; have HO14 := Lib.hid (own_cells ho14).1; clear ho14)
            | (go_at_call 57; (with_reducible refine (HL2.out _ (And.right (show _ ∧ Hid (Below S3.heap.size S3 _) by assumption)).out).mono ?_); rintro e w15 ⟨hb15, la5, lc5, rfl, ho15⟩; have HO15 := Lib.hid (own_cells ho15).1; have HO145 := Lib.hid (HO14.out.below hb15); clear ho15)
            | (go_at_call 37; (with_reducible refine (HKS.out _ _ _ _ _ HO145.out HO15.out).mono ?_); rintro e w16 ⟨rfl, n16, hw16⟩; have hb16 := HKD.out _ _ _ (And.right (show _ ∧ Hid (Below S3.heap.size S3 _) by assumption)) hw16; clear hw16)
            | (go_at_call 49; (with_reducible refine (HS1.out _ (And.right (show _ ∧ Hid (Below S3.heap.size S3 _) by assumption)).out).mono ?_); rintro e w17 ⟨rfl, hb17⟩)
            | (go_at_call 58; (with_reducible refine (HS2.out _ (And.right (show _ ∧ Hid (Below S3.heap.size S3 _) by assumption)).out).mono ?_); rintro e w18 ⟨rfl, hb18⟩)
            | (go_at_call 50; (with_reducible refine (HA1.out _ (And.right (show _ ∧ Hid (Below S3.heap.size S3 _) by assumption)).out).mono ?_); rintro e w19 ⟨rfl, hb19⟩)
            | (go_at_call 59; (with_reducible refine (HA2.out _ (And.right (show _ ∧ Hid (Below S3.heap.size S3 _) by assumption)).out).mono ?_); rintro e w20 ⟨rfl, hb20⟩)
            | (go_at_call 50; (with_reducible refine (HA3.out _ (And.right (show _ ∧ Hid (Below S3.heap.size S3 _) by assumption)).out).mono ?_); rintro e w21 ⟨rfl, hb21⟩)
            | (go_at_call 47; (with_reducible refine (HP1.out _ (And.right (show _ ∧ Hid (Below S3.heap.size S3 _) by assumption)).out).mono ?_); rintro e w22 ⟨rfl, hb22⟩)
            | (go_at_call 60; (with_reducible refine (HP2.out _ (And.right (show _ ∧ Hid (Below S3.heap.size S3 _) by assumption)).out).mono ?_); rintro e w23 ⟨rfl, hb23⟩)
            | (go_at_call 51; refine (HWK.out _).mono ?_; rintro e w24 ⟨rfl, hb24⟩))
        all_goals
          go_wp2
          go_ret
          exact ⟨rfl, HBW.out.trans ((And.right (show _ ∧ Hid (Below S3.heap.size S3 _) by assumption)).out.mono HBW.out.size)⟩

end Go.Proofs.Ytjlohjkhnjemaaa
