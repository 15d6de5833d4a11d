/- TreeForms: walked. -/
import Derived.Test.YtjlohjkhnjemaaaTreeNP
import Derived.Test.YtjlohjkhnjemaaaTreeW
import Derived.Test.YtjlohjkhnjemaaaTreeD
import Derived.Test.YtjlohjkhnjemaaaTreeE
import Derived.Test.YtjlohjkhnjemaaaAppAll
import Derived.Test.YtjlohjkhnjemaaaTreeU
import Derived.Deep.RegionHeld3
set_option linter.unusedVariables false
namespace Go.Proofs.Ytjlohjkhnjemaaa
open Go.RowKit
open Doc

def tfG : Gr := ⟨[[97], [98], [99]], [[83], [65]], [(100, [101, 1, 100]), (100, [2]), (101, []), (101, [3])]⟩
def tfW : List UInt8 := [83, 58, 32, 65, 32, 97, 32, 83, 32, 124, 32, 98, 10, 65, 58, 32, 124, 32, 99, 10]
set_option maxHeartbeats 4000000 in
theorem tf_gram : parse tfW = .ok tfG := by kernel_rfl
theorem tf_fits : Fits tfG := by refine ⟨by decide, by decide, by decide, by decide⟩
def tfR : List (List UInt8 × List Int × Nat) := [([83], [100], 1), ([98], [2], 1), ([40, 83, 32, 98, 41], [2], 2), ([40, 83, 32, 65, 32, 97, 32, 83, 41], [101, 1, 100], 4), ([40, 83, 32, 40, 65, 41, 32, 97, 32, 40, 83, 32, 98, 41, 41], [1, 2], 5), ([40, 83, 32, 40, 65, 32, 99, 41, 32, 97, 32, 83, 41], [3, 1, 100], 5), ([40, 65, 41], [], 1), ([40, 83, 32, 40, 65, 41, 32, 97, 32, 40, 83, 32, 40, 65, 32, 99, 41, 32, 97, 32, 40, 83, 32, 98, 41, 41, 41], [1, 3, 1, 2], 9)]
def tfB : List (List UInt8) := [[], [40], [41], [40, 41], [40, 83, 41], [40, 83, 32, 97, 41], [40, 83, 32, 98, 32, 98, 41], [40, 83, 32, 32, 98, 41], [40, 32, 83, 32, 98, 41], [40, 83, 32, 98, 32, 41], [40, 83, 32, 98], [83, 32, 98], [40, 98, 41], [40, 65, 32, 98, 41], [40, 83, 32, 40, 65, 41, 32, 97, 32, 83, 41, 41], [120], [36], [40, 83, 32, 65, 32, 83, 32, 97, 41], [32, 83], [83, 32]]
def tfA (b : Nat) : List (Option Addr) := [(some ⟨b, 0, none⟩), (some ⟨b + 1, 0, none⟩), (some ⟨b + 1 + 1, 0, none⟩), (some ⟨b + 1 + 1 + 1, 0, none⟩), (some ⟨b + 1 + 1 + 1 + 1, 0, none⟩), (some ⟨b + 1 + 1 + 1 + 1 + 1, 0, none⟩), none, (some ⟨b + 1 + 1 + 1 + 1 + 1 + 1, 0, none⟩)]
def tfV (b : Nat) : List Value := [.string ⟨#[83]⟩, .slice (some ⟨b, 0, none⟩) 1 1, .int .i64 1, .string ⟨#[98]⟩, .slice (some ⟨b + 1, 0, none⟩) 1 1, .int .i64 1, .string ⟨#[40, 83, 32, 98, 41]⟩, .slice (some ⟨b + 1 + 1, 0, none⟩) 1 1, .int .i64 2, .string ⟨#[40, 83, 32, 65, 32, 97, 32, 83, 41]⟩, .slice (some ⟨b + 1 + 1 + 1, 0, none⟩) 3 3, .int .i64 4, .string ⟨#[40, 83, 32, 40, 65, 41, 32, 97, 32, 40, 83, 32, 98, 41, 41]⟩, .slice (some ⟨b + 1 + 1 + 1 + 1, 0, none⟩) 2 2, .int .i64 5, .string ⟨#[40, 83, 32, 40, 65, 32, 99, 41, 32, 97, 32, 83, 41]⟩, .slice (some ⟨b + 1 + 1 + 1 + 1 + 1, 0, none⟩) 3 3, .int .i64 5, .string ⟨#[40, 65, 41]⟩, .slice none 0 0, .int .i64 1, .string ⟨#[40, 83, 32, 40, 65, 41, 32, 97, 32, 40, 83, 32, 40, 65, 32, 99, 41, 32, 97, 32, 40, 83, 32, 98, 41, 41, 41]⟩, .slice (some ⟨b + 1 + 1 + 1 + 1 + 1 + 1, 0, none⟩) 4 4, .int .i64 9]
def tfO (b : Nat) : List Obj := [.cells #[.int .i64 100] 3, .cells #[.int .i64 2] 3, .cells #[.int .i64 2] 3, .cells #[.int .i64 101, .int .i64 1, .int .i64 100] 3, .cells #[.int .i64 1, .int .i64 2] 3, .cells #[.int .i64 3, .int .i64 1, .int .i64 100] 3, .cells #[.int .i64 1, .int .i64 3, .int .i64 1, .int .i64 2] 3, .cells (tfV b).toArray 75]
def tfOk (x : List UInt8 × List Int × Nat) : Bool := match readG tfG x.1 with
  | some t => decide (leavesT t = x.2.1) && decide (sizeT t = x.2.2)
  | none => false
theorem tf_all : ∀ x ∈ tfR, tfOk x = true := by decide +kernel
theorem tf_none : ∀ x ∈ tfB, (readG tfG x).isNone = true := by decide +kernel
theorem tf_ascR : ∀ x ∈ tfR, (x.1.all fun b => decide (b.toNat < 128)) = true ∧ x.1.length ≤ 100 ∧ x.2.2 ≤ 9 ∧ x.2.1.length ≤ 4 := by decide +kernel
theorem tf_ascB : ∀ x ∈ tfB, (x.all fun b => decide (b.toNat < 128)) = true ∧ x.length ≤ 100 := by decide +kernel
theorem asc_all {l : List UInt8} (h : (l.all fun b => decide (b.toNat < 128)) = true) : Asc ⟨l.toArray⟩ := fun j b hj => by
  have hm : b ∈ l := List.mem_of_getElem? hj
  exact of_decide_eq_true (List.all_eq_true.1 h b hm)
theorem tf_read {x : List UInt8 × List Int × Nat} (h : x ∈ tfR) : ∃ t, readG tfG x.1 = some t ∧ leavesT t = x.2.1 ∧ sizeT t = x.2.2 := by
  have := tf_all x h
  unfold tfOk at this
  split at this
  · rename_i t ht
    simp only [Bool.and_eq_true, decide_eq_true_eq] at this
    exact ⟨t, ht, this.1, this.2⟩
  · cases this
theorem check_shortF {g : Gr} (h : CheckG g) : ShortN g := ⟨fun x hx => by have := kind_len (x := x) (by rw [h.tk x hx]; decide); omega, fun x hx => by have := kind_len (x := x) (by rw [h.nk x hx]; decide); omega⟩
theorem tf_vals (b : Nat) : ∀ k s l z, tfR[k]? = some (s, l, z) → ∃ a, (tfA b)[k]? = some a ∧ (tfV b)[k * 3]? = some (.string ⟨s.toArray⟩) ∧ (tfV b)[k * 3 + 1]? = some (.slice a l.length l.length) ∧ (tfV b)[k * 3 + 2]? = some (.int .i64 z) := by
  intro k s l z h
  have hk : k < 8 := (List.getElem?_eq_some_iff.1 h).1
  obtain rfl | rfl | rfl | rfl | rfl | rfl | rfl | rfl : k = 0 ∨ k = 1 ∨ k = 2 ∨ k = 3 ∨ k = 4 ∨ k = 5 ∨ k = 6 ∨ k = 7 := by omega
  all_goals (cases h; exact ⟨_, rfl, rfl, rfl, rfl⟩)
theorem allocs_below : ∀ (os : List Obj) (w : World), Below w.heap.size w (os.foldl World.alloc w)
  | [], w => Below.refl _ _
  | o :: os, w => by
    have h := allocs_below os (w.alloc o)
    exact (box_belowT w o).trans (h.mono (box_belowT w o).size)
theorem allocs_at : ∀ (os : List Obj) (w : World) (k : Nat) (o : Obj), os[k]? = some o → (os.foldl World.alloc w).heap[w.heap.size + k]? = some o
  | [], w, k, o, h => by simp at h
  | x :: os, w, 0, o, h => by
    simp at h
    subst h
    have hb := allocs_below os (w.alloc x)
    exact (hb.block _ (by simp)).trans (heap_alloc_new w x)
  | x :: os, w, k + 1, o, h => by
    have := allocs_at os (w.alloc x) k o (by simpa using h)
    rw [show (w.alloc x).heap.size + k = w.heap.size + (k + 1) by simp; omega] at this
    exact this
theorem cells_blk {w : World} {b : Nat} {cs : Array Value} {t : TypeId} (h : w.heap[b]? = some (.cells cs t)) : Cells w (some ⟨b, 0, none⟩) cs.toList :=
  .inr ⟨b, 0, rfl, heap_lt h, fun j u hj => by rw [Nat.zero_add]; exact (blk_cell h (by simpa using hj)).1⟩
/-- What the literal of rows holds. -/
theorem tf_lit (S : World) : Below S.heap.size S ((tfO S.heap.size).foldl World.alloc S) ∧ Cells ((tfO S.heap.size).foldl World.alloc S) (some ⟨S.heap.size + 1 + 1 + 1 + 1 + 1 + 1 + 1, 0, none⟩) (tfV S.heap.size) ∧ (∀ (k : Nat) (s : List UInt8) (l : List Int) (z : Nat) (a : Option Addr), tfR[k]? = some (s, l, z) → (tfA S.heap.size)[k]? = some a → Cells ((tfO S.heap.size).foldl World.alloc S) a (nums l)) := by
  refine ⟨allocs_below _ _, ?_, ?_⟩
  · have := cells_blk (allocs_at (tfO S.heap.size) S 7 _ rfl)
    simpa using this
  · intro k s l z a h ha
    have hk : k < 8 := (List.getElem?_eq_some_iff.1 h).1
    obtain rfl | rfl | rfl | rfl | rfl | rfl | rfl | rfl : k = 0 ∨ k = 1 ∨ k = 2 ∨ k = 3 ∨ k = 4 ∨ k = 5 ∨ k = 6 ∨ k = 7 := by omega
    · cases h; cases ha; exact cells_blk (allocs_at (tfO S.heap.size) S 0 _ rfl)
    · cases h; cases ha; exact cells_blk (allocs_at (tfO S.heap.size) S 1 _ rfl)
    · cases h; cases ha; exact cells_blk (allocs_at (tfO S.heap.size) S 2 _ rfl)
    · cases h; cases ha; exact cells_blk (allocs_at (tfO S.heap.size) S 3 _ rfl)
    · cases h; cases ha; exact cells_blk (allocs_at (tfO S.heap.size) S 4 _ rfl)
    · cases h; cases ha; exact cells_blk (allocs_at (tfO S.heap.size) S 5 _ rfl)
    · cases h; cases ha; exact (.inl rfl)
    · cases h; cases ha; exact cells_blk (allocs_at (tfO S.heap.size) S 6 _ rfl)

set_option maxRecDepth 100000 in
set_option maxHeartbeats 4000000 in
theorem treeForms_walk (n : Int) (w : World) : Calls Try.prog 6 #[.int .i64 n] w fun e w' => e = .returned (.bool true) ∧ Below w.heap.size w w' := by
  have HGO := Lib.hid (rparse_ok ⟨tfW.toArray⟩ tfG w (by decide) tf_gram)
  have HWK := Lib.hid fun W => wakes8_any W
  unfold tfW at HGO
  go_enter Try.func6, Try.ntmps6
  go_upto_region 2 with (go_at_call 44; refine HGO.out.mono ?_; rintro e w1 ⟨v, rfl, hb1, hg1⟩; obtain ⟨a1, a2, a3, c1, c2, c3, rfl⟩ := gram_form3 hg1.at_)
  obtain ⟨hbG, -, qG⟩ := one_alloc w1 (.cells #[.slice a1 tfG.terms.length c1, .slice a2 tfG.nons.length c2, .slice a3 tfG.prods.length c3] 28)
  have HG := Lib.hid (hg1.at_.below hbG)
  have HB := Lib.hid (hb1.trans (hbG.mono hb1.size))
  have HQ := Lib.hid qG
  clear hb1 hg1 hbG qG HGO
  generalize w1.alloc (.cells #[.slice a1 tfG.terms.length c1, .slice a2 tfG.nons.length c2, .slice a3 tfG.prods.length c3] 28) = S at *
  generalize w1.heap.size = BG at *
  go_wp2_with fail
  have HLIT := Lib.hid (tf_lit S)
  have hW : ((((((((S.alloc (.cells #[.int .i64 100] 3)).alloc (.cells #[.int .i64 2] 3)).alloc (.cells #[.int .i64 2] 3)).alloc (.cells #[.int .i64 101, .int .i64 1, .int .i64 100] 3)).alloc (.cells #[.int .i64 1, .int .i64 2] 3)).alloc (.cells #[.int .i64 3, .int .i64 1, .int .i64 100] 3)).alloc (.cells #[.int .i64 1, .int .i64 3, .int .i64 1, .int .i64 2] 3)).alloc (.cells #[.string ⟨#[83]⟩, .slice (some ⟨S.heap.size, 0, none⟩) 1 1, .int .i64 1, .string ⟨#[98]⟩, .slice (some ⟨S.heap.size + 1, 0, none⟩) 1 1, .int .i64 1, .string ⟨#[40, 83, 32, 98, 41]⟩, .slice (some ⟨S.heap.size + 1 + 1, 0, none⟩) 1 1, .int .i64 2, .string ⟨#[40, 83, 32, 65, 32, 97, 32, 83, 41]⟩, .slice (some ⟨S.heap.size + 1 + 1 + 1, 0, none⟩) 3 3, .int .i64 4, .string ⟨#[40, 83, 32, 40, 65, 41, 32, 97, 32, 40, 83, 32, 98, 41, 41]⟩, .slice (some ⟨S.heap.size + 1 + 1 + 1 + 1, 0, none⟩) 2 2, .int .i64 5, .string ⟨#[40, 83, 32, 40, 65, 32, 99, 41, 32, 97, 32, 83, 41]⟩, .slice (some ⟨S.heap.size + 1 + 1 + 1 + 1 + 1, 0, none⟩) 3 3, .int .i64 5, .string ⟨#[40, 65, 41]⟩, .slice none 0 0, .int .i64 1, .string ⟨#[40, 83, 32, 40, 65, 41, 32, 97, 32, 40, 83, 32, 40, 65, 32, 99, 41, 32, 97, 32, 40, 83, 32, 98, 41, 41, 41]⟩, .slice (some ⟨S.heap.size + 1 + 1 + 1 + 1 + 1 + 1, 0, none⟩) 4 4, .int .i64 9] 75)) = (tfO S.heap.size).foldl World.alloc S := rfl
  rw [hW]
  clear hW
  generalize (tfO S.heap.size).foldl World.alloc S = W0 at *
  generalize (some ⟨S.heap.size + 1 + 1 + 1 + 1 + 1 + 1 + 1, 0, none⟩ : Option Addr) = ad at *
  have HB0 := Lib.hid HLIT.out.1
  have HCV := Lib.hid HLIT.out.2.1
  have HCL := Lib.hid HLIT.out.2.2
  clear HLIT
  go_loopw [40] (fun i wr => ∃ k : Nat, k ≤ 8 ∧ i = .int .i64 k ∧ Hid (Below W0.heap.size W0 wr)) (fun i _ => 8 - (intOf i).toNat)
  case atStart => exact ⟨0, Nat.zero_le _, rfl, Lib.hid (Below.refl _ _)⟩
  case round =>
    obtain ⟨k, hk, rfl, HBE⟩ := hrel
    by_cases hlt : k < 8
    · obtain ⟨⟨s, l, z⟩, hx⟩ : ∃ x, tfR[k]? = some x := ⟨_, List.getElem?_eq_getElem hlt⟩
      obtain ⟨al, hal, v0, v1, v2⟩ := tf_vals S.heap.size _ _ _ _ hx
      obtain ⟨bk, off, rfl, hb, hc⟩ := (HCV.out.below HBE.out).get (by intro e; rw [e] at v0; simp at v0)
      have x0 := hc _ _ v0
      have x1 := hc _ _ v1
      have x2 := hc _ _ v2
      rw [← Nat.add_assoc] at x1 x2
      have hmem := List.mem_of_getElem? hx
      obtain ⟨t, hrd, hlv, hsz⟩ := tf_read hmem
      obtain ⟨hasc, hl100, hz9, hl4⟩ := tf_ascR _ hmem
      simp only at hrd hlv hsz hasc hl100 hz9 hl4
      have hok := readG_ok (parse_check tf_gram) hrd
      have HCLL := Lib.hid ((HCL.out k s l z al hx hal).below HBE.out)
      have HX := Lib.hid (And.intro hrd (And.intro hlv (And.intro hsz (And.intro hasc hok))))
      have HBW := Lib.hid (HB.out.trans ((HB0.out.trans (HBE.out.mono HB0.out.size)).mono HB.out.size))
      have HBS := Lib.hid (HB0.out.trans (HBE.out.mono HB0.out.size))
      obtain ⟨hbA, -, qA⟩ := one_alloc wr (.cells #[.string ⟨s.toArray⟩, .slice al l.length l.length, .int .i64 z] 75)
      have HBA := Lib.hid (HBS.out.trans (hbA.mono HBS.out.size))
      have HQA := Lib.hid qA
      have HCA := Lib.hid (HCLL.out.below hbA)
      have HPA := Lib.hid (tparse_ok _ tfG ⟨s.toArray⟩ t _ (HG.out.below HBA.out) tf_fits (asc_all hasc) (by show s.length ≤ 90000; omega) hrd)
      have HBEA := Lib.hid (HBE.out.trans (hbA.mono HBE.out.size))
      have qG := (HBS.out.block _ (heap_lt HQ.out)).trans HQ.out
      have g0 := (blk_cell (i := 0) ((HBA.out.block _ (heap_lt HQ.out)).trans HQ.out) rfl).1
      have g1 := (blk_cell (i := 1) ((HBA.out.block _ (heap_lt HQ.out)).trans HQ.out) rfl).1
      have g2 := (blk_cell (i := 2) ((HBA.out.block _ (heap_lt HQ.out)).trans HQ.out) rfl).1
      have lG := heap_lt ((HBA.out.block _ (heap_lt HQ.out)).trans HQ.out)
      have e1 : (k : Int) < 8 := by omega
      clear hx hal v0 v1 v2 hc hmem hrd hlv hsz hasc hok hbA qA qG
      generalize hsb : (⟨s.toArray⟩ : ByteArray) = sb at *
      have HSB := Lib.hid hsb
      clear hsb
      go_upto_region 7 with fail
      clear x0 x1 x2 hb
      obtain ⟨x0, _⟩ := blk_cell (i := 0) HQA.out rfl
      obtain ⟨x1, _⟩ := blk_cell (i := 1) HQA.out rfl
      obtain ⟨x2, _⟩ := blk_cell (i := 2) HQA.out rfl
      have lX := heap_lt HQA.out
      generalize wr.alloc (.cells #[.string sb, .slice al l.length l.length, .int .i64 z] 75) = V at *
      generalize wr.heap.size = KX at *
      go_upto_region 8 with (go_at_call 45; (with_reducible refine HPA.out.mono ?_); rintro e w2 ⟨hb2, tl, hpl, rfl, hli⟩)
      obtain ⟨hbT, -, qT⟩ := one_alloc w2 (.cells #[.int .i64 tl.sym, .int .i64 tl.prod, .slice tl.a tl.kids.length tl.c] 79)
      have HB9 := Lib.hid (hb2.trans (hbT.mono hb2.size))
      have HQT := Lib.hid qT
      have HL2 := Lib.hid (hli.under hbT)
      have HPL := Lib.hid hpl
      clear hb2 hbT qT hli hpl g0 g1 g2 lG x0 x1 x2 lX HPA
      generalize w2.alloc (.cells #[.int .i64 tl.sym, .int .i64 tl.prod, .slice tl.a tl.kids.length tl.c] 79) = S9 at *
      generalize w2.heap.size = T at *
      obtain ⟨hrd, hlv, hsz, hasc, hck, htx⟩ := HX.out
      rw [← HPL.out] at hlv hsz hck htx
      have htiny := check_tinyT (parse_check tf_gram) _ _ hck
      have hsy : tl.plain.sym = tl.sym := tl.plain_sym
      rw [hsy] at hck
      have hz10 : sizeT tl.plain ≤ 9 := by omega
      have HG9 := Lib.hid (HG.out.below (HBA.out.trans (HB9.out.mono HBA.out.size)))
      have HC1 := Lib.hid fun W (hW : Below S9.heap.size S9 W) => tcheck_any tl _ _ tfG tl.sym W (HG9.out.below hW) tf_fits (HL2.out.under hW) (tiny_mild _ htiny) (by omega)
      rw [hck] at HC1
      have HC2 := Lib.hid fun W (hW : Below S9.heap.size S9 W) => tprint_any tl _ _ tfG W (HG9.out.below hW) tf_fits (check_shortF (parse_check tf_gram)) (HL2.out.under hW) (tiny_mild _ htiny) (by omega)
      have hpr : printT tfG tl.plain = s := by unfold printT; rw [hsy, hck, if_pos rfl, htx]
      rw [hpr, HSB.out] at HC2
      have HC3 := Lib.hid fun W (hW : Below S9.heap.size S9 W) => tleaves_any tl _ W (HL2.out.under hW) (by omega)
      rw [hlv] at HC3
      have HC4 := Lib.hid fun (a : Option Addr) (ca : Nat) (W : World) (h1 : Cells W a (nums l)) (hW : Below S9.heap.size S9 W) => (keepSame2_any a al ca l.length l l W h1 ((HCA.out.below HB9.out).below hW) (by omega) (by omega)).mono fun e w' ⟨he, hw⟩ => (⟨he.trans (by rw [decide_eq_true rfl]), hw⟩ : e = Ending.returned (.bool true) ∧ ∃ n, w' = W.drewN n)
      have HC5 := Lib.hid fun W (hW : Below S9.heap.size S9 W) => tsize_any tl _ W (HL2.out.under hW) (by omega)
      rw [hsz] at HC5
      unfold Tl.v at HC1 HC2 HC3 HC5
      have HCX : Hid (∀ W, Below S9.heap.size S9 W → ((W.cell? ⟨BG, 0, none⟩ = some (.slice a1 tfG.terms.length c1) ∧ W.cell? ⟨BG, 1, none⟩ = some (.slice a2 tfG.nons.length c2) ∧ W.cell? ⟨BG, 2, none⟩ = some (.slice a3 tfG.prods.length c3)) ∧ (W.cell? ⟨KX, 0, none⟩ = some (.string sb) ∧ W.cell? ⟨KX, 1, none⟩ = some (.slice al l.length l.length) ∧ W.cell? ⟨KX, 2, none⟩ = some (.int .i64 z)) ∧ (W.cell? ⟨T, 0, none⟩ = some (.int .i64 tl.sym) ∧ W.cell? ⟨T, 1, none⟩ = some (.int .i64 tl.prod) ∧ W.cell? ⟨T, 2, none⟩ = some (.slice tl.a tl.kids.length tl.c))) ∧ Hid (Below S9.heap.size S9 W)) := Lib.hid fun W hW => by
        have h1 := HB9.out.trans (hW.mono HB9.out.size)
        have z0 := ((HBA.out.trans (h1.mono HBA.out.size)).block _ (heap_lt HQ.out)).trans HQ.out
        have z1 := (h1.block _ (heap_lt HQA.out)).trans HQA.out
        have z2 := (hW.block _ (heap_lt HQT.out)).trans HQT.out
        exact ⟨⟨⟨(blk_cell z0 rfl).1, (blk_cell z0 rfl).1, (blk_cell z0 rfl).1⟩, ⟨(blk_cell z1 rfl).1, (blk_cell z1 rfl).1, (blk_cell z1 rfl).1⟩, ⟨(blk_cell z2 rfl).1, (blk_cell z2 rfl).1, (blk_cell z2 rfl).1⟩⟩, Lib.hid hW⟩
      have HKX : Hid (∀ W W', Hid (Below S9.heap.size S9 W) → Below W.heap.size W W' → ((W'.cell? ⟨BG, 0, none⟩ = some (.slice a1 tfG.terms.length c1) ∧ W'.cell? ⟨BG, 1, none⟩ = some (.slice a2 tfG.nons.length c2) ∧ W'.cell? ⟨BG, 2, none⟩ = some (.slice a3 tfG.prods.length c3)) ∧ (W'.cell? ⟨KX, 0, none⟩ = some (.string sb) ∧ W'.cell? ⟨KX, 1, none⟩ = some (.slice al l.length l.length) ∧ W'.cell? ⟨KX, 2, none⟩ = some (.int .i64 z)) ∧ (W'.cell? ⟨T, 0, none⟩ = some (.int .i64 tl.sym) ∧ W'.cell? ⟨T, 1, none⟩ = some (.int .i64 tl.prod) ∧ W'.cell? ⟨T, 2, none⟩ = some (.slice tl.a tl.kids.length tl.c))) ∧ Hid (Below S9.heap.size S9 W')) := Lib.hid fun W W' h k => HCX.out W' (h.out.trans (k.mono h.out.size))
      have HKD : Hid (∀ W W' n, Hid (Below S9.heap.size S9 W) → W' = W.drewN n → Below W.heap.size W W') := Lib.hid fun W W' n h e => by subst e; exact below_drews (Below.refl _ _) _
      have hB00 := Lib.hid (Below.refl S9.heap.size S9)
      obtain ⟨⟨⟨g0, g1, g2⟩, ⟨x0, x1, x2⟩, ⟨t0, t1, t2⟩⟩, _⟩ := HCX.out S9 hB00.out
      have lG : BG < S9.heap.size := Nat.lt_of_lt_of_le (Nat.lt_of_lt_of_le (heap_lt HQ.out) HBA.out.size) HB9.out.size
      have lX : KX < S9.heap.size := Nat.lt_of_lt_of_le (heap_lt HQA.out) HB9.out.size
      have lT := heap_lt HQT.out
      have HEND := Lib.hid (HBEA.out.trans (HB9.out.mono HBEA.out.size))
      clear hrd hlv hsz hasc hck htx htiny hsy hz10 hpr HX
      go_region_held3 (fun w' => ((w'.cell? ⟨BG, 0, none⟩ = some (.slice a1 tfG.terms.length c1) ∧ w'.cell? ⟨BG, 1, none⟩ = some (.slice a2 tfG.nons.length c2) ∧ w'.cell? ⟨BG, 2, none⟩ = some (.slice a3 tfG.prods.length c3)) ∧ (w'.cell? ⟨KX, 0, none⟩ = some (.string sb) ∧ w'.cell? ⟨KX, 1, none⟩ = some (.slice al l.length l.length) ∧ w'.cell? ⟨KX, 2, none⟩ = some (.int .i64 z)) ∧ (w'.cell? ⟨T, 0, none⟩ = some (.int .i64 tl.sym) ∧ w'.cell? ⟨T, 1, none⟩ = some (.int .i64 tl.prod) ∧ w'.cell? ⟨T, 2, none⟩ = some (.slice tl.a tl.kids.length tl.c))) ∧ Hid (Below S9.heap.size S9 w'))
        (first | (exact HKX.out _ _ hB00 (Below.refl _ _).drew) | (exact HKX.out _ _ (And.right (show _ ∧ Hid (Below S9.heap.size S9 _) by assumption)) (by assumption)) | go_keep)
        (first
          | (go_at_call 46; (with_reducible refine (HC1.out _ (And.right (show _ ∧ Hid (Below S9.heap.size S9 _) by assumption)).out).mono ?_); rintro e w14 ⟨rfl, hb14⟩)
          | (go_at_call 47; (with_reducible refine (HC2.out _ (And.right (show _ ∧ Hid (Below S9.heap.size S9 _) by assumption)).out).mono ?_); rintro e w13 ⟨rfl, hb13⟩)
          | (go_at_call 48; (with_reducible refine (HC3.out _ (And.right (show _ ∧ Hid (Below S9.heap.size S9 _) by assumption)).out).mono ?_); rintro e w15 ⟨hb15, la5, lc5, rfl, ho15⟩; have HO15 := Lib.hid (own_cells ho15).1; clear ho15)
          | (go_at_call 37; (with_reducible refine (HC4.out _ _ _ HO15.out (And.right (show _ ∧ Hid (Below S9.heap.size S9 _) by assumption)).out).mono ?_); rintro e w16 ⟨rfl, n16, hw16⟩; have hb16 := HKD.out _ _ _ (And.right (show _ ∧ Hid (Below S9.heap.size S9 _) by assumption)) hw16; clear hw16)
          | (go_at_call 49; (with_reducible refine (HC5.out _ (And.right (show _ ∧ Hid (Below S9.heap.size S9 _) by assumption)).out).mono ?_); rintro e w17 ⟨rfl, hb17⟩))
      all_goals
        have HFIN := (And.right (show _ ∧ Hid (Below S9.heap.size S9 _) by assumption))
        go_wp2
        exact ⟨⟨k + 1, by omega, by go_num, Lib.hid (HEND.out.trans (HFIN.out.mono HEND.out.size))⟩, by simp [intOf]; omega⟩
    · have e1 : ¬ (k : Int) < 8 := by omega
      obtain ⟨m, hm, hml⟩ : ∃ m : Nat, n % 20 = m ∧ m < 20 := ⟨(n % 20).toNat, by omega, by omega⟩
      have HWI := Lib.hid fun W => (within_any n 20 (by omega) (by omega) W).mono fun e w' ⟨he, hw⟩ => (⟨he.trans (by rw [hm]), hw⟩ : e = Ending.returned (.int .i64 m) ∧ w' = W)
      obtain ⟨x, hx⟩ : ∃ x, tfB[m]? = some x := ⟨_, List.getElem?_eq_getElem (show m < tfB.length from hml)⟩
      have hmem := List.mem_of_getElem? hx
      have hno := tf_none x hmem
      obtain ⟨hasc, hl100⟩ := tf_ascB x hmem
      have HBS := Lib.hid (HB0.out.trans (HBE.out.mono HB0.out.size))
      have hbV := box_belowT wr (.cells #[.string ⟨#[]⟩, .string ⟨#[40]⟩, .string ⟨#[41]⟩, .string ⟨#[40, 41]⟩, .string ⟨#[40, 83, 41]⟩, .string ⟨#[40, 83, 32, 97, 41]⟩, .string ⟨#[40, 83, 32, 98, 32, 98, 41]⟩, .string ⟨#[40, 83, 32, 32, 98, 41]⟩, .string ⟨#[40, 32, 83, 32, 98, 41]⟩, .string ⟨#[40, 83, 32, 98, 32, 41]⟩, .string ⟨#[40, 83, 32, 98]⟩, .string ⟨#[83, 32, 98]⟩, .string ⟨#[40, 98, 41]⟩, .string ⟨#[40, 65, 32, 98, 41]⟩, .string ⟨#[40, 83, 32, 40, 65, 41, 32, 97, 32, 83, 41, 41]⟩, .string ⟨#[120]⟩, .string ⟨#[36]⟩, .string ⟨#[40, 83, 32, 65, 32, 83, 32, 97, 41]⟩, .string ⟨#[32, 83]⟩, .string ⟨#[83, 32]⟩] 9)
      have HCB : Hid ((wr.alloc (.cells #[.string ⟨#[]⟩, .string ⟨#[40]⟩, .string ⟨#[41]⟩, .string ⟨#[40, 41]⟩, .string ⟨#[40, 83, 41]⟩, .string ⟨#[40, 83, 32, 97, 41]⟩, .string ⟨#[40, 83, 32, 98, 32, 98, 41]⟩, .string ⟨#[40, 83, 32, 32, 98, 41]⟩, .string ⟨#[40, 32, 83, 32, 98, 41]⟩, .string ⟨#[40, 83, 32, 98, 32, 41]⟩, .string ⟨#[40, 83, 32, 98]⟩, .string ⟨#[83, 32, 98]⟩, .string ⟨#[40, 98, 41]⟩, .string ⟨#[40, 65, 32, 98, 41]⟩, .string ⟨#[40, 83, 32, 40, 65, 41, 32, 97, 32, 83, 41, 41]⟩, .string ⟨#[120]⟩, .string ⟨#[36]⟩, .string ⟨#[40, 83, 32, 65, 32, 83, 32, 97, 41]⟩, .string ⟨#[32, 83]⟩, .string ⟨#[83, 32]⟩] 9)).cell? ⟨wr.heap.size, m, none⟩ = some (.string ⟨x.toArray⟩)) := Lib.hid (by
        have h := (blk_cell (i := m) (u := .string ⟨x.toArray⟩) (heap_alloc_new wr (.cells #[.string ⟨#[]⟩, .string ⟨#[40]⟩, .string ⟨#[41]⟩, .string ⟨#[40, 41]⟩, .string ⟨#[40, 83, 41]⟩, .string ⟨#[40, 83, 32, 97, 41]⟩, .string ⟨#[40, 83, 32, 98, 32, 98, 41]⟩, .string ⟨#[40, 83, 32, 32, 98, 41]⟩, .string ⟨#[40, 32, 83, 32, 98, 41]⟩, .string ⟨#[40, 83, 32, 98, 32, 41]⟩, .string ⟨#[40, 83, 32, 98]⟩, .string ⟨#[83, 32, 98]⟩, .string ⟨#[40, 98, 41]⟩, .string ⟨#[40, 65, 32, 98, 41]⟩, .string ⟨#[40, 83, 32, 40, 65, 41, 32, 97, 32, 83, 41, 41]⟩, .string ⟨#[120]⟩, .string ⟨#[36]⟩, .string ⟨#[40, 83, 32, 65, 32, 83, 32, 97, 41]⟩, .string ⟨#[32, 83]⟩, .string ⟨#[83, 32]⟩] 9)) (by
          have h2 : (tfB.map fun y => (Value.string ⟨y.toArray⟩))[m]? = some (.string ⟨x.toArray⟩) := by rw [List.getElem?_map, hx]; rfl
          rw [← h2]
          show ((tfB.map fun y => (Value.string ⟨y.toArray⟩)).toArray)[m]? = _
          rw [List.getElem?_toArray])).1
        exact h)
      have HSV := Lib.hid (HBS.out.trans (hbV.mono HBS.out.size))
      have HNO := Lib.hid (tparse_no _ tfG ⟨x.toArray⟩ _ (HG.out.below HSV.out) tf_fits (asc_all hasc) (by show x.length ≤ 90000; omega) (by simpa using hno))
      have lV : wr.heap.size < (wr.alloc (.cells #[.string ⟨#[]⟩, .string ⟨#[40]⟩, .string ⟨#[41]⟩, .string ⟨#[40, 41]⟩, .string ⟨#[40, 83, 41]⟩, .string ⟨#[40, 83, 32, 97, 41]⟩, .string ⟨#[40, 83, 32, 98, 32, 98, 41]⟩, .string ⟨#[40, 83, 32, 32, 98, 41]⟩, .string ⟨#[40, 32, 83, 32, 98, 41]⟩, .string ⟨#[40, 83, 32, 98, 32, 41]⟩, .string ⟨#[40, 83, 32, 98]⟩, .string ⟨#[83, 32, 98]⟩, .string ⟨#[40, 98, 41]⟩, .string ⟨#[40, 65, 32, 98, 41]⟩, .string ⟨#[40, 83, 32, 40, 65, 41, 32, 97, 32, 83, 41, 41]⟩, .string ⟨#[120]⟩, .string ⟨#[36]⟩, .string ⟨#[40, 83, 32, 65, 32, 83, 32, 97, 41]⟩, .string ⟨#[32, 83]⟩, .string ⟨#[83, 32]⟩] 9)).heap.size := by simp
      have em0 : (m : Int) < 20 := by omega
      clear hm hx hmem hno hasc hl100 hbV
      generalize (⟨x.toArray⟩ : ByteArray) = sb at *
      go_upto_region 12 with fail
      generalize wr.alloc (.cells #[.string ⟨#[]⟩, .string ⟨#[40]⟩, .string ⟨#[41]⟩, .string ⟨#[40, 41]⟩, .string ⟨#[40, 83, 41]⟩, .string ⟨#[40, 83, 32, 97, 41]⟩, .string ⟨#[40, 83, 32, 98, 32, 98, 41]⟩, .string ⟨#[40, 83, 32, 32, 98, 41]⟩, .string ⟨#[40, 32, 83, 32, 98, 41]⟩, .string ⟨#[40, 83, 32, 98, 32, 41]⟩, .string ⟨#[40, 83, 32, 98]⟩, .string ⟨#[83, 32, 98]⟩, .string ⟨#[40, 98, 41]⟩, .string ⟨#[40, 65, 32, 98, 41]⟩, .string ⟨#[40, 83, 32, 40, 65, 41, 32, 97, 32, 83, 41, 41]⟩, .string ⟨#[120]⟩, .string ⟨#[36]⟩, .string ⟨#[40, 83, 32, 65, 32, 83, 32, 97, 41]⟩, .string ⟨#[32, 83]⟩, .string ⟨#[83, 32]⟩] 9) = V at *
      generalize wr.heap.size = KV at *
      have x0 := HCB.out
      have g0 := (blk_cell (i := 0) ((HSV.out.block _ (heap_lt HQ.out)).trans HQ.out) rfl).1
      have g1 := (blk_cell (i := 1) ((HSV.out.block _ (heap_lt HQ.out)).trans HQ.out) rfl).1
      have g2 := (blk_cell (i := 2) ((HSV.out.block _ (heap_lt HQ.out)).trans HQ.out) rfl).1
      have lG := heap_lt ((HSV.out.block _ (heap_lt HQ.out)).trans HQ.out)
      have HSM := Lib.hid fun W => tsame_any (.mk 0 0 none 0 []) (.mk 0 0 none 0 []) (fun _ => True) (fun _ => True) W (Lies.leaf _ _ _ _ _ _) (Lies.leaf _ _ _ _ _ _) (by decide) (by decide)
      rw [show sameT (Tl.mk 0 0 none 0 []).plain (Tl.mk 0 0 none 0 []).plain = true by decide +kernel] at HSM
      unfold Tl.v at HSM
      simp only [Tl.sym, Tl.prod, Tl.a, Tl.c, Tl.kids, List.length_nil] at HSM
      have HZA : Hid (∀ (W : World), (W.alloc (.cells #[.int .i64 0, .int .i64 0, .slice none 0 0] 79)).heap.size = W.heap.size + 1) := Lib.hid fun W => by simp
      go_wp2_with (first
        | (go_at_call 19; (with_reducible refine (HWI.out _).mono ?_); rintro e w5 ⟨rfl, hw5⟩; rw [hw5]; clear hw5)
        | (go_at_call 45; (with_reducible refine HNO.out.mono ?_); rintro e w6 ⟨rfl, hb6⟩)
        | (go_at_call 50; (with_reducible refine (HSM.out _).mono ?_); rintro e w7 ⟨rfl, hb7⟩)
        | (go_at_call 51; refine (HWK.out _).mono ?_; rintro e w8 ⟨rfl, hb8⟩))
      go_ret
      have h1 := HB.out.trans (HSV.out.mono HB.out.size)
      have h2 := h1.trans (hb6.mono h1.size)
      have h3 := h2.alloc h2.size (.cells #[.int .i64 0, .int .i64 0, .slice none 0 0] 79)
      have h4 := h3.trans (hb7.mono h3.size)
      exact ⟨rfl, h4.trans (hb8.mono h4.size)⟩

end Go.Proofs.Ytjlohjkhnjemaaa
