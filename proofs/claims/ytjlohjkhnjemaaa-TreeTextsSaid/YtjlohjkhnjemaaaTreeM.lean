/- Trees: a spoilt one, the law's own Of whatever is spoilt, where a production stands in the kids, raw grammars of which nothing is spoilt. -/
import Derived.Test.YtjlohjkhnjemaaaTreeY
import Derived.Test.YtjlohjkhnjemaaaTreeO
import Derived.Test.YtjlohjkhnjemaaaTreeS
import Derived.Test.YtjlohjkhnjemaaaTreeW
import Derived.Test.YtjlohjkhnjemaaaPlayG0
import Derived.Deep.RegionHeld3
set_option linter.unusedVariables false
namespace Go.Proofs.Ytjlohjkhnjemaaa
open Go.RowKit
open Doc

/-! ## TreeZ -/

theorem mild_of {t : Tr} (h : tinyT t) : mildI t.sym ∧ mildI t.prod ∧ mildK t.kids := by
  obtain ⟨s, p, ks⟩ := t
  rw [tinyT] at h
  unfold tinyI at h
  exact ⟨by unfold mildI; simp only [Tr.sym]; omega, by unfold mildI; simp only [Tr.prod]; omega, mildK_mk fun k hk => tiny_mild k (tinyK_iff.1 h.2.2 k hk)⟩
theorem mildK_sub {ks l : List Tl} (h : mildK (ks.map Tl.plain)) (hs : ∀ k ∈ l, k ∈ ks) : mildK (l.map Tl.plain) := mildK_mk fun k hk => by
  obtain ⟨t, ht, rfl⟩ := List.mem_map.1 hk
  exact mildK_mem h _ (List.mem_map_of_mem (hs t ht))

set_option maxRecDepth 100000 in
set_option maxHeartbeats 8000000 in
/-- No kid is spoilt: one thing of the tree itself. -/
theorem spoilt_here (s p : Int) (a : Option Addr) (c : Nat) (ks : List Tl) (P : Nat → Prop) (how at_ : Int) (w : World) (hl : Lies P w (.mk s p a c ks)) (hti : tinyT (Tl.mk s p a c ks).plain) (hsz : sizeT (Tl.mk s p a c ks).plain ≤ 9331) (hh : ks = [] ∨ at_ % 3 = 0) :
    Calls Try.prog 105 #[.agg #[.int .i64 s, .int .i64 p, .slice a ks.length c], .int .i64 how, .int .i64 at_] w (SpEnd P (sizeT (Tl.mk s p a c ks).plain) w) := by
  obtain ⟨hbS, hsS, q0, q1⟩ := twin_alloc w (.cells #[.int .i64 s, .int .i64 p, .slice a ks.length c] 79) (.cells #[.int .i64 0, .int .i64 0, .slice none 0 0] 79)
  obtain ⟨m8, hm8, hl8⟩ : ∃ m : Int, how % 8 = m ∧ (m = 0 ∨ m = 1 ∨ m = 2 ∨ m = 3 ∨ m = 4 ∨ m = 5 ∨ m = 6 ∨ m = 7) := ⟨how % 8, rfl, by omega⟩
  have HW8 := Lib.hid fun W => (within_any how 8 (by omega) (by omega) W).mono fun e w' ⟨he, hw⟩ => (⟨he.trans (by rw [hm8]), hw⟩ : e = Ending.returned (.int .i64 m8) ∧ w' = W)
  have hti2 := hti
  rw [Tl.plain_mk, tinyT] at hti2
  have hs1 := hti2.1
  have hp1 := hti2.2.1
  unfold tinyI at hs1 hp1
  have HMK : Hid (mildK (ks.map Tl.plain)) := Lib.hid (by have := (mild_of hti).2.2; rw [Tl.plain_kids] at this; exact this)
  have hsS2 := hsS
  have HSZ : Hid (1 + sizeK (ks.map Tl.plain) ≤ sizeT (Tl.mk s p a c ks).plain) := Lib.hid (by rw [size_mk]; exact Nat.le_refl _)
  have HSM : Hid (∀ s' p' : Int, sizeT (Tl.mk s' p' a c ks).plain ≤ sizeT (Tl.mk s p a c ks).plain + 1) := Lib.hid fun s' p' => by rw [size_mk, size_mk]; omega
  have hs2 : -2000 ≤ s ∧ s ≤ 2000 := by omega
  have hp2 : -2000 ≤ p ∧ p ≤ 2000 := by omega
  have HS9 := Lib.hid hsz
  have hkl : ks.length ≤ 9331 := by have := size_len s p a c ks; omega
  have HL0 : Hid (Lies (fun b => P b ∧ b < w.heap.size) w (.mk s p a c ks)) := Lib.hid (hl.weak fun b hb hlt => ⟨hb, hlt⟩)
  have HLS : Hid (Lies (fun b => P b ∧ b < w.heap.size) ((w.alloc (.cells #[.int .i64 s, .int .i64 p, .slice a ks.length c] 79)).alloc (.cells #[.int .i64 0, .int .i64 0, .slice none 0 0] 79)) (.mk s p a c ks)) := Lib.hid (HL0.out.under hbS)
  have HB := Lib.hid hbS
  have HQ0 := Lib.hid q0
  have HQ1 := Lib.hid q1
  obtain ⟨t0, x0⟩ := blk_cell (i := 0) q0 rfl
  obtain ⟨t1, x1⟩ := blk_cell (i := 1) q0 rfl
  obtain ⟨t2, x2⟩ := blk_cell (i := 2) q0 rfl
  obtain ⟨z0, v0⟩ := blk_cell (i := 0) q1 rfl
  obtain ⟨z1, v1⟩ := blk_cell (i := 1) q1 rfl
  obtain ⟨z2, v2⟩ := blk_cell (i := 2) q1 rfl
  have l0 := heap_lt q0
  have l1 := heap_lt q1
  have hcap : ks.length ≤ c := hl.cap
  have hcase : (ks.length = 0 ∧ ks = []) ∨ (0 < ks.length ∧ (0 : Int) < ks.length ∧ at_ % 3 = 0) := by
    by_cases h0 : ks.length = 0
    · exact .inl ⟨h0, List.eq_nil_of_length_eq_zero h0⟩
    · refine .inr ⟨by omega, by omega, ?_⟩
      rcases hh with h | h
      · rw [h] at h0; exact absurd rfl h0
      · exact h
  clear hm8 hti hti2 hsz hl hbS hsS q0 q1 hh
  go_enter Try.func105, Try.ntmps105
  go_upto_region 1 with fail
  generalize (w.alloc (.cells #[.int .i64 s, .int .i64 p, .slice a ks.length c] 79)).alloc (.cells #[.int .i64 0, .int .i64 0, .slice none 0 0] 79) = S at *
  have HS2 := Lib.hid hsS2
  clear hsS2
  rcases hcase with ⟨_, rfl⟩ | ⟨hk1, hk2, hat⟩
  · simp only [List.length_nil] at *
    go_upto_region 7 with fail
    rcases hl8 with rfl | rfl | rfl | rfl | rfl | rfl | rfl | rfl
    · go_wp2_with (go_at_call 19; (with_reducible refine (HW8.out _).mono ?_); rintro e w5 ⟨rfl, hw5⟩; rw [hw5]; clear hw5)
      (with_reducible refine sp_arm HB.out HQ1.out (.inr ⟨0, _, rfl⟩) HLS.out.root (mild_mk (by omega) (by omega) HMK.out) (HSM.out _ _) _ ?_ _ ?_ ?_) <;> rfl
    · go_wp2_with (go_at_call 19; (with_reducible refine (HW8.out _).mono ?_); rintro e w5 ⟨rfl, hw5⟩; rw [hw5]; clear hw5)
      (with_reducible refine sp_arm HB.out HQ1.out (.inr ⟨1, _, rfl⟩) HLS.out.root (mild_mk (by omega) (by omega) HMK.out) (HSM.out _ _) _ ?_ _ ?_ ?_) <;> rfl
    · go_wp2_with (go_at_call 19; (with_reducible refine (HW8.out _).mono ?_); rintro e w5 ⟨rfl, hw5⟩; rw [hw5]; clear hw5)
      (with_reducible refine sp_arm HB.out HQ1.out (.inr ⟨1, _, rfl⟩) HLS.out.root (mild_mk (by omega) (by omega) HMK.out) (HSM.out _ _) _ ?_ _ ?_ ?_) <;> rfl
    · go_wp2_with (first
        | (at_builtin; refine wpList_appT rfl (.tmp 62) (.tmp 64) rfl S.heap.size (some ⟨S.heap.size, 0, none⟩) 1 1 [leafTl 1] rfl (own_one S S.heap.size _ _ _ (Nat.le_refl _)) (by simp) a [] c rfl (HLS.out.cells.below (box_belowT S _)) (by first | omega | (simp only [List.length_nil]; omega)) ?_; intro va vc w5 ho5 hg5; have hb5 : Below S.heap.size S w5 := (box_belowT S _).grown hg5 (by simp) (fun x hx => by have : S.heap.size = x := (by simpa [Value.ownBlock] using hx); omega); have r0 := (hb5.block _ (heap_lt HQ0.out)).trans HQ0.out; have r1 := (hb5.block _ (heap_lt HQ1.out)).trans HQ1.out; obtain ⟨t50, x50⟩ := blk_cell (i := 0) r0 rfl; obtain ⟨t51, x51⟩ := blk_cell (i := 1) r0 rfl; obtain ⟨t52, x52⟩ := blk_cell (i := 2) r0 rfl; obtain ⟨z50, v50⟩ := blk_cell (i := 0) r1 rfl; obtain ⟨z51, v51⟩ := blk_cell (i := 1) r1 rfl; obtain ⟨z52, v52⟩ := blk_cell (i := 2) r1 rfl; have l50 := heap_lt r0; have l51 := heap_lt r1; have HO5 := Lib.hid ho5; have HB5 := Lib.hid hb5; clear r0 r1 ho5 hb5)
        | (go_at_call 19; (with_reducible refine (HW8.out _).mono ?_); rintro e w5 ⟨rfl, hw5⟩; rw [hw5]; clear hw5))
      (with_reducible refine sp_app HB.out HS2.out HQ1.out HLS.out HB5.out HO5.out hs2 hp2 HMK.out HSZ.out _ ?_ _ ?_ ?_) <;> first | rfl | simp
    · go_wp2_with (go_at_call 19; (with_reducible refine (HW8.out _).mono ?_); rintro e w5 ⟨rfl, hw5⟩; rw [hw5]; clear hw5)
      (with_reducible refine sp_arm HB.out HQ1.out (.inl rfl) HLS.out (mild_mk (by omega) (by omega) HMK.out) (HSM.out _ _) _ ?_ _ ?_ ?_) <;> rfl
    · go_wp2_with (go_at_call 19; (with_reducible refine (HW8.out _).mono ?_); rintro e w5 ⟨rfl, hw5⟩; rw [hw5]; clear hw5)
      (with_reducible refine sp_arm HB.out HQ1.out (.inr ⟨1, _, rfl⟩) HLS.out.root (mild_mk (by omega) (by omega) HMK.out) (HSM.out _ _) _ ?_ _ ?_ ?_) <;> rfl
    · go_wp2_with (go_at_call 19; (with_reducible refine (HW8.out _).mono ?_); rintro e w5 ⟨rfl, hw5⟩; rw [hw5]; clear hw5)
      (with_reducible refine sp_arm HB.out HQ1.out (.inr ⟨0, _, rfl⟩) HLS.out.root (mild_mk (by omega) (by omega) HMK.out) (HSM.out _ _) _ ?_ _ ?_ ?_) <;> rfl
    · go_wp2_with (go_at_call 19; (with_reducible refine (HW8.out _).mono ?_); rintro e w5 ⟨rfl, hw5⟩; rw [hw5]; clear hw5)
      (with_reducible refine sp_arm HB.out HQ1.out (.inr ⟨1, _, rfl⟩) HLS.out.root (mild_mk (by omega) (by omega) HMK.out) (HSM.out _ _) _ ?_ _ ?_ ?_) <;> rfl
  · have HW3 := Lib.hid fun W => (within_any at_ 3 (by omega) (by omega) W).mono fun e w' ⟨he, hw⟩ => (⟨he.trans (by rw [hat]), hw⟩ : e = Ending.returned (.int .i64 0) ∧ w' = W)
    clear hat
    go_upto_region 7 with (go_at_call 19; (with_reducible refine (HW3.out _).mono ?_); rintro e w5 ⟨rfl, hw5⟩; rw [hw5]; clear hw5)
    rcases hl8 with rfl | rfl | rfl | rfl | rfl | rfl | rfl | rfl
    · go_wp2_with (go_at_call 19; (with_reducible refine (HW8.out _).mono ?_); rintro e w5 ⟨rfl, hw5⟩; rw [hw5]; clear hw5)
      (with_reducible refine sp_arm HB.out HQ1.out (.inr ⟨0, _, rfl⟩) HLS.out.root (mild_mk (by omega) (by omega) HMK.out) (HSM.out _ _) _ ?_ _ ?_ ?_) <;> rfl
    · go_wp2_with (go_at_call 19; (with_reducible refine (HW8.out _).mono ?_); rintro e w5 ⟨rfl, hw5⟩; rw [hw5]; clear hw5)
      (with_reducible refine sp_arm HB.out HQ1.out (.inr ⟨1, _, rfl⟩) HLS.out.root (mild_mk (by omega) (by omega) HMK.out) (HSM.out _ _) _ ?_ _ ?_ ?_) <;> rfl
    · go_wp2_with (go_at_call 19; (with_reducible refine (HW8.out _).mono ?_); rintro e w5 ⟨rfl, hw5⟩; rw [hw5]; clear hw5)
      (with_reducible refine sp_arm HB.out HQ1.out (.inr ⟨1, _, rfl⟩) HLS.out.root (mild_mk (by omega) (by omega) HMK.out) (HSM.out _ _) _ ?_ _ ?_ ?_) <;> rfl
    · go_wp2_with (first
        | (at_builtin; refine wpList_appT rfl (.tmp 62) (.tmp 64) rfl S.heap.size (some ⟨S.heap.size, 0, none⟩) 1 1 [leafTl 1] rfl (own_one S S.heap.size _ _ _ (Nat.le_refl _)) (by simp) a ks c rfl (HLS.out.cells.below (box_belowT S _)) (by first | omega | (simp only [List.length_nil]; omega)) ?_; intro va vc w5 ho5 hg5; have hb5 : Below S.heap.size S w5 := (box_belowT S _).grown hg5 (by simp) (fun x hx => by have : S.heap.size = x := (by simpa [Value.ownBlock] using hx); omega); have r0 := (hb5.block _ (heap_lt HQ0.out)).trans HQ0.out; have r1 := (hb5.block _ (heap_lt HQ1.out)).trans HQ1.out; obtain ⟨t50, x50⟩ := blk_cell (i := 0) r0 rfl; obtain ⟨t51, x51⟩ := blk_cell (i := 1) r0 rfl; obtain ⟨t52, x52⟩ := blk_cell (i := 2) r0 rfl; obtain ⟨z50, v50⟩ := blk_cell (i := 0) r1 rfl; obtain ⟨z51, v51⟩ := blk_cell (i := 1) r1 rfl; obtain ⟨z52, v52⟩ := blk_cell (i := 2) r1 rfl; have l50 := heap_lt r0; have l51 := heap_lt r1; have HO5 := Lib.hid ho5; have HB5 := Lib.hid hb5; clear r0 r1 ho5 hb5)
        | (go_at_call 19; (with_reducible refine (HW8.out _).mono ?_); rintro e w5 ⟨rfl, hw5⟩; rw [hw5]; clear hw5))
      (with_reducible refine sp_app HB.out HS2.out HQ1.out HLS.out HB5.out HO5.out hs2 hp2 HMK.out HSZ.out _ ?_ _ ?_ ?_) <;> first | rfl | simp
    · cases ks with
      | nil => simp at hk1
      | cons kt kr =>
        obtain ⟨bk, ok, rfl, hbk, _⟩ := HLS.out.cells.get (by intro e; cases e)
        clear hbk
        simp only [List.length_cons] at *
        have hi1 : (1 : Int) ≤ (kr.length : Int) + 1 := by omega
        have hi2 : (kr.length : Int) + 1 ≤ c := by omega
        have hi3 : (0 : Int) ≤ 1 := by omega
        by_cases hc1 : c = 1
        · subst hc1
          obtain rfl : kr = [] := List.eq_nil_of_length_eq_zero (by omega)
          go_wp2_with (go_at_call 19; (with_reducible refine (HW8.out _).mono ?_); rintro e w5 ⟨rfl, hw5⟩; rw [hw5]; clear hw5)
          (with_reducible refine sp_arm HB.out HQ1.out (.inr ⟨2, _, rfl⟩) (Lies.leaf _ _ _ _ _ _) (mild_mk (by omega) (by omega) (mildK_mk fun _ h => absurd h List.not_mem_nil)) (by rw [size_mk]; simp [sizeK]) _ ?_ _ ?_ ?_) <;> rfl
        · have hc2 : ¬ (c : Int) = 1 := by omega
          have hc3 : ¬ 1 = c := by omega
          go_wp2_with (go_at_call 19; (with_reducible refine (HW8.out _).mono ?_); rintro e w5 ⟨rfl, hw5⟩; rw [hw5]; clear hw5)
          (with_reducible refine sp_arm HB.out HQ1.out (.inr ⟨2, _, rfl⟩) HLS.out.tail (mild_mk (by omega) (by omega) (mildK_mk fun k hk => mildK_mem HMK.out k (by rw [List.map_cons]; exact List.mem_cons_of_mem _ hk))) (by rw [size_mk]; have := HSZ.out; simp only [List.map_cons, sizeK] at this; omega) _ ?_ _ ?_ ?_) <;> rfl
    · go_wp2_with (go_at_call 19; (with_reducible refine (HW8.out _).mono ?_); rintro e w5 ⟨rfl, hw5⟩; rw [hw5]; clear hw5)
      (with_reducible refine sp_arm HB.out HQ1.out (.inr ⟨1, _, rfl⟩) HLS.out.root (mild_mk (by omega) (by omega) HMK.out) (HSM.out _ _) _ ?_ _ ?_ ?_) <;> rfl
    · go_wp2_with (go_at_call 19; (with_reducible refine (HW8.out _).mono ?_); rintro e w5 ⟨rfl, hw5⟩; rw [hw5]; clear hw5)
      (with_reducible refine sp_arm HB.out HQ1.out (.inr ⟨0, _, rfl⟩) HLS.out.root (mild_mk (by omega) (by omega) HMK.out) (HSM.out _ _) _ ?_ _ ?_ ?_) <;> rfl
    · go_wp2_with (go_at_call 19; (with_reducible refine (HW8.out _).mono ?_); rintro e w5 ⟨rfl, hw5⟩; rw [hw5]; clear hw5)
      (with_reducible refine sp_arm HB.out HQ1.out (.inr ⟨1, _, rfl⟩) HLS.out.root (mild_mk (by omega) (by omega) HMK.out) (HSM.out _ _) _ ?_ _ ?_ ?_) <;> rfl

/-- A kid put in another's place. -/
theorem sp_set {P : Nat → Prop} {n : Nat} {w S w4 w5 : World} {s p : Int} {a : Option Addr} {c : Nat} {ks : List Tl} {k g vc : Nat} {kt t5 : Tl} (hB : Below w.heap.size w S) (hS : S.heap.size = w.heap.size + 2) (hq : S.heap[w.heap.size + 1]? = some (.cells #[.int .i64 0, .int .i64 0, .slice none 0 0] 79)) (hl : Lies (fun b => P b ∧ b < w.heap.size) S (.mk s p a c ks)) (hb4 : Below S.heap.size S w4) (ho : w4.ownsRow S.heap.size 79 3 (.slice (some ⟨g, 0, none⟩) ks.length vc) ks.length (tls ks)) (hkt : ks[k]? = some kt) (hb5 : Below w4.heap.size w4 w5) (hl5 : Lies (fun b => (P b ∧ b < w.heap.size) ∨ w4.heap.size ≤ b) w5 t5) (hm5 : mildT t5.plain) (hs5 : sizeT t5.plain ≤ sizeT kt.plain + 1)
    (hs : -2000 ≤ s ∧ s ≤ 2000) (hp : -2000 ≤ p ∧ p ≤ 2000) (hk : mildK (ks.map Tl.plain)) (hz : 1 + sizeK (ks.map Tl.plain) ≤ n) (m : Nat) (hm : ks.length = m) (act : Act) (ha : act.tmps.getD 6 undef = .pointer (some ⟨w.heap.size + 1, 0, none⟩)) (hd : act.defers = []) :
    bodyPost Try.prog Try.f105 (SpEnd P n w) .ret act (((((((w5.setCell ⟨g, k * 3, none⟩ (.int .i64 t5.sym)).setCell ⟨g, k * 3 + 1, none⟩ (.int .i64 t5.prod)).setCell ⟨g, k * 3 + 2, none⟩ (.slice t5.a t5.kids.length t5.c)).setCell ⟨w.heap.size, 2, none⟩ (.slice (some ⟨g, 0, none⟩) m vc)).setCell ⟨w.heap.size + 1, 0, none⟩ (.int .i64 s)).setCell ⟨w.heap.size + 1, 1, none⟩ (.int .i64 p)).setCell ⟨w.heap.size + 1, 2, none⟩ (.slice (some ⟨g, 0, none⟩) m vc)) := by
  subst hm
  have hkl := (List.getElem?_eq_some_iff.1 hkt).1
  obtain ⟨hg1, hg2, _⟩ := own_block ho (g := g) (by simp [Value.ownBlock])
  have ho5 := own_same ho fun b _ hlt => hb5.block b hlt
  have ho8 := (((ho5.stored (k * 3) (.int .i64 t5.sym)).1.stored (k * 3 + 1) (.int .i64 t5.prod)).1.stored (k * 3 + 2) (.slice t5.a t5.kids.length t5.c)).1
  rw [tls_set ks k t5 hkl] at ho8
  have hb8 : Below S.heap.size S (((w5.setCell ⟨g, k * 3, none⟩ (.int .i64 t5.sym)).setCell ⟨g, k * 3 + 1, none⟩ (.int .i64 t5.prod)).setCell ⟨g, k * 3 + 2, none⟩ (.slice t5.a t5.kids.length t5.c)) := (((hb4.trans (hb5.mono hb4.size)).setCell (p := ⟨g, k * 3, none⟩) hg1 _).setCell (p := ⟨g, k * 3 + 1, none⟩) hg1 _).setCell (p := ⟨g, k * 3 + 2, none⟩) hg1 _
  have hf8 : ∀ b, b ≠ g → (((w5.setCell ⟨g, k * 3, none⟩ (.int .i64 t5.sym)).setCell ⟨g, k * 3 + 1, none⟩ (.int .i64 t5.prod)).setCell ⟨g, k * 3 + 2, none⟩ (.slice t5.a t5.kids.length t5.c)).heap[b]? = w5.heap[b]? := fun b hb => by
    rw [Below.heap_setCell _ _ _ _ hb, Below.heap_setCell _ _ _ _ hb, Below.heap_setCell _ _ _ _ hb]
  have hs8 : (((w5.setCell ⟨g, k * 3, none⟩ (.int .i64 t5.sym)).setCell ⟨g, k * 3 + 1, none⟩ (.int .i64 t5.prod)).setCell ⟨g, k * 3 + 2, none⟩ (.slice t5.a t5.kids.length t5.c)).heap.size = w5.heap.size := by simp
  generalize ((w5.setCell ⟨g, k * 3, none⟩ (.int .i64 t5.sym)).setCell ⟨g, k * 3 + 1, none⟩ (.int .i64 t5.prod)).setCell ⟨g, k * 3 + 2, none⟩ (.slice t5.a t5.kids.length t5.c) = w8 at *
  have hn : ks.length = (ks.set k t5).length := by simp
  have hbF : ∀ b, b ≠ w.heap.size → (w8.setCell ⟨w.heap.size, 2, none⟩ (.slice (some ⟨g, 0, none⟩) ks.length vc)).heap[b]? = w8.heap[b]? := fun b hb => Below.heap_setCell _ _ _ _ hb
  have hown := own_cells (own_same ho8 (w' := w8.setCell ⟨w.heap.size, 2, none⟩ (.slice (some ⟨g, 0, none⟩) ks.length vc)) fun b hb _ => hbF b (by have := (own_block ho8 hb).1; omega))
  have hL : Lies (fun b => (P b ∧ b < w.heap.size) ∨ w.heap.size + 1 < b) (w8.setCell ⟨w.heap.size, 2, none⟩ (.slice (some ⟨g, 0, none⟩) ks.length vc)) (Tl.mk s p (some ⟨g, 0, none⟩) vc (ks.set k t5)) := by
    refine .mk hown.1 (by rw [← hn]; exact hown.2) (fun _ x hx => .inr (by cases hx; show w.heap.size + 1 < g; omega)) ?_
    intro t ht
    rcases List.mem_or_eq_of_mem_set ht with ht | rfl
    · refine (((hl.kid t ht).under hb4).under hb5).keep (by simp [hs8]) (fun b hb _ => (hbF b (by omega)).trans (hf8 b (by omega))) (fun b hb _ => .inl hb)
    · refine hl5.keep (by simp [hs8]) (fun b hb _ => (hbF b (by have := hb4.size; omega)).trans (hf8 b (by omega))) (fun b hb _ => ?_)
      rcases hb with h | h
      · exact .inl h
      · exact .inr (by have := hb4.size; omega)
  have hsk := sizeK_set (ks.map Tl.plain) k kt.plain t5.plain (map_at hkt)
  have hms : (ks.set k t5).map Tl.plain = (ks.map Tl.plain).set k t5.plain := by rw [List.map_set]
  have := sp_end (n := n) (tl := Tl.mk s p (some ⟨g, 0, none⟩) vc (ks.set k t5)) ((hB.trans (hb8.mono (by omega))).setCell (p := ⟨w.heap.size, 2, none⟩) (Nat.le_refl _) (.slice (some ⟨g, 0, none⟩) ks.length vc)) ((hbF _ (by omega)).trans ((hb8.block _ (by omega)).trans hq)) hL (mild_mk hs hp (mildK_mk fun x hx => by
    rw [hms] at hx
    rcases List.mem_or_eq_of_mem_set hx with hx | rfl
    · exact mildK_mem hk x hx
    · exact hm5)) (by rw [size_mk, hms]; omega) act ha hd
  simpa only [Tl.sym, Tl.prod, Tl.a, Tl.c, Tl.kids, ← hn] using this

set_option maxRecDepth 100000 in
set_option maxHeartbeats 8000000 in
theorem spoilt_any (t : Tl) : ∀ (P : Nat → Prop) (how at_ : Int) (w : World), Lies P w t → tinyT t.plain → sizeT t.plain ≤ 9331 → -9223372036854775808 ≤ at_ ∧ at_ ≤ 9223372036854775807 →
    Calls Try.prog 105 #[.agg #[.int .i64 t.sym, .int .i64 t.prod, .slice t.a t.kids.length t.c], .int .i64 how, .int .i64 at_] w (SpEnd P (sizeT t.plain) w) := by
  induction t using Tl.ind with
  | h s p a c ks ih =>
    intro P how at_ w hl hti hsz hat
    simp only [Tl.sym, Tl.prod, Tl.a, Tl.c, Tl.kids]
    by_cases hh : ks = [] ∨ at_ % 3 = 0
    · exact spoilt_here s p a c ks P how at_ w hl hti hsz hh
    have hk0 : 0 < ks.length := List.length_pos_iff.2 fun e => hh (.inl e)
    have HIH := Lib.hid ih
    obtain ⟨hbS, hsS, q0, q1⟩ := twin_alloc w (.cells #[.int .i64 s, .int .i64 p, .slice a ks.length c] 79) (.cells #[.int .i64 0, .int .i64 0, .slice none 0 0] 79)
    have hti2 := hti
    rw [Tl.plain_mk, tinyT] at hti2
    have hs1 := hti2.1
    have hp1 := hti2.2.1
    have HTK : Hid (∀ kt ∈ ks, tinyT kt.plain) := Lib.hid fun kt hkt => tinyK_iff.1 hti2.2.2 _ (List.mem_map_of_mem hkt)
    unfold tinyI at hs1 hp1
    have hs2 : Hid (-2000 ≤ s ∧ s ≤ 2000) := Lib.hid (by omega)
    have hp2 : Hid (-2000 ≤ p ∧ p ≤ 2000) := Lib.hid (by omega)
    have HMK : Hid (mildK (ks.map Tl.plain)) := Lib.hid (by have := (mild_of hti).2.2; rw [Tl.plain_kids] at this; exact this)
    have HSZ : Hid (1 + sizeK (ks.map Tl.plain) ≤ sizeT (Tl.mk s p a c ks).plain) := Lib.hid (by rw [size_mk]; exact Nat.le_refl _)
    have HS9 := Lib.hid hsz
    have hkl : ks.length ≤ 9331 := by have := size_len s p a c ks; omega
    have HLS : Hid (Lies (fun b => P b ∧ b < w.heap.size) ((w.alloc (.cells #[.int .i64 s, .int .i64 p, .slice a ks.length c] 79)).alloc (.cells #[.int .i64 0, .int .i64 0, .slice none 0 0] 79)) (.mk s p a c ks)) := Lib.hid ((hl.weak (Q := fun b => P b ∧ b < w.heap.size) fun b hb hlt => ⟨hb, hlt⟩).under hbS)
    have HB := Lib.hid hbS
    have HS2 := Lib.hid hsS
    have HQ0 := Lib.hid q0
    have HQ1 := Lib.hid q1
    obtain ⟨t0, x0⟩ := blk_cell (i := 0) q0 rfl
    obtain ⟨t1, x1⟩ := blk_cell (i := 1) q0 rfl
    obtain ⟨t2, x2⟩ := blk_cell (i := 2) q0 rfl
    have l0 := heap_lt q0
    obtain ⟨d3, hd3, hd3p⟩ : ∃ d : Int, at_ % 3 = d ∧ 0 < d := ⟨at_ % 3, rfl, by have : ¬ at_ % 3 = 0 := fun h => hh (.inr h); omega⟩
    have hw3 := wrap_tdiv3 at_ hat.1 hat.2
    have hw9 := wrap_tdiv9 at_ hat.1 hat.2
    obtain ⟨m, hm, hml⟩ : ∃ m : Nat, at_.tdiv 3 % (ks.length : Int) = m ∧ m < ks.length := ⟨(at_.tdiv 3 % (ks.length : Int)).toNat, by have := Int.emod_nonneg (at_.tdiv 3) (show (ks.length : Int) ≠ 0 by omega); omega, by have := Int.emod_nonneg (at_.tdiv 3) (show (ks.length : Int) ≠ 0 by omega); have := Int.emod_lt_of_pos (at_.tdiv 3) (show (0 : Int) < ks.length by omega); omega⟩
    have HW3 := Lib.hid fun W => (within_any at_ 3 (by omega) (by omega) W).mono fun e w' ⟨he, hw⟩ => (⟨he.trans (by rw [hd3]), hw⟩ : e = Ending.returned (.int .i64 d3) ∧ w' = W)
    have HWK := Lib.hid fun W => (within_any (at_.tdiv 3) ks.length (by omega) (by omega) W).mono fun e w' ⟨he, hw⟩ => (⟨he.trans (by rw [hm]), hw⟩ : e = Ending.returned (.int .i64 m) ∧ w' = W)
    have hwr3 := hw3.1
    have hwr9 := hw9.1
    have HAT9 := Lib.hid hw9.2
    obtain ⟨kt, hkt⟩ : ∃ kt, ks[m]? = some kt := ⟨_, List.getElem?_eq_getElem hml⟩
    have HKT := Lib.hid hkt
    have hmem := List.mem_of_getElem? hkt
    have HLK := Lib.hid (HLS.out.kid kt hmem)
    have HC := Lib.hid fun (W : World) (hW : Lies (fun b => P b ∧ b < w.heap.size) W kt) => HIH.out kt hmem _ how (at_.tdiv 9) W hW (HTK.out kt hmem) (by have := size_kid (s := s) (p := p) (a := a) (c := c) hmem; have := HS9.out; omega) HAT9.out
    unfold SpEnd at HC
    have e1 : (m : Int) < ks.length := by omega
    have e0 : (0 : Int) < ks.length := by omega
    have HM3 := Lib.hid hml
    clear hd3 hm hti hti2 hsz hl hbS hsS q0 q1 hh ih hw3 hw9 hat hkt hmem hs1 hp1 hml
    go_enter Try.func105, Try.ntmps105
    go_upto_region 1 with fail
    generalize (w.alloc (.cells #[.int .i64 s, .int .i64 p, .slice a ks.length c] 79)).alloc (.cells #[.int .i64 0, .int .i64 0, .slice none 0 0] 79) = S at *
    go_upto_region 4 with (first
      | (go_at_call 19; (with_reducible refine (HW3.out _).mono ?_); rintro e w5 ⟨rfl, hw5⟩; rw [hw5]; clear hw5)
      | (go_at_call 19; (with_reducible refine (HWK.out _).mono ?_); rintro e w5 ⟨rfl, hw5⟩; rw [hw5]; clear hw5)
      | (at_builtin; refine wpList_appT rfl (.const (.slice none 0 0)) (.tmp 25) rfl S.heap.size none 0 0 [] rfl (World.ownsRow_nil _ _ _ _) (Nat.le_refl _) a ks c rfl HLS.out.cells (by omega) ?_; intro va vc w4 ho4 hg4))
    have hb4 := (Below.refl S.heap.size S).grown hg4 (Nat.le_refl _) (fun k hk => by cases hk)
    simp only [Nat.zero_add, List.nil_append] at ho4
    rcases ho4.2 with ⟨_, hnil⟩ | ⟨gg, cap, cur, hv, hg1, _⟩
    · omega
    cases hv
    have HO4 := Lib.hid ho4
    have HB4 := Lib.hid hb4
    have HC4 := Lib.hid (HC.out w4 (HLK.out.under hb4))
    have hcell := tls_at ks m kt HKT.out
    have hml := HM3.out
    have y0 := (ho4.cellAt (m * 3) (by omega)).trans hcell.1
    have y1 := (ho4.cellAt (m * 3 + 1) (by omega)).trans hcell.2.1
    have y2 := (ho4.cellAt (m * 3 + 2) (by omega)).trans hcell.2.2
    have f0 := ho4.frozenAt (m * 3)
    have f1 := ho4.frozenAt (m * 3 + 1)
    have f2 := ho4.frozenAt (m * 3 + 2)
    have lg := (own_block ho4 (g := gg) (by simp [Value.ownBlock])).2.1
    clear hcell ho4 hg4 hb4 t0 t1 t2 x0 x1 x2 l0 HC hml
    go_upto_region 5 with (go_at_call 105; (with_reducible refine HC4.out.mono ?_); rintro e w5 ⟨hb5, t5, rfl, hl5, hm5, hs5⟩; have r0 := (hb5.block _ (Nat.lt_of_lt_of_le (heap_lt HQ0.out) HB4.out.size)).trans ((HB4.out.block _ (heap_lt HQ0.out)).trans HQ0.out); have r1 := (hb5.block _ (Nat.lt_of_lt_of_le (heap_lt HQ1.out) HB4.out.size)).trans ((HB4.out.block _ (heap_lt HQ1.out)).trans HQ1.out); obtain ⟨t50, x50⟩ := blk_cell (i := 0) r0 rfl; obtain ⟨t51, x51⟩ := blk_cell (i := 1) r0 rfl; obtain ⟨t52, x52⟩ := blk_cell (i := 2) r0 rfl; obtain ⟨z50, v50⟩ := blk_cell (i := 0) r1 rfl; obtain ⟨z51, v51⟩ := blk_cell (i := 1) r1 rfl; obtain ⟨z52, v52⟩ := blk_cell (i := 2) r1 rfl; have l50 := heap_lt r0; have l51 := heap_lt r1; have hO5 := own_same HO4.out (fun b _ hlt => hb5.block b hlt); have u0 := (hO5.cellAt (m * 3) (by have := HM3.out; omega)); have u1 := (hO5.cellAt (m * 3 + 1) (by have := HM3.out; omega)); have u2 := (hO5.cellAt (m * 3 + 2) (by have := HM3.out; omega)); rw [(tls_at ks m kt HKT.out).1] at u0; rw [(tls_at ks m kt HKT.out).2.1] at u1; rw [(tls_at ks m kt HKT.out).2.2] at u2; have k0 := hO5.frozenAt (m * 3); have k1 := hO5.frozenAt (m * 3 + 1); have k2 := hO5.frozenAt (m * 3 + 2); have lg5 := (own_block hO5 (g := gg) (by simp [Value.ownBlock])).2.1; have hne1 : ¬ gg = w.heap.size := (by have := HS2.out; omega); have hne2 : ¬ w.heap.size = gg := (by omega); have hne3 : ¬ gg = w.heap.size + 1 := (by have := HS2.out; omega); have hne4 : ¬ w.heap.size + 1 = gg := (by omega); have HB5 := Lib.hid hb5; have HL5 := Lib.hid hl5; have HM5 := Lib.hid hm5; have HS5 := Lib.hid hs5; clear r0 r1 hb5 hl5 hm5 hs5 hO5)
    clear y0 y1 y2 f0 f1 f2
    go_wp2
    (with_reducible refine sp_set HB.out HS2.out HQ1.out HLS.out HB4.out HO4.out HKT.out HB5.out HL5.out HM5.out HS5.out hs2.out hp2.out HMK.out HSZ.out _ ?_ _ ?_ ?_) <;> rfl

/-! ## TreeOs -/

/-- How Of ends: some tree. -/
def OfEnd2 (g : Gr) (w : World) (e : Ending) (w' : World) : Prop :=
  Below w.heap.size w w' ∧ ∃ tl : Tl, e = .returned (.agg #[.int .i64 tl.sym, .int .i64 tl.prod, .slice tl.a tl.kids.length tl.c]) ∧ Lies (fun b => w.heap.size ≤ b) w' tl ∧ mildT tl.plain ∧ sizeT tl.plain ≤ 9332
/-- Of's tree in its box. -/
structure Bx (g : Gr) (d : Nat) (sym : Int) (w W : World) (K : Nat) (tl : Tl) : Prop where
  k : w.heap.size + 1 < K
  t : W.heap[K]? = some (.cells #[.int .i64 tl.sym, .int .i64 tl.prod, .slice tl.a tl.kids.length tl.c] 79)
  r : W.heap[w.heap.size + 1]? = some (.cells #[.int .i64 0, .int .i64 0, .slice none 0 0] 79)
  b : Below w.heap.size w W
  l : Lies (fun b => w.heap.size ≤ b ∧ b ≠ w.heap.size + 1 ∧ b ≠ K) W tl
  c : checkT g tl.plain sym = true
  s : sizeT tl.plain ≤ bndT d

theorem bx1 {g : Gr} {w w4 : World} {tl : Tl} {d n : Nat} {sym : Int} (hn : w.heap.size + 1 < n) (hb : Below w.heap.size w w4) (h8 : w4.heap[w.heap.size + 1]? = some (.cells #[.int .i64 0, .int .i64 0, .slice none 0 0] 79)) (hl : Lies (fun b => n ≤ b) w4 tl) (hck : checkT g tl.plain sym = true) (hsz : sizeT tl.plain ≤ bndT d) : Bx g d sym w (w4.alloc (.cells #[.int .i64 tl.sym, .int .i64 tl.prod, .slice tl.a tl.kids.length tl.c] 79)) w4.heap.size tl := by
  have hbA := box_belowT w4 (.cells #[.int .i64 tl.sym, .int .i64 tl.prod, .slice tl.a tl.kids.length tl.c] 79)
  refine ⟨heap_lt h8, heap_alloc_new w4 _, (hbA.block _ (heap_lt h8)).trans h8, hb.trans (hbA.mono hb.size), (hl.weak (Q := fun b => w.heap.size ≤ b ∧ b ≠ w.heap.size + 1 ∧ b ≠ w4.heap.size) fun b h1 h2 => by omega).under hbA, hck, hsz⟩
theorem bx2 {g : Gr} {w w4 : World} {tl : Tl} {d n K : Nat} {sym : Int} {v0 v1 v2 : Value} (hK : w.heap.size + 1 < K) (hn : K < n) (hb : Below w.heap.size w w4) (h8 : w4.heap[w.heap.size + 1]? = some (.cells #[.int .i64 0, .int .i64 0, .slice none 0 0] 79)) (h12 : w4.heap[K]? = some (.cells #[v0, v1, v2] 79)) (hl : Lies (fun b => n ≤ b) w4 tl) (hck : checkT g tl.plain sym = true) (hsz : sizeT tl.plain ≤ bndT d) : Bx g d sym w (((w4.setCell ⟨K, 0, none⟩ (.int .i64 tl.sym)).setCell ⟨K, 1, none⟩ (.int .i64 tl.prod)).setCell ⟨K, 2, none⟩ (.slice tl.a tl.kids.length tl.c)) K tl := by
  refine ⟨hK, store3 h12 _ _ _, (store3_far _ _ _ _ (by omega)).trans h8, store3_below hb (by omega) _ _ _, hl.keep (by simp [World.setCell]) (fun b hb _ => store3_far _ _ _ b (by omega)) (fun b hb _ => by omega), hck, hsz⟩
set_option maxRecDepth 100000 in
theorem of_endR {g : Gr} {w W : World} {tl : Tl} {u0 u1 u2 : Value} (hb : Below w.heap.size w W) (hr : W.heap[w.heap.size + 1]? = some (.cells #[u0, u1, u2] 79)) (hl : Lies (fun b => w.heap.size ≤ b ∧ b ≠ w.heap.size + 1) W tl) (hm : mildT tl.plain) (hs : sizeT tl.plain ≤ 9332) (a : Act) (ha : a.tmps.getD 10 undef = .pointer (some ⟨w.heap.size + 1, 0, none⟩)) (hd : a.defers = []) :
    bodyPost Try.prog Try.f55 (OfEnd2 g w) .ret a (((W.setCell ⟨w.heap.size + 1, 0, none⟩ (.int .i64 tl.sym)).setCell ⟨w.heap.size + 1, 1, none⟩ (.int .i64 tl.prod)).setCell ⟨w.heap.size + 1, 2, none⟩ (.slice tl.a tl.kids.length tl.c)) := by
  refine bodyPost_ret (v := .agg #[.int .i64 tl.sym, .int .i64 tl.prod, .slice tl.a tl.kids.length tl.c]) ?_ hd ⟨store3_below hb (Nat.le_succ _) _ _ _, tl, rfl, hl.keep (by simp [World.setCell]) (fun b hb _ => store3_far _ _ _ b hb.2) (fun b hb _ => hb.1), hm, hs⟩
  rw [results_cell1 (p := 10) (ty := 79) rfl, ha]
  show ((asAddr (.pointer (some ⟨w.heap.size + 1, 0, none⟩))).run _ _).andThen _ = _
  exact run_loadVar_row _ (w.heap.size + 1) 79 79 _ (0, 0) _ (store3 hr _ _ _) Try.underlying79 rfl (by kernel_rfl)
theorem of_end3 {g : Gr} {w w6 : World} {tl : Tl} {K : Nat} {u0 u1 u2 : Value} (hK : w.heap.size + 1 < K) (hb : Below w.heap.size w w6) (hr : w6.heap[w.heap.size + 1]? = some (.cells #[u0, u1, u2] 79)) (hl : Lies (fun b => w.heap.size ≤ b ∧ b ≠ w.heap.size + 1 ∧ b ≠ K) w6 tl) (hm : mildT tl.plain) (hs : sizeT tl.plain ≤ 9332) (a : Act) (ha : a.tmps.getD 10 undef = .pointer (some ⟨w.heap.size + 1, 0, none⟩)) (hd : a.defers = []) :
    bodyPost Try.prog Try.f55 (OfEnd2 g w) .ret a ((((((w6.setCell ⟨K, 0, none⟩ (.int .i64 tl.sym)).setCell ⟨K, 1, none⟩ (.int .i64 tl.prod)).setCell ⟨K, 2, none⟩ (.slice tl.a tl.kids.length tl.c)).setCell ⟨w.heap.size + 1, 0, none⟩ (.int .i64 tl.sym)).setCell ⟨w.heap.size + 1, 1, none⟩ (.int .i64 tl.prod)).setCell ⟨w.heap.size + 1, 2, none⟩ (.slice tl.a tl.kids.length tl.c)) := by
  have h3 : Below w.heap.size w (((w6.setCell ⟨K, 0, none⟩ (.int .i64 tl.sym)).setCell ⟨K, 1, none⟩ (.int .i64 tl.prod)).setCell ⟨K, 2, none⟩ (.slice tl.a tl.kids.length tl.c)) := store3_below hb (by omega) _ _ _
  have hr3 : (((w6.setCell ⟨K, 0, none⟩ (.int .i64 tl.sym)).setCell ⟨K, 1, none⟩ (.int .i64 tl.prod)).setCell ⟨K, 2, none⟩ (.slice tl.a tl.kids.length tl.c)).heap[w.heap.size + 1]? = some (.cells #[u0, u1, u2] 79) := (store3_far _ _ _ _ (by omega)).trans hr
  have hl3 : Lies (fun b => w.heap.size ≤ b ∧ b ≠ w.heap.size + 1) (((w6.setCell ⟨K, 0, none⟩ (.int .i64 tl.sym)).setCell ⟨K, 1, none⟩ (.int .i64 tl.prod)).setCell ⟨K, 2, none⟩ (.slice tl.a tl.kids.length tl.c)) tl := hl.keep (by simp [World.setCell]) (fun b hb _ => store3_far _ _ _ b hb.2.2) (fun b hb _ => ⟨hb.1, hb.2.1⟩)
  generalize ((w6.setCell ⟨K, 0, none⟩ (.int .i64 tl.sym)).setCell ⟨K, 1, none⟩ (.int .i64 tl.prod)).setCell ⟨K, 2, none⟩ (.slice tl.a tl.kids.length tl.c) = W at *
  exact of_endR h3 hr3 hl3 hm hs a ha hd

set_option maxRecDepth 100000 in
set_option maxHeartbeats 8000000 in
theorem treeOf_sp (g : Gr) (hcg : CheckG g) (a1 a2 a3 : Option Addr) (c1 c2 c3 : Nat) (a : Option Addr) (c : Nat) (zs : List Int) (deep how at_ : Int) (w : World) (hg : GramAt w (.agg #[.slice a1 g.terms.length c1, .slice a2 g.nons.length c2, .slice a3 g.prods.length c3]) g) (hz : Cells w a (nums zs)) (hzc : zs.length ≤ c) (hcm : c ≤ 140737488355328) (hwz : ∀ z ∈ zs, -9223372036854775808 ≤ z ∧ z ≤ 9223372036854775807) (hh : (how.tmod 4 == 3) = true) (hhw : -9223372036854775808 ≤ how ∧ how ≤ 9223372036854775807) (haw : -9223372036854775808 ≤ at_ ∧ at_ ≤ 9223372036854775807) :
    Calls Try.prog 55 #[.agg #[.slice a1 g.terms.length c1, .slice a2 g.nons.length c2, .slice a3 g.prods.length c3], .slice a zs.length c, .int .i64 deep, .int .i64 how, .int .i64 at_] w (OfEnd2 g w) := by
  obtain ⟨d, hd, hdl⟩ : ∃ d : Nat, deep % 6 = d ∧ d < 6 := ⟨(deep % 6).toNat, by omega, by omega⟩
  have HWD := Lib.hid fun W => (within_any deep 6 (by omega) (by omega) W).mono fun e w' ⟨he, hw⟩ => (⟨he.trans (by rw [hd]), hw⟩ : e = Ending.returned (.int .i64 d) ∧ w' = W)
  obtain ⟨hbS, hsS, q0, q1⟩ := twin_alloc w (.cells #[.slice a1 g.terms.length c1, .slice a2 g.nons.length c2, .slice a3 g.prods.length c3] 28) (.cells #[.int .i64 0, .int .i64 0, .slice none 0 0] 79)
  have hn1 := hcg.n1
  have hn8 := hcg.n8
  have HT := Lib.hid fun (sym : Int) (hs : symB g sym = true) (W : World) (hW : Below w.heap.size w W) => ptree_any g hcg a1 a2 a3 c1 c2 c3 d (by omega) sym a c zs W hs (hg.below hW) (hz.below hW) hzc hcm
  have HCG := Lib.hid hcg
  have HB := Lib.hid hbS
  have HQ1 := Lib.hid q1
  have HQ0 := Lib.hid q0
  have hdl' : Hid (d ≤ 5) := Lib.hid (by omega)
  obtain ⟨g0, _⟩ := blk_cell (i := 0) q0 rfl
  obtain ⟨g1, _⟩ := blk_cell (i := 1) q0 rfl
  obtain ⟨g2, _⟩ := blk_cell (i := 2) q0 rfl
  have l0 := heap_lt q0
  have e1 : ((g.nons.length : Int) == 0) = false := by rw [beq_eq_false_iff_ne]; omega
  clear hd hdl hbS q0 q1 hsS hg hcg
  have hh2 := hh
  have hw4 := (wrap_tdiv4 how hhw.1 hhw.2).1
  have HAW := Lib.hid haw
  have HHW := Lib.hid (wrap_tdiv4 how hhw.1 hhw.2).2
  clear hhw haw
  go_enter Try.func55, Try.ntmps55
  go_upto_region 1 with fail
  generalize (w.alloc (.cells #[.slice a1 g.terms.length c1, .slice a2 g.nons.length c2, .slice a3 g.prods.length c3] 28)).alloc (.cells #[.int .i64 0, .int .i64 0, .slice none 0 0] 79) = S at *
  go_upto_if 21 with fail
  go_cut [11, 21] from 22 to 31 (fun v _ wx => ∃ sym : Int, v = .int .i64 sym ∧ Hid (100 ≤ sym ∧ sym < 100 + (g.nons.length : Int)) ∧ Hid (Below S.heap.size S wx))
  case first =>
    cases zs with
    | nil =>
      go_wp2_with fail
      go_meet
      case rel => exact ⟨100, rfl, Lib.hid ⟨by omega, by omega⟩, Lib.hid (Below.refl _ _)⟩
    | cons z zt =>
      obtain ⟨b, off, rfl, hbl, hz0, _⟩ := cells_tail (hz.below HB.out)
      have hwz1 := hwz z List.mem_cons_self
      have hwr := wrap_tdiv7 z hwz1.1 hwz1.2
      obtain ⟨m, hm, hml⟩ : ∃ m : Nat, z.tdiv 7 % (g.nons.length : Int) = m ∧ m < g.nons.length := ⟨(z.tdiv 7 % (g.nons.length : Int)).toNat, by have := Int.emod_nonneg (z.tdiv 7) (show (g.nons.length : Int) ≠ 0 by omega); omega, by have := Int.emod_nonneg (z.tdiv 7) (show (g.nons.length : Int) ≠ 0 by omega); have := Int.emod_lt_of_pos (z.tdiv 7) (show (0 : Int) < g.nons.length by omega); omega⟩
      have HWI := Lib.hid fun W => (within_any (z.tdiv 7) g.nons.length (by omega) (by omega) W).mono fun e w' ⟨he, hw⟩ => (⟨he.trans (by rw [hm]), hw⟩ : e = Ending.returned (.int .i64 m) ∧ w' = W)
      have hsum : IntKind.i64.wrap (100 + (m : Int)) = 100 + m := IntWalk.i64_in _ (by omega)
      have hzl1 : (0 : Int) < (zt.length : Int) + 1 := by omega
      have hzl2 : 0 < zt.length + 1 := by omega
      have HML := Lib.hid hml
      clear hm hml hwz1 hwz
      simp only [List.length_cons]
      go_upto_region 5 with fail
      go_quiet ((go_at_call 19; exact Calls.quiet_of_same (HWI.out _)))
      go_wp2_with fail
      go_meet
      case rel => exact ⟨100 + m, rfl, Lib.hid ⟨by omega, by have := HML.out; omega⟩, Lib.hid (below_drews (Below.refl _ _) _)⟩
  case rest =>
    obtain ⟨sym, rfl, HSY, HBX⟩ := hcut
    rename World => wx
    have hs1 := HSY.out
    have hsb : symB g sym = true := by unfold symB nonB; simp; omega
    have HTS := Lib.hid fun W hW => HT.out sym hsb W hW
    unfold PTreeEnd at HTS
    have HBW := Lib.hid (HB.out.trans (HBX.out.mono HB.out.size))
    have q0 := (HBX.out.block _ (heap_lt HQ0.out)).trans HQ0.out
    have HQ8 := Lib.hid ((HBX.out.block _ (heap_lt HQ1.out)).trans HQ1.out)
    have HWL : Hid (w.heap.size + 1 < wx.heap.size) := Lib.hid (heap_lt HQ8.out)
    clear g0 g1 g2 l0 HT hsb
    have g0 := (blk_cell (i := 0) q0 rfl).1
    have g1 := (blk_cell (i := 1) q0 rfl).1
    have g2 := (blk_cell (i := 2) q0 rfl).1
    have l0 := heap_lt q0
    clear q0
    go_upto_region 6 with fail
    go_cut [12, 13] from 32 to 40 (fun v _ W => ∃ (K : Nat) (tl : Tl), v = .pointer (some ⟨K, 0, none⟩) ∧ Hid (Bx g d sym w W K tl))
    case first =>
      go_region_with (first
        | (go_at_call 19; (with_reducible refine (HWD.out _).mono ?_); rintro e w3 ⟨rfl, hw3⟩; rw [hw3]; clear hw3)
        | (go_at_call 53; (with_reducible refine (HTS.out _ HBW.out.drew).mono ?_); rintro e w4 ⟨hb4, tl, a4, c4, zs4, rfl, hli, hck, hsz, _, _, _⟩; have HWD1 : Hid (w.heap.size + 1 < wx.drew.heap.size) := HWL; have HB4 := Lib.hid (HBW.out.drew.trans (Below.mono hb4 HBW.out.size)); have r8 := (hb4.block (w.heap.size + 1) (show w.heap.size + 1 < wx.heap.size from HWL.out)).trans HQ8.out; obtain ⟨z0, v0⟩ := blk_cell (i := 0) r8 rfl; obtain ⟨z1, v1⟩ := blk_cell (i := 1) r8 rfl; obtain ⟨z2, v2⟩ := blk_cell (i := 2) r8 rfl; have l8 := heap_lt r8; have HL8 := Lib.hid r8; have HLI := Lib.hid hli; clear r8 hli; have hne1 : ¬ w.heap.size + 1 = w4.heap.size := (by omega); have hne2 : ¬ w4.heap.size = w.heap.size + 1 := (by omega))
        | (go_at_call 53; (with_reducible refine (HTS.out _ (HBW.out.alloc HBW.out.size (.cells #[.int .i64 0, .int .i64 0, .slice none 0 0] 79)).drew).mono ?_); rintro e w4 ⟨hb4, tl, a4, c4, zs4, rfl, hli, hck, hsz, _, _, _⟩; have HKN : Hid (wx.heap.size < (wx.alloc (.cells #[.int .i64 0, .int .i64 0, .slice none 0 0] 79)).drew.heap.size) := Lib.hid (by show wx.heap.size < (wx.alloc (.cells #[.int .i64 0, .int .i64 0, .slice none 0 0] 79)).heap.size; simp); have HB4 := Lib.hid ((HBW.out.alloc HBW.out.size (.cells #[.int .i64 0, .int .i64 0, .slice none 0 0] 79)).drew.trans (Below.mono hb4 (HBW.out.alloc HBW.out.size (.cells #[.int .i64 0, .int .i64 0, .slice none 0 0] 79)).size)); have r12 := (hb4.block wx.heap.size (by simp)).trans (heap_alloc_new wx (.cells #[.int .i64 0, .int .i64 0, .slice none 0 0] 79)); obtain ⟨y0, x0⟩ := blk_cell (i := 0) r12 rfl; obtain ⟨y1, x1⟩ := blk_cell (i := 1) r12 rfl; obtain ⟨y2, x2⟩ := blk_cell (i := 2) r12 rfl; have l12 := heap_lt r12; have HR12 := Lib.hid r12; clear r12; have r8 := (hb4.block (w.heap.size + 1) (show w.heap.size + 1 < (wx.alloc (.cells #[.int .i64 0, .int .i64 0, .slice none 0 0] 79)).heap.size by have := HWL.out; simp; omega)).trans ((Below.heap_alloc wx (.cells #[.int .i64 0, .int .i64 0, .slice none 0 0] 79) (w.heap.size + 1) HWL.out).trans HQ8.out); obtain ⟨z0, v0⟩ := blk_cell (i := 0) r8 rfl; obtain ⟨z1, v1⟩ := blk_cell (i := 1) r8 rfl; obtain ⟨z2, v2⟩ := blk_cell (i := 2) r8 rfl; have l8 := heap_lt r8; have HL8 := Lib.hid r8; have HLI := Lib.hid hli; clear r8 hli; have hne1 : ¬ w.heap.size + 1 = wx.heap.size := (by have := HWL.out; omega); have hne2 : ¬ wx.heap.size = w.heap.size + 1 := (by have := HWL.out; omega)))
      all_goals
        have HCK := Lib.hid hck
        have HSZ := Lib.hid hsz
        clear hck hsz
        go_wp2
        go_meet
        case rel =>
          with_reducible first
            | exact ⟨_, tl, rfl, Lib.hid (bx1 HWL.out HB4.out HL8.out HLI.out HCK.out HSZ.out)⟩
            | exact ⟨_, tl, rfl, Lib.hid (bx1 HWD1.out HB4.out HL8.out HLI.out HCK.out HSZ.out)⟩
            | exact ⟨_, tl, rfl, Lib.hid (bx2 HWL.out HKN.out HB4.out HL8.out HR12.out HLI.out HCK.out HSZ.out)⟩
    case rest =>
      obtain ⟨K, tl, rfl, HX⟩ := hcut
      rename World => W
      have hck := HX.out.c
      have HSP := Lib.hid (spoilt_any tl _ (how.tdiv 4) at_ W HX.out.l (check_tinyT HCG.out _ _ hck) (Nat.le_trans HX.out.s (bnd_le hdl'.out)) HAW.out)
      unfold SpEnd at HSP
      obtain ⟨t0, x0⟩ := blk_cell (i := 0) HX.out.t rfl
      obtain ⟨t1, x1⟩ := blk_cell (i := 1) HX.out.t rfl
      obtain ⟨t2, x2⟩ := blk_cell (i := 2) HX.out.t rfl
      have lK := heap_lt HX.out.t
      clear hck g0 g1 g2 l0
      have hne1 : ¬ w.heap.size + 1 = K := by have := HX.out.k; omega
      have hne2 : ¬ K = w.heap.size + 1 := by have := HX.out.k; omega
      go_upto_region 9 with (go_at_call 105; (with_reducible refine HSP.out.mono ?_); rintro e w6 ⟨hb6, t6, rfl, hl6, hm6, hs6⟩; have r6 := (hb6.block _ (heap_lt HX.out.r)).trans HX.out.r; have k6 := (hb6.block _ (heap_lt HX.out.t)).trans HX.out.t; obtain ⟨z60, v60⟩ := blk_cell (i := 0) r6 rfl; obtain ⟨z61, v61⟩ := blk_cell (i := 1) r6 rfl; obtain ⟨z62, v62⟩ := blk_cell (i := 2) r6 rfl; obtain ⟨t60, x60⟩ := blk_cell (i := 0) k6 rfl; obtain ⟨t61, x61⟩ := blk_cell (i := 1) k6 rfl; obtain ⟨t62, x62⟩ := blk_cell (i := 2) k6 rfl; have l6 := heap_lt r6; have l7 := heap_lt k6; have HR6 := Lib.hid r6; have HB6 := Lib.hid hb6; have HL6 := Lib.hid hl6; have HM6 := Lib.hid hm6; have HS6 := Lib.hid hs6; clear r6 k6 hb6 hl6 hm6 hs6)
      clear t0 x0 t1 x1 t2 x2 lK
      go_wp2
      have hl := HL6.out.weak (Q := fun b => w.heap.size ≤ b ∧ b ≠ w.heap.size + 1 ∧ b ≠ K) (fun b h1 h2 => by
        have h3 := heap_lt HX.out.t
        have h4 := HX.out.k
        rcases h1 with h | h
        · exact h
        · omega)
      have hsz : sizeT t6.plain ≤ 9332 := by have h1 := HS6.out; have h2 := HX.out.s; have h3 := bnd_le hdl'.out; omega
      (with_reducible refine of_end3 HX.out.k (HX.out.b.trans (HB6.out.mono HX.out.b.size)) HR6.out hl HM6.out hsz _ ?_ ?_) <;> rfl

/-- Whatever is spoilt. -/
theorem treeOf2_any (g : Gr) (hcg : CheckG g) (a1 a2 a3 : Option Addr) (c1 c2 c3 : Nat) (a : Option Addr) (c : Nat) (zs : List Int) (deep how at_ : Int) (w : World) (hg : GramAt w (.agg #[.slice a1 g.terms.length c1, .slice a2 g.nons.length c2, .slice a3 g.prods.length c3]) g) (hz : Cells w a (nums zs)) (hzc : zs.length ≤ c) (hcm : c ≤ 140737488355328) (hwz : ∀ z ∈ zs, -9223372036854775808 ≤ z ∧ z ≤ 9223372036854775807) (hhw : -9223372036854775808 ≤ how ∧ how ≤ 9223372036854775807) (haw : -9223372036854775808 ≤ at_ ∧ at_ ≤ 9223372036854775807) :
    Calls Try.prog 55 #[.agg #[.slice a1 g.terms.length c1, .slice a2 g.nons.length c2, .slice a3 g.prods.length c3], .slice a zs.length c, .int .i64 deep, .int .i64 how, .int .i64 at_] w (OfEnd2 g w) := by
  cases h : (how.tmod 4 == 3) with
  | false => exact (treeOf_any g hcg a1 a2 a3 c1 c2 c3 a c zs deep how at_ w hg hz hzc hcm hwz h).mono fun e w' ⟨hb, tl, he, hl, hck, hs, _⟩ => ⟨hb, tl, he, hl, tiny_mild _ (check_tinyT hcg _ _ hck), Nat.le_succ_of_le hs⟩
  | true => exact treeOf_sp g hcg a1 a2 a3 c1 c2 c3 a c zs deep how at_ w hg hz hzc hcm hwz h hhw haw

/-! ## TreeK -/

theorem at_shift (prod dot place d : Int) (t : Tr) : ∀ fr, atT prod dot place t fr = atT prod dot (place - d) t (fr - d) := by
  induction t using Tr.ind with
  | h s p ks ih =>
    intro fr
    have aux : ∀ l : List Tr, (∀ t ∈ l, ∀ fr, atT prod dot place t fr = atT prod dot (place - d) t (fr - d)) → ∀ fr, atK prod dot place l fr = atK prod dot (place - d) l (fr - d) := by
      intro l
      induction l with
      | nil => intro _ _; rfl
      | cons t l ih2 =>
        intro h fr
        rw [atK, atK, h t List.mem_cons_self fr, ih2 (fun t ht => h t (List.mem_cons_of_mem _ ht)) (fr + (leavesT t).length)]
        rw [show fr + ((leavesT t).length : Int) - d = fr - d + ((leavesT t).length : Int) by omega]
    rw [atT, atT, aux ks ih fr]
    have e : atHere prod dot place p ks fr = atHere prod dot (place - d) p ks (fr - d) := by
      unfold atHere
      congr 2
      rw [Bool.eq_iff_iff, decide_eq_true_iff, decide_eq_true_iff]
      omega
    rw [e]
theorem at_from (prod dot place : Int) (t : Tr) : ∀ fr, atT prod dot place t fr = true → fr ≤ place := by
  induction t using Tr.ind with
  | h s p ks ih =>
    intro fr h
    have aux : ∀ l : List Tr, (∀ t ∈ l, ∀ fr, atT prod dot place t fr = true → fr ≤ place) → ∀ fr, atK prod dot place l fr = true → fr ≤ place := by
      intro l
      induction l with
      | nil => intro _ _ h; simp [atK] at h
      | cons t l ih2 =>
        intro hi fr h
        rw [atK, Bool.or_eq_true] at h
        rcases h with h | h
        · exact hi t List.mem_cons_self fr h
        · have := ih2 (fun t ht => hi t (List.mem_cons_of_mem _ ht)) _ h
          omega
    rw [atT] at h
    split at h
    · cases h
    · rw [Bool.or_eq_true] at h
      rcases h with h | h
      · unfold atHere at h
        simp only [Bool.and_eq_true, decide_eq_true_eq] at h
        omega
      · exact aux ks ih fr h
/-- What the law asks of one kid more. -/
def foundB (prod dot place : Int) (n : Nat) (t : Tr) : Bool := decide ((n : Int) ≤ place) && atT prod dot (place - n) t 0
theorem found_at (prod dot place : Int) (n : Nat) (t : Tr) : foundB prod dot place n t = atT prod dot place t n := by
  unfold foundB
  have h := at_shift prod dot place n t n
  rw [Int.sub_self] at h
  rw [h]
  by_cases hn : (n : Int) ≤ place
  · simp [hn]
  · have : atT prod dot (place - n) t 0 = false := by
      rw [Bool.eq_false_iff]
      intro e
      have := at_from _ _ _ t 0 e
      omega
    rw [this]; simp
theorem atK_snoc (prod dot place : Int) : ∀ (l : List Tr) (t : Tr) (fr : Int), atK prod dot place (l ++ [t]) fr = (atK prod dot place l fr || atT prod dot place t (fr + ((leavesK l).length : Int)))
  | [], t, fr => by simp [atK, leavesK]
  | x :: l, t, fr => by
    rw [List.cons_append, atK, atK, atK_snoc prod dot place l t, leavesK, Bool.or_assoc]
    congr 3
    rw [List.length_append]
    push_cast
    omega
/-- The law's found, one kid further. -/
theorem found_step (prod dot place : Int) (ks : List Tr) (j : Nat) {t : Tr} (h : ks[j]? = some t) : atK prod dot place (ks.take (j + 1)) 0 = (atK prod dot place (ks.take j) 0 || foundB prod dot place (leavesK (ks.take j)).length t) := by
  rw [List.take_add_one, h, Option.toList_some, atK_snoc, found_at, Int.zero_add]
theorem at_found (prod dot place s p : Int) (ks : List Tr) (hp : p ≠ -1) (hf : atK prod dot place ks 0 = true) : atT prod dot place (.mk s p ks) 0 = true := by
  rw [atT, if_neg hp, hf, Bool.or_true]
theorem at_other (prod dot place s p : Int) (ks : List Tr) (hp : p ≠ -1) (hn : p ≠ prod) : atT prod dot place (.mk s p ks) 0 = atK prod dot place ks 0 := by
  rw [atT, if_neg hp]
  have : atHere prod dot place p ks 0 = false := by unfold atHere; simp [hn]
  rw [this, Bool.false_or]
theorem leavesK_stepK (ks : List Tr) (j : Nat) {t : Tr} (h : ks[j]? = some t) : leavesK (ks.take (j + 1)) = leavesK (ks.take j) ++ leavesT t := by
  rw [List.take_add_one, h, leavesK_app]
  simp [leavesK]

/-! ## TAt -/

/-- A raw grammar of which nothing is spoilt. -/
def RawX.calm (x : RawX) : RawX := ⟨x.pick, x.terms, x.nons, 0, x.rows, x.ra, x.rc, x.word⟩
theorem calm_at {w : World} {x : RawX} (h : RawAt w x) : RawAt w x.calm := ⟨h.cells, h.each, h.wide⟩
theorem calm_wide {x : RawX} (h : RawWide x) : RawWide x.calm := ⟨h.1, h.2.1, h.2.2.1, ⟨by show (-9223372036854775808 : Int) ≤ 0; omega, by show (0 : Int) ≤ 9223372036854775807; omega⟩, h.2.2.2.2⟩
theorem check_shortN {g : Gr} (h : CheckG g) : ShortN g := ⟨fun x hx => by have := kind_len (x := x) (by rw [h.tk x hx]; decide); omega, fun x hx => by have := kind_len (x := x) (by rw [h.nk x hx]; decide); omega⟩

end Go.Proofs.Ytjlohjkhnjemaaa
