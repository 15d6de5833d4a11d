/- Trees made of numbers: exegeteplay.Tree: walked. -/
import Derived.Test.YtgfkkbpnphbdgaaTreeQ
import Derived.Deep.QuietTactic
import Derived.BigQuiet
set_option linter.unusedVariables false
namespace Go.Proofs.Ytgfkkbpnphbdgaa
open Go.RowKit
open Doc

theorem results_ct {fn : Func} {p0 p1 : Tmp} {t0 : TypeId} (h : fn.results = #[.cell p0 t0, .tmp p1]) {tmps : Array Value} {P : Program} {w : World} {a : Addr} {v : Value} (h0 : tmps.getD p0 undef = .pointer (some a)) (l0 : (loadVar t0 a).run P w = .ok v w) :
    (results fn tmps).run P w = .ok (.tuple #[v, tmps.getD p1 undef]) w := by
  simp only [results, h]
  simp at h0
  simp [Result.andThen, h0, l0, asAddr]

/-- How Tree ends. -/
def PTreeEnd (g : Gr) (d : Nat) (sym : Int) (a : Option Addr) (zs : List Int) (c : Nat) (w : World) (e : Ending) (w' : World) : Prop :=
  Below w.heap.size w w' ∧ ∃ (tl : Tl) (a' : Option Addr) (c' : Nat) (zs' : List Int), e = .returned (.tuple #[.agg #[.int .i64 tl.sym, .int .i64 tl.prod, .slice tl.a tl.kids.length tl.c], .slice a' zs'.length c']) ∧ Lies (fun b => w.heap.size ≤ b) w' tl ∧ checkT g tl.plain sym = true ∧ sizeT tl.plain ≤ bndT d ∧ (∀ W0, Cells W0 a (nums zs) → Cells W0 a' (nums zs')) ∧ zs'.length ≤ c' ∧ c' ≤ c

theorem ptree_leaf {g : Gr} {d : Nat} {sym : Int} {c : Nat} {w w1 : World} {a a' : Option Addr} {c' : Nat} {zs zs' : List Int} (hs : symB g sym = true) (hb : Below w.heap.size w w1) (hc : ∀ W0, Cells W0 a (nums zs) → Cells W0 a' (nums zs')) (h1 : zs'.length ≤ c') (h2 : c' ≤ c) :
    PTreeEnd g d sym a zs c w (.returned (.tuple #[.agg #[.int .i64 sym, .int .i64 (-1), .slice none 0 0], .slice a' zs'.length c'])) w1 :=
  ⟨hb, Tl.mk sym (-1) none 0 [], a', c', zs', rfl, Lies.leaf _ _ _ _ _ _, by rw [Tl.plain_mk]; exact check_leaf hs, by rw [Tl.plain_mk]; exact bnd_pos d, hc, h1, h2⟩

theorem cells_tail {w : World} {a : Option Addr} {z : Int} {zt : List Int} (h : Cells w a (nums (z :: zt))) : ∃ b off, a = some ⟨b, off, none⟩ ∧ b < w.heap.size ∧ w.cell? ⟨b, off, none⟩ = some (.int .i64 z) ∧ Cells w (some ⟨b, off + 1, none⟩) (nums zt) := by
  obtain ⟨b, off, ha, hb, hc⟩ := h.get (by simp [nums])
  refine ⟨b, off, ha, hb, by simpa [nums] using hc 0 (.int .i64 z) (by simp [nums]), .inr ⟨b, off + 1, rfl, hb, fun j u hj => ?_⟩⟩
  have := hc (j + 1) u (by simpa [nums] using hj)
  rwa [show off + 1 + j = off + (j + 1) by omega]

theorem cells_tail' {w : World} {b off : Nat} {z : Int} {zt : List Int} (h : Cells w (some ⟨b, off, none⟩) (nums (z :: zt))) : Cells w (some ⟨b, off + 1, none⟩) (nums zt) := by
  obtain ⟨b', off', e, _, _, h2⟩ := cells_tail h
  cases e
  exact h2

set_option maxRecDepth 100000 in
set_option maxHeartbeats 8000000 in
theorem ptree_leafy (g : Gr) (v : Value) (a1 a2 a3 : Option Addr) (c1 c2 c3 : Nat) (d : Nat) (hd5 : d ≤ 5) (sym : Int) (a : Option Addr) (c : Nat) (zs : List Int) (w : World) (hs : symB g sym = true) (hz : Cells w a (nums zs)) (hzc : zs.length ≤ c) (hcm : c ≤ 140737488355328) (hleaf : sym < 100 ∨ d = 0 ∨ zs = [] ∨ ∃ z zt, zs = z :: zt ∧ z.tmod 6 = 5) :
    Calls Try.prog 27 #[.agg #[.slice a1 g.terms.length c1, .slice a2 g.nons.length c2, .slice a3 g.prods.length c3], .int .i64 sym, .slice a zs.length c, .int .i64 d] w (PTreeEnd g d sym a zs c w) := by
  obtain ⟨hbS, hsS, q0, q1⟩ := twin_alloc w (.cells #[.slice a1 g.terms.length c1, .slice a2 g.nons.length c2, .slice a3 g.prods.length c3] 25) (.cells #[.int .i64 0, .int .i64 0, .slice none 0 0] 39)
  have HB := Lib.hid hbS
  have HQ1 := Lib.hid q1
  have HS := Lib.hid hs
  obtain ⟨z0, v0⟩ := blk_cell (i := 0) q1 rfl
  obtain ⟨z1, v1⟩ := blk_cell (i := 1) q1 rfl
  obtain ⟨z2, v2⟩ := blk_cell (i := 2) q1 rfl
  have l1 := heap_lt q1
  have HBF : Hid (∀ (u0 u1 u2 : Value), Below w.heap.size w (((((w.alloc (.cells #[.slice a1 g.terms.length c1, .slice a2 g.nons.length c2, .slice a3 g.prods.length c3] 25)).alloc (.cells #[.int .i64 0, .int .i64 0, .slice none 0 0] 39)).setCell ⟨w.heap.size + 1, 0, none⟩ u0).setCell ⟨w.heap.size + 1, 1, none⟩ u1).setCell ⟨w.heap.size + 1, 2, none⟩ u2).drew) := Lib.hid fun u0 u1 u2 => (store3_below hbS (Nat.le_succ _) u0 u1 u2).drew
  have HMX := Lib.hid hcm
  cases zs with
  | nil =>
    have hm0 : (min 1 0 : Int) = 0 := by omega
    have hd0 : d = 0 ∨ ((d : Int) == 0) = false := by
      by_cases h : d = 0
      · exact .inl h
      · exact .inr (by rw [beq_eq_false_iff_ne]; omega)
    clear hbS q0 q1 hz hs hsS hleaf
    go_enter Try.func27, Try.ntmps27
    go_upto_region 1 with fail
    generalize (w.alloc (.cells #[.slice a1 g.terms.length c1, .slice a2 g.nons.length c2, .slice a3 g.prods.length c3] 25)).alloc (.cells #[.int .i64 0, .int .i64 0, .slice none 0 0] 39) = S at *
    rcases hd0 with rfl | hd0
    all_goals
      by_cases h100 : sym < 100
      all_goals
        go_upto_region 2 with fail
        go_region
        all_goals
          go_wp2
          refine bodyPost_ret (results_ct (p0 := 8) (p1 := 9) (t0 := 39) rfl rfl (run_loadVar_row _ (w.heap.size + 1) 39 39 _ (0, 0) _ (store3 (w := S) HQ1.out _ _ _) Try.underlying39 rfl (by kernel_rfl))) rfl ?_
          exact ptree_leaf (zs' := []) HS.out (HBF.out _ _ _) (fun _ _ => .inl rfl) (by simp) (by omega)
  | cons z zt =>
    obtain ⟨b, off, rfl, hbl, hz0, hzt⟩ := cells_tail hz
    have HZT := Lib.hid hzt
    have x0 := (hbS.cell (p := ⟨b, off, none⟩) hbl).trans hz0
    have lb : b < ((w.alloc (.cells #[.slice a1 g.terms.length c1, .slice a2 g.nons.length c2, .slice a3 g.prods.length c3] 25)).alloc (.cells #[.int .i64 0, .int .i64 0, .slice none 0 0] 39)).heap.size := Nat.lt_of_lt_of_le hbl hbS.size
    have hm1 : min 1 ((zt.length : Int) + 1) = 1 := by omega
    have hm2 : (1 : Int) ≤ (zt.length : Int) + 1 := by omega
    have hzl : zt.length + 1 ≤ c := by simpa using hzc
    have hm3 : (zt.length : Int) + 1 ≤ c := by omega
    have hm4 : (((zt.length : Int) + 1) == 0) = false := by rw [beq_eq_false_iff_ne]; omega
    have hm5 : (0 : Int) < (zt.length : Int) + 1 := by omega
    have hm6 : (1 : Int) ≤ c := by omega
    have hcase : sym < 100 ∨ (¬ sym < 100 ∧ d = 0) ∨ (¬ sym < 100 ∧ ((d : Int) == 0) = false ∧ (z.tmod 6 == 5) = true) := by
      by_cases h1 : sym < 100
      · exact .inl h1
      · by_cases h2 : d = 0
        · exact .inr (.inl ⟨h1, h2⟩)
        · refine .inr (.inr ⟨h1, by rw [beq_eq_false_iff_ne]; omega, ?_⟩)
          rcases hleaf with h | h | h | ⟨_, _, e, h⟩
          · exact absurd h h1
          · exact absurd h h2
          · cases h
          · cases e; rw [beq_iff_eq]; exact h
    have HC1 : Hid (c = 1 → zt = []) := Lib.hid fun h => List.eq_nil_of_length_eq_zero (by omega)
    have HZL := Lib.hid hzl
    clear hbS q0 q1 hz hs hsS hleaf hz0 hzt hbl hzc hzl
    simp only [List.length_cons]
    go_enter Try.func27, Try.ntmps27
    go_upto_region 1 with fail
    generalize (w.alloc (.cells #[.slice a1 g.terms.length c1, .slice a2 g.nons.length c2, .slice a3 g.prods.length c3] 25)).alloc (.cells #[.int .i64 0, .int .i64 0, .slice none 0 0] 39) = S at *
    rcases hcase with h100 | ⟨h100, rfl⟩ | ⟨h100, hd0, ht⟩
    all_goals
      go_upto_region 2 with fail
      go_region
      all_goals
        go_wp2
        all_goals
          refine bodyPost_ret (results_ct (p0 := 8) (p1 := 9) (t0 := 39) rfl rfl (run_loadVar_row _ (w.heap.size + 1) 39 39 _ (0, 0) _ (store3 (w := S) HQ1.out _ _ _) Try.underlying39 rfl (by kernel_rfl))) rfl ?_
          first
            | exact ptree_leaf (zs' := zt) HS.out (HBF.out _ _ _) (fun _ h => cells_tail' h) (by have := HZL.out; omega) (by omega)
            | (obtain rfl := HC1.out (by omega); exact ptree_leaf (zs' := []) HS.out (HBF.out _ _ _) (fun _ _ => .inl rfl) (by simp) (by omega))

theorem check_root {g : Gr} {t : Tl} {root : Int} (h : checkT g t.plain root = true) : t.sym = root := by
  obtain ⟨s, p, a, c, ks⟩ := t
  rw [Tl.plain_mk] at h
  exact (check_cases h).1
theorem kd_round {T K : Nat} {sym p : Int} {w wr w5 : World} {kv rv : Value} {cnt : Nat} {xs : List Value} {ks : List Tl} {tk : Tl} (h : Kd T sym p w wr kv rv cnt xs ks) (hK : wr.heap.size = K) {o : Obj} (hb : Below (wr.alloc o).heap.size (wr.alloc o) w5) (hl : Lies (fun b => (wr.alloc o).heap.size ≤ b) w5 tk) (u0 u1 u2 : Value) :
    Kd T sym p w (((w5.setCell ⟨K, 0, none⟩ u0).setCell ⟨K, 1, none⟩ u1).setCell ⟨K, 2, none⟩ u2) kv rv cnt xs (ks ++ [tk]) := by
  subst hK
  have h1 : Below wr.heap.size wr w5 := (box_belowT wr o).trans (hb.mono (box_belowT wr o).size)
  have hbw : Below wr.heap.size wr (((w5.setCell ⟨wr.heap.size, 0, none⟩ u0).setCell ⟨wr.heap.size, 1, none⟩ u1).setCell ⟨wr.heap.size, 2, none⟩ u2) := store3_below h1 (Nat.le_refl _) _ _ _
  refine h.add (h.below hbw) ?_
  have hs : (wr.alloc o).heap.size = wr.heap.size + 1 := by simp
  rw [hs] at hl
  exact hl.keep (by simp [World.setCell]) (fun b hb' _ => store3_far _ _ _ b (by omega)) (fun b hb' _ => by omega)

set_option maxRecDepth 100000 in
set_option maxHeartbeats 8000000 in
theorem ptree_any (g : Gr) (hcg : CheckG g) (a1 a2 a3 : Option Addr) (c1 c2 c3 : Nat) : ∀ d : Nat, d ≤ 5 → ∀ (sym : Int) (a : Option Addr) (c : Nat) (zs : List Int) (w : World), symB g sym = true → GramAt w (.agg #[.slice a1 g.terms.length c1, .slice a2 g.nons.length c2, .slice a3 g.prods.length c3]) g → Cells w a (nums zs) → zs.length ≤ c → c ≤ 140737488355328 →
    Calls Try.prog 27 #[.agg #[.slice a1 g.terms.length c1, .slice a2 g.nons.length c2, .slice a3 g.prods.length c3], .int .i64 sym, .slice a zs.length c, .int .i64 d] w (PTreeEnd g d sym a zs c w) := by
  intro d
  induction d with
  | zero => intro hd sym a c zs w hs hg hz hzc hcm; exact ptree_leafy g undef a1 a2 a3 c1 c2 c3 0 (by omega) sym a c zs w hs hz hzc hcm (.inr (.inl rfl))
  | succ d ih =>
    intro hd sym a c zs w hs hg hz hzc hcm
    by_cases hleaf : sym < 100 ∨ d + 1 = 0 ∨ zs = [] ∨ ∃ z zt, zs = z :: zt ∧ z.tmod 6 = 5
    · exact ptree_leafy g undef a1 a2 a3 c1 c2 c3 (d + 1) hd sym a c zs w hs hz hzc hcm hleaf
    · cases zs with
      | nil => exact absurd (.inr (.inr (.inl rfl))) hleaf
      | cons z zt =>
        have h100 : ¬ sym < 100 := fun h => hleaf (.inl h)
        have ht6 : (z.tmod 6 == 5) = false := beq_eq_false_iff_ne.2 fun h => hleaf (.inr (.inr (.inr ⟨z, zt, rfl, h⟩)))
        have HIH := Lib.hid (ih (by omega))
        obtain ⟨_, _, _, _, _, _, ls, heq, hp, k1, k2, k3, k4, k5, k6, k7⟩ := hg
        have h2v : (.slice a3 g.prods.length c3 : Value) = _ := congrArg (fun v => match v with | .agg x => x.getD 2 undef | _ => undef) heq
        have h3a := (Value.slice.inj h2v).1
        rw [← h3a] at k3
        have HG := Lib.hid (⟨_, _, _, _, _, _, ls, heq, hp, k1, k2, by rw [← h3a]; exact k3, k4, k5, k6, k7⟩ : GramAt w (.agg #[.slice a1 g.terms.length c1, .slice a2 g.nons.length c2, .slice a3 g.prods.length c3]) g)
        have hpl : ls.length = g.prods.length := by rw [← hp, List.length_map]
        obtain ⟨i0, hi0, hz0, hz1, hz2⟩ := info_of infoTq
        obtain ⟨b, off, rfl, hbl, hzc0, hzt⟩ := cells_tail hz
        obtain ⟨hbS, hsS, q0, q1⟩ := twin_alloc w (.cells #[.slice a1 g.terms.length c1, .slice a2 g.nons.length c2, .slice a3 g.prods.length c3] 25) (.cells #[.int .i64 0, .int .i64 0, .slice none 0 0] 39)
        have hnon : nonB g sym = true := by
          unfold symB at hs
          have h8 := hcg.t8
          rcases Bool.or_eq_true _ _ ▸ hs with h | h
          · simp at h; omega
          · exact h
        have hL : 0 < (idxF sym g.prods 0).length := by
          unfold nonB at hnon
          simp at hnon
          obtain ⟨q, hq, hq1⟩ := hcg.some_ (sym - 100).toNat (by omega)
          obtain ⟨jj, hj, rfl⟩ := List.mem_iff_getElem.1 hq
          exact List.length_pos_of_mem ((idxF_mem sym g.prods 0 (jj : Int)).2 ⟨jj, g.prods[jj], List.getElem?_eq_getElem hj, by rw [hq1]; omega, by simp⟩)
        have hLl := idxF_len sym g.prods 0
        have hp24 := hcg.p24
        have HB := Lib.hid hbS
        have HQ0 := Lib.hid q0
        have HQ1 := Lib.hid q1
        have HZW := Lib.hid hz
        have HZ0 := Lib.hid hzc0
        have HP := Lib.hid hp
        have HK3 := Lib.hid k3
        have HK4 := Lib.hid k4
        have HCG := Lib.hid hcg
        have HLP := Lib.hid hL
        have hll : ls.length ≤ 24 := by omega
        have HPL := Lib.hid hpl
        have hzl : zt.length + 1 ≤ c := by simpa using hzc
        have HIX : Hid (idxF sym ((ls.take ls.length).map Lay.plain) 0 = idxF sym g.prods 0) := Lib.hid (by rw [List.take_length, hp])
        have hd0 : (((d : Int) + 1) == 0) = false := by rw [beq_eq_false_iff_ne]; omega
        have hm4 : (((zt.length : Int) + 1) == 0) = false := by rw [beq_eq_false_iff_ne]; omega
        have hm5 : (0 : Int) < (zt.length : Int) + 1 := by omega
        have hdd : (d : Int) + 1 - 1 = d := by omega
        have hbS2 : b < ((w.alloc (.cells #[.slice a1 g.terms.length c1, .slice a2 g.nons.length c2, .slice a3 g.prods.length c3] 25)).alloc (.cells #[.int .i64 0, .int .i64 0, .slice none 0 0] 39)).heap.size := Nat.lt_of_lt_of_le hbl hbS.size
        have HCLZ : Hid (∀ W, Below w.heap.size w W → W.cell? ⟨b, off, none⟩ = some (.int .i64 z) ∧ b < W.heap.size) := Lib.hid fun W hW => ⟨(hW.cell (p := ⟨b, off, none⟩) hbl).trans hzc0, Nat.lt_of_lt_of_le hbl hW.size⟩
        clear hs hz hzc hleaf heq hp k1 k2 k3 k4 k5 k6 k7 h2v h3a hbS q0 q1 hsS hnon hL hLl hp24 hcg hzt hzc0 hbl hpl ih
        simp only [List.length_cons]
        go_enter Try.func27, Try.ntmps27
        go_upto_region 1 with fail
        generalize (w.alloc (.cells #[.slice a1 g.terms.length c1, .slice a2 g.nons.length c2, .slice a3 g.prods.length c3] 25)).alloc (.cells #[.int .i64 0, .int .i64 0, .slice none 0 0] 39) = S at *
        have HCL : Hid (∀ W, Below S.heap.size S W → (W.cell? ⟨w.heap.size, 0, none⟩ = some (.slice a1 g.terms.length c1) ∧ W.cell? ⟨w.heap.size, 1, none⟩ = some (.slice a2 g.nons.length c2) ∧ W.cell? ⟨w.heap.size, 2, none⟩ = some (.slice a3 g.prods.length c3)) ∧ w.heap.size < W.heap.size) := Lib.hid fun W hW => by
          have z0 := (hW.block _ (heap_lt HQ0.out)).trans HQ0.out
          exact ⟨⟨(blk_cell z0 rfl).1, (blk_cell z0 rfl).1, (blk_cell z0 rfl).1⟩, heap_lt z0⟩
        obtain ⟨⟨g0, g1, g2⟩, lg⟩ := HCL.out S (Below.refl _ _)
        obtain ⟨x0, lx⟩ := HCLZ.out S HB.out
        rw [← HPL.out] at *
        go_wp2
        clear g0 g1 g2 lg x0 lx
        go_loopw [10, 45] (fun psv i wr => ∃ (k : Nat) (a' : Option Addr) (c' : Nat), k ≤ ls.length ∧ i = .int .i64 k ∧ psv = .slice a' (idxF sym ((ls.take k).map Lay.plain) 0).length c' ∧ Hid (Below S.heap.size S wr) ∧ Hid (wr.ownsRow S.heap.size 3 1 (.slice a' (idxF sym ((ls.take k).map Lay.plain) 0).length c') (idxF sym ((ls.take k).map Lay.plain) 0).length (nums (idxF sym ((ls.take k).map Lay.plain) 0)))) (fun _ i _ => ls.length - (intOf i).toNat)
        case atStart => exact ⟨0, none, 0, Nat.zero_le _, rfl, by simp [idxF], Lib.hid (Below.refl _ _), Lib.hid (by simpa [idxF, nums] using World.ownsRow_nil _ _ _ _)⟩
        case round =>
          obtain ⟨k, a', c', hk, rfl, rfl, HBE, HOW⟩ := hrel
          have hLk := idxF_len sym ((ls.take k).map Lay.plain) 0
          rw [List.length_map, List.length_take] at hLk
          have hLk2 : (idxF sym ((ls.take k).map Lay.plain) 0).length ≤ 24 := by omega
          by_cases hlt : k < ls.length
          · obtain ⟨q, hq⟩ : ∃ q, ls[k]? = some q := ⟨_, List.getElem?_eq_getElem hlt⟩
            obtain ⟨b3, o3, rfl, hb3, hc3⟩ := ((HK3.out.below HB.out).below HBE.out).get (by intro e; have := (lays_at ls k q hq).1; rw [e] at this; simp at this)
            have y0 := hc3 _ _ (lays_at ls k q hq).1
            have y1 := hc3 _ _ (lays_at ls k q hq).2
            rw [← Nat.add_assoc] at y1
            have e1 : (k : Int) < ls.length := by omega
            have HST := Lib.hid (idxF_step sym ls k hq)
            obtain ⟨hbA, _, _⟩ := one_alloc wr (.cells #[.int .i64 q.left, .slice q.addr q.right.length q.cap] 63)
            have HBA := Lib.hid (HBE.out.trans (hbA.mono HBE.out.size))
            have HOA := Lib.hid (own_same HOW.out (fun g _ hg => hbA.block g hg))
            have hSA : S.heap.size ≤ (wr.alloc (.cells #[.int .i64 q.left, .slice q.addr q.right.length q.cap] 63)).heap.size := HBA.out.size
            obtain ⟨ql, qr, qa, qc⟩ := q
            clear hc3 hq hbA hLk HOW HBE
            generalize idxF sym ((ls.take k).map Lay.plain) 0 = L at *
            simp only at *
            by_cases hql : ql = sym
            · subst hql
              have HST2 := Lib.hid (HST.out.trans (by rw [if_pos rfl]))
              clear HST
              go_wp2_with (at_builtin; refine wpList_app rfl (.tmp 54) (.tmp 56) rfl S.heap.size a' L.length c' L rfl (own_same HOA.out (fun g _ hg => (box_belowT _ _).block g hg)) (Nat.le_trans hSA (box_belowT _ _).size) (some ⟨wr.heap.size + 1, 0, none⟩) [(k : Int)] 1 rfl (cells_new2 wr _ #[.int .i64 k] 3) (by simp only [List.length_cons, List.length_nil]; omega) ?_; intro va vc w5 ho5 hg5)
              have hb5 := (HBA.out.alloc HBA.out.size (.cells #[.int .i64 k] 3)).grown hg5 (Nat.le_trans hSA (box_belowT _ _).size) (fun x hx => (own_block HOA.out hx).1)
              exact ⟨⟨k + 1, va, vc, by omega, by go_num, by rw [HST2.out]; simp, Lib.hid hb5, Lib.hid (by rw [HST2.out]; simpa using ho5)⟩, by simp [intOf]; omega⟩
            · have hqb : (ql == sym) = false := beq_eq_false_iff_ne.2 hql
              have HST2 := Lib.hid (HST.out.trans (by rw [if_neg hql, List.append_nil]))
              clear HST hql
              go_wp2
              exact ⟨⟨k + 1, a', c', by omega, by go_num, by rw [HST2.out], HBA, Lib.hid (by rw [HST2.out]; exact HOA.out)⟩, by simp [intOf]; omega⟩
          · have e1 : ¬ (k : Int) < ls.length := by omega
            obtain rfl : k = ls.length := by omega
            rw [HIX.out] at *
            generalize hLL : idxF sym g.prods 0 = L at *
            have HLL := Lib.hid hLL
            have hL0 := HLP.out
            have hL24 : L.length ≤ 24 := hLk2
            obtain ⟨m, hm, hml⟩ : ∃ m : Nat, z % (L.length : Int) = m ∧ m < L.length := ⟨(z % (L.length : Int)).toNat, by have := Int.emod_nonneg z (show (L.length : Int) ≠ 0 by omega); omega, by have := Int.emod_nonneg z (show (L.length : Int) ≠ 0 by omega); have := Int.emod_lt_of_pos z (show (0 : Int) < L.length by omega); omega⟩
            have HWI := Lib.hid fun W => (within_any z L.length (by omega) (by omega) W).mono fun e w' ⟨he, hw⟩ => (⟨he.trans (by rw [hm]), hw⟩ : e = Ending.returned (.int .i64 m) ∧ w' = W)
            obtain ⟨x, hx⟩ : ∃ x, L[m]? = some x := ⟨_, List.getElem?_eq_getElem hml⟩
            obtain ⟨j, qp, hj, hq1, rfl⟩ := (idxF_mem sym g.prods 0 x).1 (by rw [HLL.out]; exact List.mem_of_getElem? hx)
            rw [Nat.zero_add] at hx
            obtain ⟨q, hq⟩ : ∃ q, ls[j]? = some q := ⟨_, List.getElem?_eq_getElem (by have h1 := (List.getElem?_eq_some_iff.1 hj).1; have h2 := congrArg List.length HP.out; rw [List.length_map] at h2; omega)⟩
            have hqq : q.plain = qp := by
              have h9 : (ls.map Lay.plain)[j]? = some q.plain := by rw [List.getElem?_map, hq]; rfl
              rw [HP.out, hj] at h9
              exact (Option.some.inj h9).symm
            obtain ⟨bp, op, rfl, hbp, hcp⟩ := (own_cells HOW.out).1.get (by unfold nums; intro e; rw [List.map_eq_nil_iff] at e; rw [e] at hml; simp at hml)
            have cm := hcp m _ (nums_at hx)
            obtain ⟨⟨g0, g1, g2⟩, lg⟩ := HCL.out wr HBE.out
            have hbww := HB.out.trans (HBE.out.mono HB.out.size)
            obtain ⟨x0, lx⟩ := HCLZ.out wr hbww
            have e2 : (m : Int) < L.length := by omega
            have e3 : ((L.length : Int) == 0) = false := by rw [beq_eq_false_iff_ne]; omega
            have hjl : j < ls.length := (List.getElem?_eq_some_iff.1 hq).1
            have e4 : (j : Int) < ls.length := by omega
            have HQ := Lib.hid hq
            have HQQ := Lib.hid hqq
            have HJ := Lib.hid hj
            have HQ1S := Lib.hid hq1
            have HBW := Lib.hid hbww
            clear hLk hLk2 hm hml hx hj hq1 hq hqq hcp hL0 hbww HOW HIX HLL HLP

            go_upto_region 13 with (go_at_call 11; refine (HWI.out _).mono ?_; rintro e w3 ⟨rfl, hw3⟩; rw [hw3]; clear hw3)
            clear g0 g1 g2 lg x0 lx cm hbp e2 e3 HWI
            obtain ⟨hbT, hsT, qT⟩ := one_alloc wr (.cells #[.int .i64 sym, .int .i64 j, .slice none 0 0] 39)
            have hwT : w.heap.size + 1 < wr.heap.size := Nat.lt_of_lt_of_le (heap_lt HQ1.out) HBE.out.size
            have HKD : Hid (Kd wr.heap.size sym j w (wr.alloc (.cells #[.int .i64 sym, .int .i64 j, .slice none 0 0] 39)) (.slice none 0 0) (.slice none 0 0) 0 [] []) := Lib.hid ⟨qT, HBW.out.trans (hbT.mono HBW.out.size), World.ownsRow_nil _ _ _ _, fun _ h => (by cases h), by omega⟩
            have HBT := Lib.hid hbT
            have HCB : Hid (∀ W, Below wr.heap.size wr W → (W.cell? ⟨w.heap.size, 0, none⟩ = some (.slice a1 g.terms.length c1) ∧ W.cell? ⟨w.heap.size, 1, none⟩ = some (.slice a2 g.nons.length c2) ∧ W.cell? ⟨w.heap.size, 2, none⟩ = some (.slice a3 ls.length c3)) ∧ w.heap.size < W.heap.size) := Lib.hid fun W hW => HCL.out W (HBE.out.trans (hW.mono HBE.out.size))
            have HQ1T := Lib.hid ((HBE.out.block _ (heap_lt HQ1.out)).trans HQ1.out)
            have HBWT := Lib.hid fun (W : World) (hW : Below wr.heap.size wr W) => HBW.out.trans (hW.mono HBW.out.size)
            clear hbT hsT qT HCL HBE HBW HQ0 HQ1 HB
            generalize wr.alloc (.cells #[.int .i64 sym, .int .i64 j, .slice none 0 0] 39) = S1 at *
            generalize wr.heap.size = T at *
            have hi1 : (1 : Int) ≤ (zt.length : Int) + 1 := by omega
            have hi2 : (zt.length : Int) + 1 ≤ c := by omega
            have hi3 : (0 : Int) ≤ 1 := by omega
            have HZC : Hid (c = 1 → zt = []) := Lib.hid fun h => List.eq_nil_of_length_eq_zero (by omega)
            go_cut [2] from 80 to 81 (fun v wx => ∃ (a' : Option Addr) (c' : Nat), v = .slice a' zt.length c' ∧ Hid (∀ W0, Cells W0 (some ⟨b, off, none⟩) (nums (z :: zt)) → Cells W0 a' (nums zt)) ∧ zt.length ≤ c' ∧ c' ≤ c ∧ S1 = wx)
            case first =>
              by_cases hc1 : c = 1
              · subst hc1
                obtain rfl := HZC.out rfl
                go_wp2_with fail
                go_meet
                case rel => exact ⟨_, _, rfl, Lib.hid (fun _ _ => .inl rfl), by simp, by omega, rfl⟩
              · have hc2 : ¬ (c : Int) = 1 := by omega
                have hc3 : ¬ 1 = c := by omega
                go_wp2_with fail
                go_meet
                case rel => exact ⟨_, _, rfl, Lib.hid (fun _ h => cells_tail' h), by omega, by omega, rfl⟩
            case rest =>
              obtain ⟨a4, c4, rfl, HCZ, hz4, hc4, rfl⟩ := hcut
              clear hi1 hi2 hi3 HZC HZ0 HCLZ
              have HRC := Lib.hid (HK4.out q (List.mem_of_getElem? HQ.out))
              obtain ⟨b3, o3, rfl, hb3, hc3⟩ := (HK3.out.below (HBWT.out _ HBT.out)).get (by intro e; have := (lays_at ls j q HQ.out).1; rw [e] at this; simp at this)
              have y1 := hc3 _ _ (lays_at ls j q HQ.out).2
              rw [← Nat.add_assoc] at y1
              have hpv := HCG.out.pv qp (List.mem_of_getElem? HJ.out)
              have HPV := Lib.hid hpv
              have hrl : q.right.length ≤ 6 := by have := hpv.2.1; rw [← HQQ.out] at this; exact this
              have HSY : Hid (∀ s ∈ q.right, symB g s = true) := Lib.hid fun s hs => by
                have := hpv.2.2 s (by rw [← HQQ.out]; exact hs)
                unfold symOk at this
                unfold symB nonB
                simp
                omega
              obtain ⟨⟨g0, g1, g2⟩, lg⟩ := HCB.out S1 HBT.out
              have t1 := (blk_cell (i := 1) HKD.out.t rfl).1
              have lT := heap_lt HKD.out.t
              have hTS : T + 1 ≤ S1.heap.size := lT
              clear hc3 hpv
              obtain ⟨ql, qr, qa, qc⟩ := q
              simp only at *
              go_wp2
              clear g0 g1 g2 lg t1 y1 hb3 lT
              go_loopw [2, 90] (fun lv i wx => ∃ (k : Nat) (ks : List Tl) (ka : Option Addr) (kc : Nat) (a' : Option Addr) (c' : Nat) (zs' : List Int), k ≤ qr.length ∧ i = .int .i64 k ∧ lv = .slice a' zs'.length c' ∧ Hid (Kd T sym j w wx (.slice ka ks.length kc) (.slice ka ks.length kc) ks.length (tls ks) ks) ∧ Hid (∀ W0, Cells W0 (some ⟨b, off, none⟩) (nums (z :: zt)) → Cells W0 a' (nums zs')) ∧ zs'.length ≤ c' ∧ c' ≤ c ∧ Hid (ks.map Tl.sym = qr.take k ∧ ∀ t ∈ ks, checkT g t.plain t.sym = true ∧ sizeT t.plain ≤ bndT d) ∧ Hid (Below T wr wx)) (fun _ i _ => qr.length - (intOf i).toNat)
              case atStart => exact ⟨0, [], none, 0, a4, c4, zt, Nat.zero_le _, rfl, rfl, HKD, HCZ, hz4, hc4, Lib.hid ⟨rfl, fun _ h => (by cases h)⟩, HBT⟩
              case round =>
                clear HKD HCZ hz4 hc4
                obtain ⟨k, ks, ka, kc, a', c', zs', hk, rfl, rfl, HKD, HCZ, hz4, hc4, HKS, HBX⟩ := hrel
                rename World => wx
                by_cases hlt : k < qr.length
                · obtain ⟨s, hs⟩ : ∃ s, qr[k]? = some s := ⟨_, List.getElem?_eq_getElem hlt⟩
                  obtain ⟨b5, o5, rfl, hb5, hc5⟩ := (HRC.out.below HKD.out.k).get (by unfold nums; intro e; rw [List.map_eq_nil_iff] at e; rw [e] at hlt; simp at hlt)
                  have u0 := hc5 k _ (nums_at hs)
                  have e5 : (k : Int) < qr.length := by omega
                  have hsym := HSY.out s (List.mem_of_getElem? hs)
                  have hkl : ks.length = k := by
                    have := congrArg List.length HKS.out.1
                    rw [List.length_map, List.length_take] at this
                    omega
                  have HKL := Lib.hid hkl
                  have HS := Lib.hid hs
                  have hkl6 : ks.length ≤ 6 := by omega
                  obtain ⟨hbA, _, qA⟩ := one_alloc wx (.cells #[.int .i64 0, .int .i64 0, .slice none 0 0] 39)
                  have hbXA := HBX.out.trans (hbA.mono (by have := heap_lt HKD.out.t; omega))
                  have HC := Lib.hid (HIH.out s a' c' zs' (wx.alloc (.cells #[.int .i64 0, .int .i64 0, .slice none 0 0] 39)) hsym (GramAt.below HG.out (HBWT.out _ hbXA)) (HCZ.out _ (HZW.out.below (HBWT.out _ hbXA))) hz4 (by omega))
                  unfold PTreeEnd at HC
                  rw [show g.prods.length = ls.length by have h2 := congrArg List.length HP.out; rw [List.length_map] at h2; exact h2.symm] at HC
                  obtain ⟨⟨g0, g1, g2⟩, lg⟩ := HCB.out _ hbXA
                  have HXA := Lib.hid hbXA
                  have HQA := Lib.hid qA
                  have lxT := heap_lt HKD.out.t
                  have HKX := Lib.hid HKD.out
                  clear hc5 hs hsym hkl hbA qA hbXA
                  go_upto_region 19 with (go_at_call 27; with_reducible refine HC.out.mono ?_; rintro e w5 ⟨hb5', tk, a6, c6, zs6, rfl, hli, hck, hszk, hcl6, hz6, hc6⟩; have r5 := (hb5'.block wx.heap.size (by simp)).trans HQA.out; obtain ⟨z0, v0⟩ := blk_cell (i := 0) r5 rfl; obtain ⟨z1, v1⟩ := blk_cell (i := 1) r5 rfl; obtain ⟨z2, v2⟩ := blk_cell (i := 2) r5 rfl; have lK := heap_lt r5)
                  have HK3' := Lib.hid (kd_round HKX.out rfl hb5' hli (.int .i64 tk.sym) (.int .i64 tk.prod) (.slice tk.a tk.kids.length tk.c))
                  have HQ3 := Lib.hid (store3 r5 (.int .i64 tk.sym) (.int .i64 tk.prod) (.slice tk.a tk.kids.length tk.c))
                  have HX3 := Lib.hid (store3_below (HXA.out.trans (hb5'.mono (by simp; omega))) (Nat.le_of_lt lxT) (.int .i64 tk.sym) (.int .i64 tk.prod) (.slice tk.a tk.kids.length tk.c))
                  have HCK := Lib.hid hck
                  have HSK := Lib.hid hszk
                  have HC6 := Lib.hid (hcl6)
                  have HLT := Lib.hid (Nat.le_of_lt lxT)
                  clear z0 v0 z1 v1 z2 v2 lK r5 hli hck hszk g0 g1 g2 lg u0 hb5 lxT HC HQA HXA HKX
                  have hcl7 : Hid (∀ W0, Cells W0 (some ⟨b, off, none⟩) (nums (z :: zt)) → Cells W0 a6 (nums zs6)) := Lib.hid fun W0 h => HC6.out W0 (HCZ.out W0 h)
                  generalize ((w5.setCell ⟨wx.heap.size, 0, none⟩ (.int .i64 tk.sym)).setCell ⟨wx.heap.size, 1, none⟩ (.int .i64 tk.prod)).setCell ⟨wx.heap.size, 2, none⟩ (.slice tk.a tk.kids.length tk.c) = V at *
                  generalize wx.heap.size = K at *
                  obtain ⟨t2, y2⟩ := blk_cell (i := 2) HK3'.out.t rfl
                  have lT3 := heap_lt HK3'.out.t
                  have u0 := (blk_cell (i := 0) HQ3.out rfl).1
                  have u1 := (blk_cell (i := 1) HQ3.out rfl).1
                  have u2 := (blk_cell (i := 2) HQ3.out rfl).1
                  have lK3 := heap_lt HQ3.out
                  go_wp2_with (at_builtin; refine wpList_append_lies _ rfl (.tmp 104) (.tmp 106) 34 rfl (T + 1) 39 i0 (.agg #[.int .i64 0, .int .i64 0, .slice none 0 0]) 3 40 Try.underlying34 hi0 hz0 hz1 hz2 rfl (by decide) _ ks.length (tls ks) rfl ((HK3'.out.below (box_belowT V (.cells #[.int .i64 tk.sym, .int .i64 tk.prod, .slice tk.a tk.kids.length tk.c] 39))).own) ⟨V.heap.size, 0, none⟩ 1 1 [.int .i64 tk.sym, .int .i64 tk.prod, .slice tk.a tk.kids.length tk.c] rfl rfl (World.news_of_block (cs := #[.int .i64 tk.sym, .int .i64 tk.prod, .slice tk.a tk.kids.length tk.c]) (t := 39) (fr := (0, 0)) (heap_alloc_new V _)) (by simp [Value.oneCell']) (by decide) (by unfold maxLen; omega) (by omega) (by simp; omega) _ rfl ?_; intro g6 cap6 w6 hown6 hgrow6 hat6 hlt6; have HK6 := Lib.hid ((HK3'.out.below (box_belowT V (.cells #[.int .i64 tk.sym, .int .i64 tk.prod, .slice tk.a tk.kids.length tk.c] 39))).grow hown6 hgrow6 hat6); obtain ⟨t26, y26⟩ := blk_cell (i := 2) HK6.out.t rfl; have lT6 := heap_lt HK6.out.t)
                  have hroot := check_root HCK.out
                  have hbF : Below T wr w6 := (HX3.out.alloc (by omega) (.cells #[.int .i64 tk.sym, .int .i64 tk.prod, .slice tk.a tk.kids.length tk.c] 39)).grown hgrow6 (by simp; omega) (fun x hx => by have := (own_block HK3'.out.own hx).1; omega)
                  refine ⟨⟨k + 1, ks ++ [tk], some ⟨g6, 0, none⟩, cap6, a6, c6, zs6, by omega, by go_num, rfl, Lib.hid (by with_reducible exact Kd.done (HK6.out.setT _)), hcl7, hz6, by omega, Lib.hid ⟨?_, ?_⟩, Lib.hid (hbF.setCell (p := ⟨T, 2, none⟩) (Nat.le_refl _) _)⟩, by simp [intOf]; omega⟩
                  · rw [List.map_append, HKS.out.1, List.take_add_one, HS.out]
                    simp [hroot]
                  · intro t ht
                    rcases List.mem_append.1 ht with ht | ht
                    · exact HKS.out.2 t ht
                    · rw [List.mem_singleton] at ht
                      subst ht
                      rw [hroot]
                      exact ⟨HCK.out, HSK.out⟩
                · have e5 : ¬ (k : Int) < qr.length := by omega
                  obtain rfl : k = qr.length := by omega
                  have hz8 := (HBX.out.block _ hwT).trans HQ1T.out
                  have HZ8 := Lib.hid hz8
                  obtain ⟨z0, v0⟩ := blk_cell (i := 0) hz8 rfl
                  obtain ⟨z1, v1⟩ := blk_cell (i := 1) hz8 rfl
                  obtain ⟨z2, v2⟩ := blk_cell (i := 2) hz8 rfl
                  have t0 := (blk_cell (i := 0) HKD.out.t rfl).1
                  have t1 := (blk_cell (i := 1) HKD.out.t rfl).1
                  have t2 := (blk_cell (i := 2) HKD.out.t rfl).1
                  have lT := heap_lt HKD.out.t
                  have l8 := heap_lt hz8
                  have hwT2 := Lib.hid hwT
                  clear hz8
                  go_wp2
                  refine bodyPost_ret (results_ct (p0 := 8) (p1 := 9) (t0 := 39) rfl rfl (run_loadVar_row _ (w.heap.size + 1) 39 39 _ (0, 0) _ (store3 (w := wx) HZ8.out _ _ _) Try.underlying39 rfl (by kernel_rfl))) rfl ?_
                  refine ⟨store3_below HKD.out.k (Nat.le_succ _) _ _ _, Tl.mk sym j ka kc ks, a', c', zs', rfl, HKD.out.fin (by simp [World.setCell]) (fun b hb => store3_far _ _ _ b (by have := hwT2.out; omega)) , ?_, ?_, HCZ.out, hz4, hc4⟩
                  · rw [Tl.plain_mk]
                    have e : (ks.map Tl.plain).map Tr.sym = qr := by
                      rw [List.map_map]
                      have : ks.map (Tr.sym ∘ Tl.plain) = ks.map Tl.sym := List.map_congr_left fun t _ => t.plain_sym
                      rw [this, HKS.out.1, List.take_length]
                    refine check_node ?_ ?_
                    · rw [e, HJ.out]
                      have h1 := HQ1S.out
                      rw [← HQQ.out] at h1 ⊢
                      rw [← h1]
                      rfl
                    · intro t ht
                      obtain ⟨tl, htl, rfl⟩ := List.mem_map.1 ht
                      rw [Tl.plain_sym]
                      exact (HKS.out.2 tl htl).1
                  · rw [Tl.plain_mk, sizeT, bndT]
                    have h1 := sizeK_bnd (b := bndT d) (ks := ks.map Tl.plain) fun t ht => by
                      obtain ⟨tl, htl, rfl⟩ := List.mem_map.1 ht
                      exact (HKS.out.2 tl htl).2
                    have h2 : ks.length = qr.length := by
                      have := congrArg List.length HKS.out.1
                      rw [List.length_map, List.take_length] at this
                      exact this
                    rw [List.length_map] at h1
                    have h3 : ks.length * bndT d ≤ 6 * bndT d := Nat.mul_le_mul_right _ (by omega)
                    omega

end Go.Proofs.Ytgfkkbpnphbdgaa
