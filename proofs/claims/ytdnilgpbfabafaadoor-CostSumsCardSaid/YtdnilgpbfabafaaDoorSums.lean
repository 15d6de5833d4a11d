/- CostSums, walked. -/
import Derived.Test.YtdnilgpbfabafaaDoorTells
import Derived.Test.YtdnilgpbfabafaaDoorPick
import Derived.Deep.QuietTactic
import Derived.BigQuiet
import Derived.Deep.Draws
namespace Go.Proofs.YtdnilgpbfabafaaDoor
open Go.RowKit

theorem below_drewN {B : Nat} {a w : World} (h : Below B a w) (n : Nat) : Below B a (w.drewN n) := h.trans ⟨rfl, rfl, rfl, Nat.le_refl _, fun _ _ => rfl⟩
namespace Fl
/-- The list that CostSums makes of one: turned round, endless behind each. -/
def mlist (xs : List Nat) : List Nat := xs.reverse.flatMap fun y => [y, inf]
theorem mlist_snoc (xs : List Nat) (b : Nat) : mlist (xs ++ [b]) = [b, inf] ++ mlist xs := by
  unfold mlist; rw [List.reverse_append]; rfl
theorem mlist_length (xs : List Nat) : (mlist xs).length = 2 * xs.length := by
  unfold mlist
  have : ∀ l : List Nat, (l.flatMap fun y => [y, inf]).length = 2 * l.length := by
    intro l; induction l with
    | nil => rfl
    | cons a l ih => rw [List.flatMap_cons, List.length_append, ih]; simp; omega
  rw [this, List.length_reverse]
theorem mem_mlist (xs : List Nat) (y : Nat) : y ∈ mlist xs ↔ y ∈ xs ∨ (y = inf ∧ xs ≠ []) := by
  unfold mlist
  rw [List.mem_flatMap]
  constructor
  · rintro ⟨a, ha, h⟩
    rw [List.mem_reverse] at ha
    simp only [List.mem_cons, List.not_mem_nil, or_false] at h
    rcases h with rfl | rfl
    · exact .inl ha
    · exact .inr ⟨rfl, fun h => by rw [h] at ha; cases ha⟩
  · rintro (h | ⟨rfl, h⟩)
    · exact ⟨y, List.mem_reverse.2 h, by simp⟩
    · obtain ⟨a, ha⟩ := List.exists_mem_of_ne_nil xs h
      exact ⟨a, List.mem_reverse.2 ha, by simp⟩
theorem right_of_le {b : Nat} (h : b ≤ inf) : right b = true := decide_eq_true h
theorem getD_mem (l : List Nat) (k : Nat) (h : k < l.length) : l.getD k 0 ∈ l := mem_getD l k h
theorem mem_get {l : List Nat} {y : Nat} (h : y ∈ l) : ∃ i, i < l.length ∧ l.getD i 0 = y := by
  obtain ⟨i, hi, rfl⟩ := List.getElem_of_mem h
  exact ⟨i, hi, getD_at l i hi⟩
/-- Of a list of finite costs that is not empty, and of what CostSums makes of it: the least of both. -/
theorem both_least (xs : List Nat) (hn : xs ≠ []) (hf : ∀ y ∈ xs, y < inf) : ∃ q r : Nat, q < xs.length ∧ r < (mlist xs).length ∧ (pick xs).1 = q ∧ (pick (mlist xs)).1 = r ∧ xs.getD q 0 = (mlist xs).getD r 0 ∧
    ∀ i, i < xs.length → xs.getD q 0 ≤ xs.getD i 0 ∧ (i < q → xs.getD q 0 < xs.getD i 0) := by
  obtain ⟨a, ha⟩ := List.exists_mem_of_ne_nil xs hn
  rcases pick_least xs with ⟨_, hno⟩ | ⟨q, hq, e, hqr, hqi, hle⟩
  · obtain ⟨i, hi, e⟩ := mem_get ha
    exact absurd ⟨right_of_le (Nat.le_of_lt (by rw [e]; exact hf a ha)), by rw [e]; exact hf a ha⟩ (hno i hi)
  rcases pick_least (mlist xs) with ⟨_, hno⟩ | ⟨r, hr, e', hrr, hri, hle'⟩
  · obtain ⟨i, hi, e⟩ := mem_get ((mem_mlist xs a).2 (.inl ha))
    exact absurd ⟨right_of_le (Nat.le_of_lt (by rw [e]; exact hf a ha)), by rw [e]; exact hf a ha⟩ (hno i hi)
  refine ⟨q, r, hq, hr, e, e', ?_, fun i hi => hle i hi (right_of_le (Nat.le_of_lt (hf _ (getD_mem xs i hi))))⟩
  have h1 : xs.getD q 0 ∈ mlist xs := (mem_mlist xs _).2 (.inl (getD_mem xs q hq))
  obtain ⟨i, hi, ei⟩ := mem_get h1
  have h2 := (hle' i hi (by rw [ei]; exact hqr)).1
  have h3 : (mlist xs).getD r 0 ∈ xs := by
    rcases (mem_mlist xs _).1 (getD_mem _ r hr) with h | ⟨h, _⟩
    · exact h
    · omega
  obtain ⟨k, hk, ek⟩ := mem_get h3
  have h4 := (hle k hk (by rw [ek]; exact hrr)).1
  omega
theorem plus_inf (x : Nat) : plus x inf = inf := by unfold plus; rw [if_neg (by omega)]
theorem inf_plus (x : Nat) : plus inf x = inf := by unfold plus; rw [if_neg (by omega)]
theorem foldl_inf (l : List Nat) : l.foldl plus inf = inf := by
  induction l with
  | nil => rfl
  | cons x l ih => rw [List.foldl_cons, inf_plus, ih]
theorem foldl_mem (l : List Nat) : ∀ a, inf ∈ l → l.foldl plus a = inf := by
  induction l with
  | nil => intro a h; cases h
  | cons x l ih =>
    intro a h
    rw [List.foldl_cons]
    rcases List.mem_cons.1 h with h | h
    · rw [← h, plus_inf, foldl_inf]
    · exact ih _ h
theorem sum_mlist (xs : List Nat) (hn : xs ≠ []) (hf : ∀ y ∈ xs, y < inf) : sumW (mlist xs) = inf := by
  rw [sumW_yes]
  · exact foldl_mem _ 0 ((mem_mlist xs inf).2 (.inr ⟨rfl, hn⟩))
  · rw [List.all_eq_true]
    intro y hy
    rcases (mem_mlist xs y).1 hy with h | ⟨h, _⟩
    · exact right_of_le (Nat.le_of_lt (hf y h))
    · rw [h]; exact right_of_le (Nat.le_refl _)
theorem sum_fin (xs : List Nat) (hf : ∀ y ∈ xs, y < inf) : sumW xs = total xs := by
  refine sumW_yes _ ?_
  rw [List.all_eq_true]
  exact fun y hy => right_of_le (Nat.le_of_lt (hf y hy))
end Fl
theorem IsRow.le' {k : IntKind} {w : World} {a : Option Addr} {len cap : Nat} {zs : List Int} (h : IsRow k w a len cap zs) : len ≤ maxLen := by
  rcases h with ⟨_, rfl, rfl, _⟩ | ⟨x, _, hlc, hm, _⟩
  · exact Nat.zero_le _
  · omega
set_option maxRecDepth 100000 in
set_option maxHeartbeats 4000000 in
theorem sums_walk (a0 : Option Addr) (len0 cap0 : Nat) (z0 : List Int) (turn : Int) (w : World) (w0 : IsRow .i64 w a0 len0 cap0 z0) (HT : Tab w) :
    Calls Tryd.prog 7 #[.slice a0 len0 cap0, .int .i64 turn] w fun e w' => e = .returned (.bool true) ∧ Below w.heap.size w w' := by
  obtain ⟨i0, hi, hz0, hz1, hz2⟩ := info_parts infoF
  go_enter Tryd.func7, Tryd.ntmps7
  have hle0 := w0.le'
  go_wp2_with fail
  go_loopw [5, 6, 7, 8] (fun lv mv tv iv wr => ∃ k t : Nat, ∃ xs : List Nat, k ≤ 12 ∧ t ≤ 5000 * k ∧ iv = .int .i64 k ∧ tv = .int .i64 t ∧ Hid (xs.length = k ∧ (∀ y ∈ xs, y < Fl.inf) ∧ Fl.total xs = Fl.ofNat t) ∧
      wr.ownsRow w.heap.size 24 1 lv k (xs.map (Value.float .f64)) ∧ wr.ownsRow w.heap.size 24 1 mv (2 * k) ((Fl.mlist xs).map (Value.float .f64)) ∧ Hid (k = 0 → mv = .slice none 0 0) ∧ Hid (∀ g, lv.ownBlock = some g → mv.ownBlock ≠ some g) ∧ Below w.heap.size w wr) (fun _ _ _ iv _ => 12 - (intOf iv).toNat)
  case atStart => exact ⟨0, 0, [], by omega, by omega, rfl, rfl, ⟨rfl, by simp, by decide⟩, World.ownsRow_nil _ _ _ _, World.ownsRow_nil _ _ _ _, Lib.hid fun _ => rfl, Lib.hid (fun g h => by cases h), Below.refl _ _⟩
  case round =>
    obtain ⟨k, t, xs, hk, ht, rfl, rfl, hxs, hol, hom, hm0, hap, hbr⟩ := hrel
    rename_i wr
    by_cases hlt : k < len0 ∧ k < 12
    · obtain ⟨hl0, hl12⟩ := hlt
      obtain ⟨b0, o0, rfl, lt0, hm0', hcell0⟩ := w0.at_ (by omega)
      have hc0 : wr.cell? ⟨b0, o0 + k, none⟩ = some (.int .i64 (z0.getD k 0)) := (hbr.cell lt0).trans (hcell0 k hl0)
      generalize z0.getD k 0 = z at *
      have hk0 : (0 : Int) ≤ (k : Int) := by omega
      have HOL := Lib.hid hol
      have HOM := Lib.hid hom
      have HBR := Lib.hid hbr
      clear hcell0 w0 hol hom hbr
      go_wp2_with fail
      refine (within_any z 5000 (by omega) (by omega) _).mono ?_
      rintro e w1 ⟨rfl, rfl⟩
      obtain ⟨n, hn⟩ := Int.eq_ofNat_of_zero_le (Int.emod_nonneg z (show (5000 : Int) ≠ 0 by omega))
      have hn1 := Int.emod_lt_of_pos z (show 0 < (5000 : Int) by omega)
      rw [hn] at hn1 ⊢
      clear hn hc0
      have HN : Hid (floatOfInt .f64 (n : Int) = Fl.ofNat n) := Lib.hid (ofInt_nat n)
      have hnf : Fl.ofNat n < Fl.inf := Fl.ofNat_lt n (by omega)
      go_wp2_with (at_builtin; refine wpList_append_lies _ rfl _ _ 27 rfl w.heap.size 24 i0 (.float .f64 0) 1 8 Tryd.underlying27 hi hz0 hz1 hz2 rfl (by decide) u5 k (xs.map (Value.float .f64)) rfl (HOL.out.alloc _) ⟨w1.heap.size, 0, none⟩ 1 1 [.float .f64 (floatOfInt .f64 (n : Int))] rfl rfl (World.news_of_block (cs := #[.float .f64 (floatOfInt .f64 (n : Int))]) (t := 24) (fr := (0, 0)) (heap_alloc_new w1 _)) (by simp [Value.oneCell']) (by omega) (by unfold maxLen; omega) (by omega) (by have := HBR.out.size; simp; omega) (w1.heap.size + 1) (by simp) ?_; intro g cap w2 hol2 hgrow2 hat2 hlt2)
      rw [HN.out] at hol2 hgrow2 ⊢
      have hap' := hap.out
      have hom2 : w2.ownsRow w.heap.size 24 1 u6 (2 * k) ((Fl.mlist xs).map (Value.float .f64)) := (HOM.out.alloc _).kept hgrow2 (by
        cases h5 : u5.ownBlock with
        | none => cases h6 : u6.ownBlock <;> simp
        | some g5 => exact .inr (hap' g5 h5))
      have hB2 : Below w.heap.size w w2 := (HBR.out.alloc HBR.out.size _).grown hgrow2 (by have := HBR.out.size; simp; omega) (fun j hj => (HOL.out.lt j hj).1)
      have hg6 : u6.ownBlock ≠ some g := by
        rcases hat2 with h | h
        · exact hap' g h
        · intro h6
          have := (HOM.out.lt g h6).2
          omega
      have HOL2 : Hid (w2.ownsRow w.heap.size 24 1 (.slice (some ⟨g, 0, none⟩) (k + 1) cap) (k + 1) ((xs ++ [Fl.ofNat n]).map (Value.float .f64))) := Lib.hid (by rw [List.map_append]; exact hol2)
      have HOM2 := Lib.hid hom2
      have HB2 := Lib.hid hB2
      have HG6 := Lib.hid hg6
      have hxs2 : Hid ((xs ++ [Fl.ofNat n]).length = k + 1 ∧ (∀ y ∈ xs ++ [Fl.ofNat n], y < Fl.inf) ∧ Fl.total (xs ++ [Fl.ofNat n]) = Fl.ofNat (t + n)) := Lib.hid (by
        refine ⟨by simp [hxs.out.1], fun y hy => ?_, ?_⟩
        · rcases List.mem_append.1 hy with h | h
          · exact hxs.out.2.1 y h
          · simp at h; rw [h]; exact hnf
        · rw [Fl.total_snoc, hxs.out.2.2, Fl.plus_ofNat _ _ (by omega)])
      clear hol2 hom2 hgrow2 hB2 hg6 hat2 hap' hap HOL HOM HBR hxs
      refine (endless_any _).mono ?_
      rintro e w3 ⟨rfl, rfl⟩
      by_cases hk00 : k = 0
      · obtain rfl := hk00
        obtain rfl := hm0.out rfl
        have hx0 : xs = [] := by
          have := hxs2.out.1
          rw [List.length_append] at this
          exact List.eq_nil_of_length_eq_zero (by simpa using this)
        subst hx0
        have hlit := World.ownsRow_lit (base := w.heap.size) (e := 24) (size := 1) w3 #[.float .f64 (Fl.ofNat n), .float .f64 9218868437227405312] 2 HB2.out.size (by decide) rfl
        go_wp2_with (at_builtin; refine wpList_append_own_none rfl _ _ 27 rfl w.heap.size 24 i0 1 Tryd.underlying27 hi (.slice (some ⟨w3.heap.size, 0, none⟩) 2 2) 2 _ rfl hlit rfl ?_)
        exact ⟨⟨1, t + n, [Fl.ofNat n], by omega, by omega, rfl, by go_num, hxs2, HOL2.out.alloc _, hlit, Lib.hid (fun h => by cases h), Lib.hid (fun g1 h h' => by simp [Value.ownBlock] at h h'; omega), HB2.out.alloc HB2.out.size _⟩, by simp [intOf]⟩
      · have hkp : 0 < k := by omega
        obtain ⟨gm, capm, rfl, hgm⟩ : ∃ gm capm, u6 = .slice (some ⟨gm, 0, none⟩) (2 * k) capm ∧ gm < w3.heap.size := by
          rcases HOM2.out.2 with ⟨_, h⟩ | ⟨g, cap, cur, e, _⟩
          · omega
          · exact ⟨g, cap, e, (HOM2.out.lt g (by rw [e]; rfl)).2⟩
        have hlit := World.ownsRow_lit (base := w.heap.size) (e := 24) (size := 1) w3 #[.float .f64 (Fl.ofNat n), .float .f64 9218868437227405312] 2 HB2.out.size (by decide) rfl
        have HLIT := Lib.hid hlit
        have hxl : xs.length = k := by
          have := hxs2.out.1
          rw [List.length_append] at this
          simpa using this
        have HXL := Lib.hid hxl
        clear hlit hxl hm0
        go_wp2_with (at_builtin; refine wpList_append_lies _ rfl _ _ 27 rfl w.heap.size 24 i0 (.float .f64 0) 1 8 Tryd.underlying27 hi hz0 hz1 hz2 rfl (by decide) (.slice (some ⟨w3.heap.size, 0, none⟩) 2 2) 2 _ rfl HLIT.out ⟨gm, 0, none⟩ (2 * k) capm ((Fl.mlist xs).map (Value.float .f64)) rfl (by rw [List.length_map, Fl.mlist_length, HXL.out, Nat.mul_one]) ((HOM2.out.alloc _).cells (g := gm) rfl) (by intro u hu; obtain ⟨y, _, rfl⟩ := List.mem_map.1 hu; rfl) (by omega) (by unfold maxLen; omega) (by omega) (by have := HB2.out.size; simp; omega) (w3.heap.size + 1) (by simp) ?_; intro g4 cap4 w4 hom4 hgrow4 hat4 hlt4)
        have hol4 := (HOL2.out.alloc (.cells #[.float .f64 (Fl.ofNat n), .float .f64 9218868437227405312] 24)).kept hgrow4 (.inr (by simp [Value.ownBlock]; omega))
        have hB4 := (HB2.out.alloc HB2.out.size (.cells #[.float .f64 (Fl.ofNat n), .float .f64 9218868437227405312] 24)).grown hgrow4 (by have := HB2.out.size; simp; omega) (fun j hj => (HLIT.out.lt j hj).1)
        have hom5 : w4.ownsRow w.heap.size 24 1 (.slice (some ⟨g4, 0, none⟩) (2 + 2 * k) cap4) (2 * (k + 1)) ((Fl.mlist (xs ++ [Fl.ofNat n])).map (Value.float .f64)) := by
          rw [show 2 * (k + 1) = 2 + 2 * k by omega, Fl.mlist_snoc, List.map_append]; exact hom4
        have hg4 : w3.heap.size ≤ g4 := by
          rcases hat4 with h | h
          · simp [Value.ownBlock] at h; omega
          · omega
        refine ⟨⟨k + 1, t + n, xs ++ [Fl.ofNat n], by omega, by omega, by go_num, by go_num, hxs2, hol4, hom5, Lib.hid (fun h => by omega), Lib.hid (fun g1 h h' => by simp [Value.ownBlock] at h h'; omega), hB4⟩, by simp [intOf]; omega⟩
    · have hex : len0 ≤ k ∨ (k < len0 ∧ 12 ≤ k) := by omega
      have hkk : k ≤ 12 := hk
      obtain ⟨al, capl, rfl, hfl⟩ := isFl_of_own hxs.out.1 (fun y hy => Nat.lt_trans (hxs.out.2.1 y hy) (by decide)) (by omega) hol
      obtain ⟨am, capm, rfl, hfm⟩ := isFl_of_own (k := 2 * k) (xs := Fl.mlist xs) (by rw [Fl.mlist_length, hxs.out.1]) (fun y hy => by
        rcases (Fl.mem_mlist xs y).1 hy with h | ⟨h, _⟩
        · exact Nat.lt_trans (hxs.out.2.1 y h) (by decide)
        · rw [h]; decide) (by omega) hom
      have HFL := Lib.hid hfl
      have HFM := Lib.hid hfm
      have HB := Lib.hid hbr
      have HS := Lib.hid ((Fl.sum_fin xs hxs.out.2.1).trans hxs.out.2.2)
      have HX := Lib.hid hxs.out
      have hti : Fl.ofNat t < Fl.inf := Fl.ofNat_lt t (by omega)
      have hne : (FloatKind.f64.format.order (Fl.ofNat t) (floatOfInt .f64 (t : Int)) != some .eq) = false := by
        rw [ofInt_nat]
        have := Fl.order_le (Fl.ofNat t) (Fl.ofNat t) (Nat.le_of_lt hti) (Nat.le_of_lt hti)
        show (Ieee.double.order _ _ != _) = _
        rw [this]; simp
      clear hfl hfm hbr hol hom hap hm0 hlt hk hti w0
      rcases hex with h | ⟨h, h'⟩
      all_goals
        go_wp2_with fail
        refine (sum_fl capl HFL.out).mono ?_
        rw [HS.out]
        rintro e w3 ⟨rfl, rfl⟩
        generalize Fl.ofNat t = ft at *
        go_wp2_with fail
        refine (least_fl capl HFL.out).mono ?_
        rintro e w4 ⟨rfl, rfl⟩
        by_cases hk0 : k = 0
        · obtain rfl := hk0
          have hx0 : xs = [] := List.eq_nil_of_length_eq_zero HX.out.1
          subst hx0
          have hp : Fl.pick [] = (-1, Fl.inf) := rfl
          rw [hp]
          go_wp2_with fail
          refine (least_fl capm HFM.out).mono ?_
          rintro e w5 ⟨rfl, rfl⟩
          have hp2 : Fl.pick (Fl.mlist []) = (-1, Fl.inf) := rfl
          rw [hp2]
          clear hp hp2
          go_wp2_with fail
          refine (wakes_any _ (HT.below HB.out)).mono ?_
          rintro e w6 ⟨rfl, hb6⟩
          have HB6 := Lib.hid (HB.out.trans (hb6.mono HB.out.size))
          clear hb6
          go_wp2
          go_ret
          exact ⟨rfl, HB6.out⟩
        · have hxn : xs ≠ [] := fun h => hk0 (by rw [← HX.out.1, h]; rfl)
          obtain ⟨q, r, hq, hr, eq, er, hqr, hle⟩ := Fl.both_least xs hxn HX.out.2.1
          rw [eq]
          have ER := Lib.hid er
          have HSM : Hid (Fl.sumW (Fl.mlist xs) = 9218868437227405312) := Lib.hid (Fl.sum_mlist xs hxn HX.out.2.1)
          have hqk : q < k := by have := HX.out.1; omega
          have hrk : r < 2 * k := by rw [Fl.mlist_length] at hr; have := HX.out.1; omega
          have hkp : 0 < k := by omega
          have HLE := Lib.hid hle
          have HQR := Lib.hid hqr
          clear eq er hle hqr hq hr
          go_wp2_with fail
          refine (least_fl capm HFM.out).mono ?_
          rw [ER.out]
          rintro e w5 ⟨rfl, rfl⟩
          obtain ⟨hf1, hf3, _, hf4 | ⟨gl, rfl, hcl⟩⟩ := HFL.out
          · omega
          obtain ⟨_, hm3, _, hm4 | ⟨gm, rfl, hcm⟩⟩ := HFM.out
          · omega
          have hcq := hcl q hqk
          have hcr := hcm r hrk
          rw [Nat.zero_add] at hcq hcr
          rw [← HQR.out] at hcr
          have HCL := Lib.hid hcl
          have hfq := HX.out.2.1 _ (Fl.mem_getD xs q (by have := HX.out.1; omega))
          have hoq : (FloatKind.f64.format.order (xs.getD q 0) (xs.getD q 0) != some .eq) = false := by
            have := Fl.order_le (xs.getD q 0) (xs.getD q 0) (Nat.le_of_lt hfq) (Nat.le_of_lt hfq)
            show (Ieee.double.order _ _ != _) = _
            rw [this]; simp
          generalize hlq : xs.getD q 0 = lq at *
          have hkz : ((k : Int) == 0) = false := by simp; omega
          have q0 : (0 : Int) ≤ q := by omega
          have q1 : (q : Int) < k := by omega
          have r0 : (0 : Int) ≤ r := by omega
          have r1 : (r : Int) < ((2 * k : Nat) : Int) := by omega
          have r2 : (r : Int) < 2 * (k : Int) := by omega
          have r3 : ¬ 2 * (k : Int) ≤ (r : Int) := by omega
          have HF3 := Lib.hid hf3
          clear hcl hcm hf3 hm3 hf1 hlq
          go_wp2_with fail
          go_quiet (fail)
          have HFM6 := Lib.hid (show IsFl (w5.drewN nq) (some ⟨gm, 0, none⟩) (2 * k) (Fl.mlist xs) from HFM.out)
          have HCL6 := Lib.hid (show ∀ j, j < k → (w5.drewN nq).cell? ⟨gl, 0 + j, none⟩ = some (.float .f64 (xs.getD j 0)) from HCL.out)
          have hcq6 := (show (w5.drewN nq).cell? ⟨gl, q, none⟩ = some (.float .f64 lq) from hcq)
          have HB6 := Lib.hid (below_drewN HB.out nq)
          clear hcq hcr HCL HFM HFL HB
          generalize w5.drewN nq = w6 at *
          go_wp2_with fail
          go_loop [95] (fun i => ∃ j : Nat, j ≤ k ∧ i = .int .i64 j) (fun i => k - (intOf i).toNat)
          case atStart => exact ⟨0, by omega, rfl⟩
          case round =>
            obtain ⟨j, hj, rfl⟩ := hrel
            by_cases hjk : j < k
            · have hcj := HCL6.out j hjk
              rw [Nat.zero_add] at hcj
              have hle := HLE.out j (by have := HX.out.1; omega)
              have hxj := HX.out.2.1 _ (Fl.mem_getD xs j (by have := HX.out.1; omega))
              generalize xs.getD j 0 = x at *
              have ho2 : (FloatKind.f64.format.order x lq == some .lt) = false := by
                have := Fl.order_lt x lq (Nat.le_of_lt hxj) (Nat.le_of_lt hfq)
                rw [decide_eq_false (by omega)] at this; exact this
              have j0 : (0 : Int) ≤ j := by omega
              have j1 : (j : Int) < k := by omega
              by_cases hxe : x = lq
              · subst hxe
                have hqj : (q : Int) ≤ j := by
                  rcases Nat.lt_or_ge j q with h | h
                  · have := hle.2 h; omega
                  · omega
                have ho3 : (FloatKind.f64.format.order x x == some .eq) = true := by
                  have := Fl.order_le x x (Nat.le_of_lt hxj) (Nat.le_of_lt hxj)
                  show (Ieee.double.order _ _ == _) = _
                  rw [this]; simp
                clear hle hxj hfq hoq
                go_wp2
                exact ⟨⟨j + 1, by omega, by go_num⟩, by simp [intOf]; omega⟩
              · have ho3 : (FloatKind.f64.format.order x lq == some .eq) = false := by
                  have := Fl.order_le x lq (Nat.le_of_lt hxj) (Nat.le_of_lt hfq)
                  show (Ieee.double.order _ _ == _) = _
                  rw [this, Nat.compare_eq_gt.2 (by omega)]; rfl
                clear hle hxj hfq hoq hxe
                go_wp2
                exact ⟨⟨j + 1, by omega, by go_num⟩, by simp [intOf]; omega⟩
            · clear hfq hoq
              go_wp2_with fail
              refine (sum_fl capm HFM6.out).mono ?_
              rw [HSM.out]
              rintro e w7 ⟨rfl, rfl⟩
              go_wp2_with fail
              refine (endless_any _).mono ?_
              rintro e w8 ⟨rfl, rfl⟩
              have hoi : (FloatKind.f64.format.order 9218868437227405312 9218868437227405312 == some .eq) = true := by kernel_rfl
              go_wp2_with fail
              refine (wakes_any _ (HT.below HB6.out)).mono ?_
              rintro e w9 ⟨rfl, hb9⟩
              have HB9 := Lib.hid (HB6.out.trans (hb9.mono HB6.out.size))
              clear hb9
              go_wp2
              go_ret
              exact ⟨rfl, HB9.out⟩
end Go.Proofs.YtdnilgpbfabafaaDoor
