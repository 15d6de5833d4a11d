/- CostTells, walked. -/
import Derived.Test.YtdnilgpbfabafaaDoorBoth
import Derived.Deep.RegionHeld3
import Derived.Deep.AppendLies
import Derived.OwnWalk
import Derived.OpenShut
namespace Go.Proofs.YtdnilgpbfabafaaDoor
open Go.RowKit

/-- What the walk is told of a slice of integers that came in. -/
def IsRow (k : IntKind) (w : World) (a : Option Addr) (len cap : Nat) (zs : List Int) : Prop :=
  (a = none ∧ len = 0 ∧ cap = 0 ∧ zs = []) ∨
  ∃ x, a = some x ∧ len ≤ cap ∧ cap ≤ maxLen ∧ zs.length = cap ∧ (∀ i, i < zs.length → w.cell? (x.add i) = some (.int k (zs.getD i 0))) ∧ ∀ n ∈ zs, (Lit.int k n).wf = true

theorem IsRow.at_ {w : World} {a : Option Addr} {len cap : Nat} {zs : List Int} (h : IsRow .i64 w a len cap zs) (hl : 0 < len) : ∃ b off, a = some ⟨b, off, none⟩ ∧ b < w.heap.size ∧ len ≤ maxLen ∧ ∀ k, k < len → w.cell? ⟨b, off + k, none⟩ = some (.int .i64 (zs.getD k 0)) := by
  rcases h with ⟨_, h, _, _⟩ | ⟨x, rfl, hlc, hm, hzl, hc, _⟩
  · omega
  · obtain ⟨b, off, rfl, hc'⟩ := ints_at hc (by omega)
    exact ⟨b, off, rfl, World.block_lt_of_cell? w _ (hc' 0 (by omega)), by omega, fun k hk => hc' k (by omega)⟩
theorem ownsRow_below {w w' : World} {base : Nat} {e : TypeId} {size : Nat} {v : Value} {n : Nat} {xs : List Value} (h : w.ownsRow base e size v n xs) (hb : Below w.heap.size w w') : w'.ownsRow base e size v n xs := by
  refine ⟨h.1, ?_⟩
  rcases h.2 with h2 | ⟨g, cap, cur, e1, e2, e3, e4⟩
  · exact .inl h2
  · have hg : g < w.heap.size := by
      rcases Nat.lt_or_ge g w.heap.size with h | h
      · exact h
      · rw [Array.getElem?_eq_none h] at e3; cases e3
    exact .inr ⟨g, cap, cur, e1, e2, (hb.block g hg).trans e3, e4⟩
theorem infoF : (Tryd.prog.info? 24).map (fun i => (i.zero, i.size, i.bytes)) = some (some (.float .f64 0), 1, 8) := by kernel_rfl

set_option maxRecDepth 100000 in
set_option maxHeartbeats 4000000 in
theorem tells_walk (a0 : Option Addr) (len0 cap0 : Nat) (z0 : List Int) (a1 : Option Addr) (len1 cap1 : Nat) (z1 : List Int) (x : Nat) (some_ all how : Int) (w : World) (w0 : IsRow .i64 w a0 len0 cap0 z0) (w1 : IsRow .i64 w a1 len1 cap1 z1) (hx : x < 18446744073709551616) (HT : Tab w) :
    Calls Tryd.prog 5 #[.slice a0 len0 cap0, .slice a1 len1 cap1, .float .f64 x, .int .i64 some_, .int .i64 all, .int .i64 how] w fun e w' => e = .returned (.bool true) ∧ Below w.heap.size w w' := by
  obtain ⟨i0, hi, hz0, hz1, hz2⟩ := info_parts infoF
  go_enter Tryd.func5, Tryd.ntmps5
  go_wp2_with fail
  go_loopw [13, 14] (fun v i wr => ∃ k : Nat, ∃ xs : List Nat, k ≤ 7 ∧ i = .int .i64 k ∧ Hid (xs.length = k ∧ ∀ y ∈ xs, y < 18446744073709551616) ∧ wr.ownsRow w.heap.size 24 1 v k (xs.map (Value.float .f64)) ∧ Below w.heap.size w wr) (fun _ i _ => 7 - (intOf i).toNat)
  case atStart => exact ⟨0, [], by omega, rfl, ⟨rfl, by simp⟩, World.ownsRow_nil _ _ _ _, Below.refl _ _⟩
  case round =>
    obtain ⟨k, xs, hk, rfl, hxs, hown, hbr⟩ := hrel
    by_cases hlt : k < len0 ∧ k < len1 ∧ k < 7
    · obtain ⟨hl0, hl1, hl7⟩ := hlt
      obtain ⟨b0, o0, rfl, lt0, hm0, hcell0⟩ := w0.at_ (by omega)
      obtain ⟨b1, o1, rfl, lt1, hm1, hcell1⟩ := w1.at_ (by omega)
      have hc0' : wr.cell? ⟨b0, o0 + k, none⟩ = some (.int .i64 (z0.getD k 0)) := (hbr.cell lt0).trans (hcell0 k hl0)
      have hc1' : wr.cell? ⟨b1, o1 + k, none⟩ = some (.int .i64 (z1.getD k 0)) := (hbr.cell lt1).trans (hcell1 k hl1)
      have hl0' : b0 < wr.heap.size := Nat.lt_of_lt_of_le lt0 hbr.size
      have hl1' : b1 < wr.heap.size := Nat.lt_of_lt_of_le lt1 hbr.size
      have hw0 := hcell0 k hl0
      have hw1 := hcell1 k hl1
      generalize z0.getD k 0 = za at *
      generalize z1.getD k 0 = zh at *
      have hk0 : (0 : Int) ≤ (k : Int) := by omega
      have hk1 : (k : Int) < (len0 : Int) := by omega
      have hk2 : (k : Int) < (len1 : Int) := by omega
      have HOWN := Lib.hid hown
      have HBR := Lib.hid hbr
      clear hcell0 hcell1 w0 w1 hown hbr
      go_wp2_with fail
      have HW0 := Lib.hid hw0
      have HW1 := Lib.hid hw1
      clear hw0 hw1
      go_region_held3 (fun w' => w'.cell? ⟨b0, o0 + k, none⟩ = some (.int .i64 za) ∧ w'.cell? ⟨b1, o1 + k, none⟩ = some (.int .i64 zh))
        (first | go_keep | (exact ⟨(hxb.cell (p := ⟨b0, o0 + k, none⟩) hl0').trans hc0', (hxb.cell (p := ⟨b1, o1 + k, none⟩) hl1').trans hc1'⟩) | (exact ⟨(hB3.cell (p := ⟨b0, o0 + k, none⟩) lt0).trans HW0.out, (hB3.cell (p := ⟨b1, o1 + k, none⟩) lt1).trans HW1.out⟩))
        (first
          | (go_at_call 14; refine (x_any _ _ x hx _).mono ?_; rintro e w2 ⟨b, rfl, hb64, hxb⟩)
          | (refine step_append_lies _ (by rfl) _ _ _ (by rfl) w.heap.size 24 i0 _ 1 8 Tryd.underlying27 hi hz0 hz1 hz2 rfl (by omega) _ k (xs.map (Value.float .f64)) (by rfl) ((ownsRow_below HOWN.out.drew hxb).alloc _) ⟨w2.heap.size, 0, none⟩ 1 1 [.float .f64 b] (by rfl) (by rfl) (World.news_of_block (cs := #[.float .f64 b]) (t := 24) (fr := (0, 0)) (heap_alloc_new w2 _)) (by simp [Value.oneCell']) (by omega) (by unfold maxLen; omega) (by omega) (by have := HBR.out.size; have := hxb.size; simp at *; omega) (w2.heap.size + 1) (by simp) ?_
             intro gg cap w3 hown3 hgrow hat hlt3
             have hB3 : Below w.heap.size w w3 := Below.grown (((HBR.out.drew.trans (hxb.mono HBR.out.drew.size)).alloc (Nat.le_trans HBR.out.drew.size hxb.size) _)) hgrow (by have := HBR.out.size; have := hxb.size; simp at *; omega) (fun j hj => ((ownsRow_below HOWN.out.drew hxb).lt j hj).1)))
      have hrel2 : Hid ((xs ++ [b]).length = k + 1 ∧ ∀ y ∈ xs ++ [b], y < 18446744073709551616) := by
        refine ⟨by simp [hxs.out.1], fun y hy => ?_⟩
        rcases List.mem_append.1 hy with h | h
        · exact hxs.out.2 y h
        · simp at h; rw [h]; exact hb64
      have HO3 : Hid (w3.ownsRow w.heap.size 24 1 (.slice (some ⟨gg, 0, none⟩) (k + 1) cap) (k + 1) ((xs ++ [b]).map (Value.float .f64))) := by
        rw [List.map_append]; exact hown3
      have HB3 := Lib.hid hB3
      clear hown3 hgrow hat hlt3 hB3 hxb hb64
      go_wp2
      go_roundw
      case rel => exact ⟨k + 1, xs ++ [b], by omega, by go_num, hrel2, HO3.out, HB3.out⟩
      case measure => simp [intOf]; omega
    · obtain ⟨a, cap, rfl, hfl⟩ := isFl_of_own hxs.out.1 hxs.out.2 (by omega) hown
      have HFL := Lib.hid hfl
      have hex : len0 ≤ k ∨ (k < len0 ∧ len1 ≤ k) ∨ (k < len0 ∧ k < len1 ∧ 7 ≤ k) := by omega
      clear hfl hown w0 w1 hlt
      rcases hex with h | ⟨h, h'⟩ | ⟨h, h', h''⟩
      all_goals
        go_wp2_with fail
        go_loopw [48] (fun i w2 => ∃ j : Nat, j ≤ k ∧ i = .int .i64 j ∧ Below wr.heap.size wr w2) (fun i _ => k - (intOf i).toNat)
        case atStart => exact ⟨0, by omega, rfl, Below.refl _ _⟩
        case round =>
          obtain ⟨j, hj, rfl, hb2⟩ := hrel
          rename_i w2
          by_cases hlt : j < k
          · have hf2 := HFL.out.below hb2
            obtain ⟨hf1, hf3, _, hf4 | ⟨g, rfl, hcell⟩⟩ := hf2
            · omega
            have hcj := hcell j hlt
            have hy := hf3 _ (Fl.mem_getD xs j (by omega))
            rw [Nat.zero_add] at hcj
            generalize xs.getD j 0 = y at *
            have HT2 := HT.below (hbr.trans (hb2.mono hbr.size))
            have HB2 := Lib.hid hb2
            clear hcell hf1 hf3 hb2
            go_wp2_with fail
            refine (right_any y hy _).mono ?_
            rintro e w3 ⟨rfl, rfl⟩
            go_wp2_with fail
            refine (ref_right_any y hy _).mono ?_
            rintro e w4 ⟨rfl, rfl⟩
            go_wp2_with fail
            refine (print_any y hy _ HT2).mono ?_
            rintro e w5 ⟨rfl, hb5⟩
            have HB5 := Lib.hid (HB2.out.trans (hb5.mono HB2.out.size))
            clear hb5
            go_wp2_with fail
            refine (ref_cost_any y hy _).mono ?_
            rintro e w6 ⟨rfl, hb6⟩
            have HB6 := Lib.hid (HB5.out.trans (hb6.mono HB5.out.size))
            clear hb6
            go_wp2
            go_roundw
            case rel => exact ⟨j + 1, by omega, by go_num, HB6.out⟩
            case measure => simp [intOf]; omega
          · have HB2 := Lib.hid (hbr.trans (hb2.mono hbr.size))
            have HF2 := Lib.hid (HFL.out.below hb2)
            have HTW := Lib.hid (HT.below HB2.out)
            clear hb2 hbr hxs
            have key : ∀ s t : Int, Hid (s = s ∧ t = t) := fun s t => ⟨rfl, rfl⟩
            by_cases h3 : how.tmod 3 = 0
            · have h31 : (how.tmod 3 != 0) = false := by simp [h3]
              have h32 : (how.tmod 3 == 0) = true := by simp [h3]
              clear h3 key
              go_wp2_with fail
              refine (sum_fl cap HF2.out).mono ?_
              rintro e v1 ⟨rfl, rfl⟩
              go_wp2_with fail
              refine (ref_sum_fl cap HF2.out).mono ?_
              rintro e v2 ⟨b, rfl, hsum, hbv2⟩
              have HSAME := Lib.hid (same_sum xs b hsum)
              have HB3 := Lib.hid (HB2.out.trans (hbv2.mono HB2.out.size))
              have HF3 := Lib.hid (HF2.out.below hbv2)
              clear hsum hbv2
              go_wp2_with fail
              refine (alike_any _ b HSAME.out _).mono ?_
              rintro e v3 ⟨rfl, rfl⟩
              go_wp2_with fail
              refine (least_fl cap HF3.out).mono ?_
              rintro e v4 ⟨rfl, rfl⟩
              go_wp2_with fail
              refine (ref_least_fl cap HF3.out).mono ?_
              rintro e v5 ⟨rfl, rfl⟩
              go_wp2_with fail
              refine (part_any _ _ _).mono ?_
              rintro e v6 ⟨b1, rfl, hp1, hbp1⟩
              have HP1 := Lib.hid hp1
              have HB4 := Lib.hid (HB3.out.trans (hbp1.mono HB3.out.size))
              clear hp1 hbp1
              go_wp2_with fail
              refine (ref_part_any _ _ _).mono ?_
              rintro e v7 ⟨b2, rfl, hp2, hbp2⟩
              have HSP := Lib.hid (same_part _ _ _ _ HP1.out hp2)
              have HB5 := Lib.hid (HB4.out.trans (hbp2.mono HB4.out.size))
              clear hp2 hbp2
              go_wp2_with fail
              refine (alike_any b1 b2 HSP.out _).mono ?_
              rintro e v8 ⟨rfl, rfl⟩
              go_wp2_with fail
              refine (print_any x hx _ (HT.below HB5.out)).mono ?_
              rintro e v9 ⟨rfl, hb9⟩
              have HB6 := Lib.hid (HB5.out.trans (hb9.mono HB5.out.size))
              clear hb9
              go_wp2_with fail
              refine (ref_cost_any x hx _).mono ?_
              rintro e v10 ⟨rfl, hb10⟩
              have HB7 := Lib.hid (HB6.out.trans (hb10.mono HB6.out.size))
              clear hb10
              go_wp2_with fail
              refine (wakes_any _ (HT.below HB7.out)).mono ?_
              rintro e v11 ⟨rfl, hb11⟩
              have HB8 := Lib.hid (HB7.out.trans (hb11.mono HB7.out.size))
              clear hb11
              go_wp2
              go_ret
              exact ⟨rfl, HB8.out⟩
            · have h31 : (how.tmod 3 != 0) = true := by simp [h3]
              have h32 : (how.tmod 3 == 0) = false := by simp [h3]
              clear h3 key
              go_wp2_with fail
              refine (within_any some_ 40 (by omega) (by omega) _).mono ?_
              rintro e w3 ⟨rfl, rfl⟩
              go_wp2_with fail
              refine (within_any all 40 (by omega) (by omega) _).mono ?_
              rintro e w4 ⟨rfl, rfl⟩
              have g0 := Int.emod_nonneg some_ (show (40 : Int) ≠ 0 by omega)
              have g1 := Int.emod_lt_of_pos some_ (show 0 < (40 : Int) by omega)
              have g2 := Int.emod_nonneg all (show (40 : Int) ≠ 0 by omega)
              have g3 := Int.emod_lt_of_pos all (show 0 < (40 : Int) by omega)
              go_wp2_with fail
              refine (sum_fl cap HF2.out).mono ?_
              rintro e v1 ⟨rfl, rfl⟩
              go_wp2_with fail
              refine (ref_sum_fl cap HF2.out).mono ?_
              rintro e v2 ⟨b, rfl, hsum, hbv2⟩
              have HSAME := Lib.hid (same_sum xs b hsum)
              have HB3 := Lib.hid (HB2.out.trans (hbv2.mono HB2.out.size))
              have HF3 := Lib.hid (HF2.out.below hbv2)
              clear hsum hbv2
              go_wp2_with fail
              refine (alike_any _ b HSAME.out _).mono ?_
              rintro e v3 ⟨rfl, rfl⟩
              go_wp2_with fail
              refine (least_fl cap HF3.out).mono ?_
              rintro e v4 ⟨rfl, rfl⟩
              go_wp2_with fail
              refine (ref_least_fl cap HF3.out).mono ?_
              rintro e v5 ⟨rfl, rfl⟩
              go_wp2_with fail
              refine (part_any _ _ _).mono ?_
              rintro e v6 ⟨b1, rfl, hp1, hbp1⟩
              have HP1 := Lib.hid hp1
              have HB4 := Lib.hid (HB3.out.trans (hbp1.mono HB3.out.size))
              clear hp1 hbp1
              go_wp2_with fail
              refine (ref_part_any _ _ _).mono ?_
              rintro e v7 ⟨b2, rfl, hp2, hbp2⟩
              have HSP := Lib.hid (same_part _ _ _ _ HP1.out hp2)
              have HB5 := Lib.hid (HB4.out.trans (hbp2.mono HB4.out.size))
              clear hp2 hbp2
              go_wp2_with fail
              refine (alike_any b1 b2 HSP.out _).mono ?_
              rintro e v8 ⟨rfl, rfl⟩
              go_wp2_with fail
              refine (print_any x hx _ (HT.below HB5.out)).mono ?_
              rintro e v9 ⟨rfl, hb9⟩
              have HB6 := Lib.hid (HB5.out.trans (hb9.mono HB5.out.size))
              clear hb9
              go_wp2_with fail
              refine (ref_cost_any x hx _).mono ?_
              rintro e v10 ⟨rfl, hb10⟩
              have HB7 := Lib.hid (HB6.out.trans (hb10.mono HB6.out.size))
              clear hb10
              go_wp2_with fail
              refine (wakes_any _ (HT.below HB7.out)).mono ?_
              rintro e v11 ⟨rfl, hb11⟩
              have HB8 := Lib.hid (HB7.out.trans (hb11.mono HB7.out.size))
              clear hb11
              go_wp2
              go_ret
              exact ⟨rfl, HB8.out⟩
end Go.Proofs.YtdnilgpbfabafaaDoor
