/- SetSplits, walked. -/
import Derived.Test.YtpoajifabjlhjaaDoorLaws
namespace Go.Proofs.YtpoajifabjlhjaaDoor
open Go.RowKit
theorem Ints.drop' {w : World} {B n : Nat} {zs : List Int} (h : Ints w (some ⟨B, 0, none⟩) n zs) (k : Nat) (hk : k ≤ n) : Ints w (if n = k then some ⟨B, 0, none⟩ else some ⟨B, k, none⟩) (n - k) (zs.drop k) := by
  have := h.drop k hk
  rw [Nat.zero_add] at this
  split
  · rename_i e
    exact ⟨this.1, this.2.1, .inl (by omega)⟩
  · exact this
theorem in_no (s t : Nat) (hs : s < 18446744073709551616) (ht : t < 18446744073709551616) (h : ¬ less s t = 0) (w : World) :
    Calls Tryd.prog 13 #[.int .u64 s, .int .u64 t] w fun e w' => e = .returned (.bool false) ∧ w' = w :=
  (in_any s t hs ht w).mono fun _ _ ⟨he, hw⟩ => ⟨by rw [he, decide_eq_false h], hw⟩
theorem count_is (s k : Nat) (hs : s < 18446744073709551616) (h : (Pop.items s).length = k) (w : World) :
    Calls Tryd.prog 12 #[.int .u64 s] w fun e w' => e = .returned (.int .i64 (k : Nat)) ∧ w' = w :=
  (count_any s hs w).mono fun _ _ ⟨he, hw⟩ => ⟨by rw [he, h], hw⟩
set_option maxRecDepth 100000 in
set_option maxHeartbeats 8000000 in
theorem splits_walk (a0 : Option Addr) (len0 cap0 : Nat) (z0 : List Int) (a1 : Option Addr) (len1 cap1 : Nat) (z1 : List Int) (cut : Int) (w : World) (w0 : IsRow .i64 w a0 len0 cap0 z0) (w1 : IsRow .i64 w a1 len1 cap1 z1) (HT : Tab w) :
    Calls Tryd.prog 6 #[.slice a0 len0 cap0, .slice a1 len1 cap1, .int .i64 cut] w fun e w' => e = .returned (.bool true) ∧ Below w.heap.size w w' := by
  have I0 := Lib.hid w0.ints
  have I1 := Lib.hid w1.ints
  clear w0 w1
  go_enter Tryd.func6, Tryd.ntmps6
  go_wp2_with fail
  refine (of_any _ _ _ _ _ I0.out).mono ?_
  rintro e v1 ⟨rfl, rfl⟩
  go_wp2_with fail
  refine (of_any _ _ _ _ _ I1.out).mono ?_
  rintro e v2 ⟨rfl, rfl⟩
  have hs := ofL_lt (z0.take len0)
  have ht := ofL_lt (z1.take len1)
  clear I0 I1
  generalize ofL (z0.take len0) = s at *
  generalize ofL (z1.take len1) = t at *
  go_wp2_with fail
  refine (list_ex s hs _ HT).mono ?_
  rintro e v3 ⟨B, rfl, hB, hi, hb⟩
  have hc := Pop.items_le s
  generalize hcc : (Pop.items s).length = c at *
  have HCC := Lib.hid hcc
  have HB := Lib.hid hb
  have HI := Lib.hid hi
  clear hcc hb hi hB
  go_wp2_with fail
  refine (within_any cut (c + 1) (by omega) (by omega) _).mono ?_
  rintro e v4 ⟨rfl, rfl⟩
  obtain ⟨k, hk⟩ := Int.eq_ofNat_of_zero_le (Int.emod_nonneg cut (show (c : Int) + 1 ≠ 0 by omega))
  have hkc := Int.emod_lt_of_pos cut (show 0 < (c : Int) + 1 by omega)
  rw [hk] at hkc ⊢
  have hkc' : k ≤ c := by omega
  clear hk hkc
  have F := Lib.hid (split_facts s k hs (by rw [HCC.out]; exact hkc') _ _ rfl rfl)
  have P := Lib.hid (parts_facts s t hs ht)
  have IA := Lib.hid (HI.out.take k hkc')
  have IB := Lib.hid (HI.out.drop' k hkc')
  clear HI
  generalize (ints (Pop.items s)).take k = za at *
  generalize (ints (Pop.items s)).drop k = zb at *
  go_wp2_with fail
  have h0 : (0 : Int) ≤ k := by omega
  have h1 : (k : Int) ≤ c := by omega
  go_quiet ((first | exact Calls.quiet_of_same (of_any _ _ _ _ _ IA.out) | exact Calls.quiet_of_same (of_any _ _ _ _ _ IB.out)))
  generalize (if c = k then some (⟨B, 0, none⟩ : Addr) else some ⟨B, k, none⟩) = ad
  have ha := ofL_lt za
  have hb := ofL_lt zb
  clear IA IB
  generalize ofL za = a at *
  generalize ofL zb = b at *
  have HW := Lib.hid (below_drewN HB.out nq)
  clear HB
  generalize v4.drewN nq = v at *
  go_wp2_with fail
  refine (join_any a b ha hb _).mono ?_
  rintro e v5 ⟨rfl, rfl⟩
  rw [F.out.1]
  go_wp2_with fail
  refine (both_any a b ha hb _).mono ?_
  rintro e v6 ⟨rfl, rfl⟩
  rw [F.out.2.1]
  go_wp2_with fail
  refine (of_none _).mono ?_
  rintro e v7 ⟨rfl, rfl⟩
  go_wp2_with fail
  refine (count_is a k ha F.out.2.2.1 _).mono ?_
  rintro e v8 ⟨rfl, rfl⟩
  go_wp2_with fail
  refine (in_yes a s ha hs F.out.2.2.2.1 _).mono ?_
  rintro e v9 ⟨rfl, rfl⟩
  go_wp2_with fail
  refine (in_yes b s hb hs F.out.2.2.2.2 _).mono ?_
  rintro e v10 ⟨rfl, rfl⟩
  clear F HCC
  have O := less_lt s t hs
  have W := less_lt t s ht
  have B := and_lt s t hs
  have OW := or_lt _ _ O W
  go_wp2_with fail
  refine (less_any s t hs ht _).mono ?_
  rintro e v11 ⟨rfl, rfl⟩
  go_wp2_with fail
  refine (less_any t s ht hs _).mono ?_
  rintro e v12 ⟨rfl, rfl⟩
  go_wp2_with fail
  refine (both_any s t hs ht _).mono ?_
  rintro e v13 ⟨rfl, rfl⟩
  go_wp2_with fail
  refine (join_any _ _ O W _).mono ?_
  rintro e v14 ⟨rfl, rfl⟩
  go_wp2_with fail
  refine (join_any _ _ OW B _).mono ?_
  rintro e v15 ⟨rfl, rfl⟩
  rw [P.out.1]
  go_wp2_with fail
  refine (join_any s t hs ht _).mono ?_
  rintro e v16 ⟨rfl, rfl⟩
  go_wp2_with fail
  refine (both_any _ _ O W _).mono ?_
  rintro e v17 ⟨rfl, rfl⟩
  rw [P.out.2.1]
  go_wp2_with fail
  refine (of_none _).mono ?_
  rintro e v18 ⟨rfl, rfl⟩
  go_wp2_with fail
  refine (both_any _ _ O B _).mono ?_
  rintro e v19 ⟨rfl, rfl⟩
  rw [P.out.2.2.1]
  go_wp2_with fail
  refine (of_none _).mono ?_
  rintro e v20 ⟨rfl, rfl⟩
  go_wp2_with fail
  refine (both_any _ _ W B _).mono ?_
  rintro e v21 ⟨rfl, rfl⟩
  rw [P.out.2.2.2.1]
  go_wp2_with fail
  refine (of_none _).mono ?_
  rintro e v22 ⟨rfl, rfl⟩
  have HE := Lib.hid P.out.2.2.2.2
  clear P
  by_cases h1 : less s t = 0
  · have H1 := Lib.hid h1
    clear h1
    go_wp2_with fail
    refine (in_yes s t hs ht H1.out _).mono ?_
    rintro e v23 ⟨rfl, rfl⟩
    rw [H1.out]
    go_wp2_with fail
    refine (of_none _).mono ?_
    rintro e v24 ⟨rfl, rfl⟩
    by_cases h2 : less t s = 0
    · have H2 := Lib.hid h2
      obtain rfl := HE.out.2 ⟨H1.out, h2⟩
      clear h2
      go_wp2_with fail
      refine (in_yes s s hs hs H1.out _).mono ?_
      rintro e v25 ⟨rfl, rfl⟩
      go_wp2_with fail
      refine (in_yes s s hs hs H1.out _).mono ?_
      rintro e v26 ⟨rfl, rfl⟩
      go_wp2_with fail
      refine (wakes_any _ (HT.below HW.out)).mono ?_
      rintro e v27 ⟨rfl, hbw⟩
      have HBW := Lib.hid (below_cat HW.out hbw)
      clear hbw
      go_wp2
      go_ret
      exact ⟨rfl, HBW.out⟩
    · have H2 := Lib.hid h2
      have hne : ((s : Int) == (t : Int)) = false := by
        rw [beq_eq_false_iff_ne]; intro h; exact h2 (HE.out.1 (by omega)).2
      clear h2
      go_wp2_with fail
      refine (in_yes s t hs ht H1.out _).mono ?_
      rintro e v25 ⟨rfl, rfl⟩
      go_wp2_with fail
      refine (in_no t s ht hs H2.out _).mono ?_
      rintro e v26 ⟨rfl, rfl⟩
      go_wp2_with fail
      refine (wakes_any _ (HT.below HW.out)).mono ?_
      rintro e v27 ⟨rfl, hbw⟩
      have HBW := Lib.hid (below_cat HW.out hbw)
      clear hbw
      go_wp2
      go_ret
      exact ⟨rfl, HBW.out⟩
  · have H1 := Lib.hid h1
    have hne : ((s : Int) == (t : Int)) = false := by
      rw [beq_eq_false_iff_ne]; intro h; exact h1 (HE.out.1 (by omega)).1
    have hz : (((less s t : Nat) : Int) == 0) = false := by
      rw [beq_eq_false_iff_ne]; omega
    clear h1
    go_wp2_with fail
    refine (in_no s t hs ht H1.out _).mono ?_
    rintro e v23 ⟨rfl, rfl⟩
    go_wp2_with fail
    refine (of_none _).mono ?_
    rintro e v24 ⟨rfl, rfl⟩
    go_wp2_with fail
    refine (in_no s t hs ht H1.out _).mono ?_
    rintro e v25 ⟨rfl, rfl⟩
    go_wp2_with fail
    refine (wakes_any _ (HT.below HW.out)).mono ?_
    rintro e v27 ⟨rfl, hbw⟩
    have HBW := Lib.hid (below_cat HW.out hbw)
    clear hbw
    go_wp2
    go_ret
    exact ⟨rfl, HBW.out⟩
end Go.Proofs.YtpoajifabjlhjaaDoor
