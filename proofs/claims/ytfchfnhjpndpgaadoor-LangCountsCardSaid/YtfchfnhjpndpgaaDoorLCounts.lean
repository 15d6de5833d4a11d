/- LangCounts, walked. -/
import Derived.Test.YtfchfnhjpndpgaaDoorTrkV
import Derived.Test.YtfchfnhjpndpgaaDoorRLess
set_option linter.unusedVariables false
namespace Go.Proofs.YtfchfnhjpndpgaaDoor
open Go.RowKit
open Doc

def sumP (t : Nat) : Nat → Nat
  | 0 => 0
  | i + 1 => sumP t i + t ^ i
theorem sumP_levs (t : Nat) : ∀ n, (Al.levs t n).length = sumP t (n + 1)
  | 0 => by simp [Al.levs, sumP]
  | n + 1 => by
    show (Al.levs t n ++ Al.lev t (n + 1)).length = _
    rw [List.length_append, sumP_levs t n, Al.lev_len]; rfl
theorem pow_top {t i : Nat} (ht : t < 5) (hi : i ≤ 5) : t ^ i ≤ 1024 :=
  Nat.le_trans (Nat.pow_le_pow_left (show t ≤ 4 by omega) i) (Nat.le_trans (Nat.pow_le_pow_right (by omega) hi) (by decide))
theorem sumP_top {t : Nat} (ht : t < 5) : ∀ i, i ≤ 5 → sumP t i ≤ 1024 * i
  | 0, _ => by simp [sumP]
  | i + 1, h => by
    have h1 := sumP_top ht i (by omega)
    have h2 := pow_top ht (i := i) (by omega)
    show sumP t i + t ^ i ≤ _
    omega
set_option maxRecDepth 100000 in
set_option maxHeartbeats 8000000 in
theorem langCounts_walk (x y : Int) (w : World) (hT : Tab32 w) :
    Calls Tryd.prog 4 #[.int .i64 x, .int .i64 y] w fun e w' => e = .returned (.bool true) ∧ Below w.heap.size w w' := by
  obtain ⟨t, ht, htl⟩ : ∃ v : Nat, x % 5 = v ∧ v < 5 := ⟨(x % 5).toNat, by omega, by omega⟩
  obtain ⟨n, hn, hnl⟩ : ∃ v : Nat, y % 5 = v ∧ v < 5 := ⟨(y % 5).toNat, by omega, by omega⟩
  have HW1 := Lib.hid fun W => (within_any x 5 (by omega) (by omega) W).mono fun e w' h => (⟨h.1.trans (by rw [ht]), h.2⟩ : e = Ending.returned (.int .i64 t) ∧ w' = W)
  have HW2 := Lib.hid fun W => (within_any y 5 (by omega) (by omega) W).mono fun e w' h => (⟨h.1.trans (by rw [hn]), h.2⟩ : e = Ending.returned (.int .i64 n) ∧ w' = W)
  have HTT := Lib.hid hT
  clear ht hn hT
  go_enter Tryd.func4, Tryd.ntmps4
  go_wp2_with (first
    | (go_at_call 13; (with_reducible refine (HW1.out _).mono ?_); rintro e w9 ⟨rfl, hw9⟩; obtain rfl := hw9.symm)
    | (go_at_call 13; (with_reducible refine (HW2.out _).mono ?_); rintro e w9 ⟨rfl, hw9⟩; obtain rfl := hw9.symm))
  rename World => w
  clear HW1 HW2
  go_loopw [5, 6, 7] (fun a b i wr => ∃ (j s p : Nat), j ≤ n + 1 ∧ a = .int .i64 s ∧ b = .int .i64 p ∧ i = .int .i64 j ∧ Hid (s = sumP t j) ∧ Hid (p = t ^ j) ∧ wr = w) (fun _ _ i _ => n + 1 - (intOf i).toNat)
  case atStart => exact ⟨0, 0, 1, by omega, rfl, rfl, rfl, Lib.hid rfl, Lib.hid rfl, rfl⟩
  case round =>
    obtain ⟨j, s, p, hj, rfl, rfl, rfl, HS, HP, rfl⟩ := hrel
    by_cases hlt : j < n + 1
    · have e1 : (j : Int) ≤ n := by omega
      have h1 := sumP_top htl j (by omega)
      have h2 := pow_top htl (i := j) (by omega)
      have h3 := pow_top htl (i := j + 1) (by omega)
      have HP1 := Lib.hid (show p * t = t ^ (j + 1) by rw [HP.out, Nat.pow_succ])
      have HS1 := Lib.hid (show s + p = sumP t (j + 1) by rw [HS.out, HP.out]; rfl)
      rw [← HS.out] at h1
      rw [← HP.out] at h2
      rw [← HP1.out] at h3
      have hw : IntKind.i64.wrap ((p : Int) * (t : Int)) = ((p * t : Nat) : Int) := by
        rw [← Int.natCast_mul]
        exact IntWalk.i64_in _ (by omega)
      generalize hq : p * t = q at *
      have HQ := Lib.hid hq
      clear hq
      go_wp2
      go_roundw
      case rel => exact ⟨j + 1, s + p, q, by omega, by go_num, rfl, by go_num, HS1, HP1, by first | rfl | trivial⟩
      case measure => simp [intOf]; omega
    · obtain rfl : j = n + 1 := by omega
      have HLA := Lib.hid (lall_any t n (by omega) (by omega) wr)
      go_upto_region 8 with (go_at_call 19; (with_reducible refine HLA.out.mono ?_); rintro e w2 ⟨a, c, R, rfl, hR, hG, hB⟩)
      have hlen : R.length = s := by rw [HS.out, ← sumP_levs, ← hR, List.length_map]
      subst hlen
      have h1 := sumP_top htl (n + 1) (by omega)
      rw [← HS.out] at h1
      have hpos : 1 ≤ R.length := by
        rw [show R.length = (R.map (·.row)).length by rw [List.length_map], hR]
        exact List.length_pos_of_mem (Al.levs_word.2 ⟨Nat.zero_le n, fun s hs => by cases hs⟩ : ([] : List Int) ∈ Al.levs t n)
      have HG := Lib.hid hG
      have HB := Lib.hid hB
      have HRL := Lib.hid hR
      have HCC := Lib.hid fun (W : World) m (hW : W = w2.drewN m) => (own_cells hG.own).1.below (hW ▸ below_drews (Below.refl _ _) m : Below w2.heap.size w2 W)
      have HRR := Lib.hid fun (W : World) m (hW : W = w2.drewN m) r hr => (hG.rows r hr).below (hW ▸ below_drews (Below.refl _ _) m : Below w2.heap.size w2 W)
      have HLE := Lib.hid fun (r : RowL) (hr : r ∈ R) => (show r.row.length ≤ n from (Al.levs_word.1 (hR ▸ List.mem_map_of_mem hr : r.row ∈ Al.levs t n)).1)
      clear hG hB hR HLA hlt
      go_wp2_with fail
      go_loopw [9] (fun i wr => ∃ (m q : Nat), m + 1 ≤ R.length ∧ i = .int .i64 ((m : Int) + 1) ∧ Hid (wr = w2.drewN q)) (fun i _ => R.length - (intOf i).toNat)
      case atStart => exact ⟨0, 0, hpos, by go_num, Lib.hid rfl⟩
      case round =>
        obtain ⟨m, q, hm, rfl, HWR⟩ := hrel
        by_cases hlt : m + 1 < R.length
        · obtain ⟨r1, hr1⟩ : ∃ r, R[m]? = some r := ⟨_, List.getElem?_eq_getElem (by omega)⟩
          obtain ⟨r2, hr2⟩ : ∃ r, R[m + 1]? = some r := ⟨_, List.getElem?_eq_getElem hlt⟩
          have hm1 := List.mem_of_getElem? hr1
          have hm2 := List.mem_of_getElem? hr2
          have hls : Wd.lessI r1.row r2.row = true := Al.levs_next (t := t) (k := n) (i := m) (by rw [← HRL.out, List.getElem?_map, hr1]; rfl) (by rw [← HRL.out, List.getElem?_map, hr2]; rfl)
          obtain ⟨b, off, rfl, hb, hc⟩ := (HCC.out wr q HWR.out).get (by intro e; have := rowVs_at hr1; rw [e] at this; simp at this)
          have c1 := hc _ _ (rowVs_at hr1)
          have c2 := hc _ _ (rowVs_at hr2)
          have c3 := c2
          rw [← Nat.add_assoc] at c3
          have hl1 := HLE.out r1 hm1
          have hl2 := HLE.out r2 hm2
          have e1 : (m : Int) + 1 < R.length := by omega
          have hws : IntKind.i64.wrap ((m : Int) + 1 - 1) = (m : Int) := by rw [show (m : Int) + 1 - 1 = (m : Int) by omega]; exact IntWalk.i64_in _ (by omega)
          have e2 : decide ((r2.row.length : Int) > (n : Int)) = false := by simp; omega
          have HLS := Lib.hid fun (a : Nat) => ((rless_any r1.addr r2.addr r1.cap r2.cap r1.row r2.row (wr.drewN a) ((HRR.out wr q HWR.out r1 hm1).below (below_drews (Below.refl _ _) a)) ((HRR.out wr q HWR.out r2 hm2).below (below_drews (Below.refl _ _) a)) (by omega) (by omega)).mono fun e w' ⟨he, m, hw⟩ => ⟨he.trans (by rw [hls]), _, hw.trans (World.drewN_drewN ..)⟩ : Calls Tryd.prog 20 #[.slice r1.addr r1.row.length r1.cap, .slice r2.addr r2.row.length r2.cap] (wr.drewN a) fun e w' => e = .returned (.bool true) ∧ ∃ m, w' = wr.drewN m)
          clear hc hr1 hr2 hm1 hm2 hls
          obtain ⟨a1, k1, u1⟩ := r1
          obtain ⟨a2, k2, u2⟩ := r2
          simp only at *
          go_wp2_with fail
          go_quiet ((go_at_call 20; exact HLS.out _))
          go_wp2
          go_roundw
          case rel => exact ⟨m + 1, q + nq, by omega, by go_num, Lib.hid (by rw [HWR.out, World.drewN_drewN])⟩
          case measure => simp [intOf]; omega
        · have hml : R.length = m + 1 := by omega
          have e1 : ¬ (m : Int) + 1 < R.length := by omega
          clear hml
          have hB2 : Below w2.heap.size w2 wr := HWR.out ▸ below_drews (Below.refl _ _) q
          have HB3 := Lib.hid (HB.out.trans (hB2.mono HB.out.size))
          have HN1 := Lib.hid fun W => lall_no 9 1 (by omega) W
          have HN2 := Lib.hid fun W => lall_no (-1) 1 (by omega) W
          have HN3 := Lib.hid fun W => lall_no 2 6 (by omega) W
          have HN4 := Lib.hid fun W => lall_no 2 (-1) (by omega) W
          have HWK := Lib.hid (lwakes_any wr (HTT.out.below HB3.out))
          clear hB2 HB HG HCC HRR HLE HRL HWR
          go_wp2_with (first
            | (go_at_call 19; (with_reducible refine (HN1.out _).mono ?_); rintro e w9 ⟨rfl, hw9⟩; obtain rfl := hw9.symm)
            | (go_at_call 19; (with_reducible refine (HN2.out _).mono ?_); rintro e w9 ⟨rfl, hw9⟩; obtain rfl := hw9.symm)
            | (go_at_call 19; (with_reducible refine (HN3.out _).mono ?_); rintro e w9 ⟨rfl, hw9⟩; obtain rfl := hw9.symm)
            | (go_at_call 19; (with_reducible refine (HN4.out _).mono ?_); rintro e w9 ⟨rfl, hw9⟩; obtain rfl := hw9.symm)
            | (go_at_call 18; refine HWK.out.mono ?_; rintro e w8 ⟨rfl, hb8⟩))
          go_ret
          exact ⟨rfl, HB3.out.trans (hb8.mono HB3.out.size)⟩
end Go.Proofs.YtfchfnhjpndpgaaDoor
