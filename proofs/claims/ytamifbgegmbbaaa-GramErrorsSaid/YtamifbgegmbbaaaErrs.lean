/- GramErrors: the walk. -/
import Derived.Test.YtamifbgegmbbaaaErrsF
namespace Go.Proofs.Ytamifbgegmbbaaa
open Go.RowKit
open Doc

theorem errs_cells : (#[.string ⟨#[83, 58, 32, 97, 32, 59]⟩, .int .i64 1, .int .i64 6, .int .i64 2, .string ⟨#[97, 58, 32, 98, 10]⟩, .int .i64 1, .int .i64 1, .int .i64 2, .string ⟨#[83, 32, 97, 10]⟩, .int .i64 1, .int .i64 3, .int .i64 2, .string ⟨#[83, 58, 32, 97, 32, 58, 32, 98, 10]⟩, .int .i64 1, .int .i64 6, .int .i64 2, .string ⟨#[83, 10]⟩, .int .i64 1, .int .i64 2, .int .i64 2, .string ⟨#[124, 32, 97, 10]⟩, .int .i64 1, .int .i64 1, .int .i64 2, .string ⟨#[83, 58, 32, 84, 10, 83, 58, 32, 97, 10]⟩, .int .i64 2, .int .i64 1, .int .i64 4, .string ⟨#[83, 58, 32, 84, 32, 97, 10]⟩, .int .i64 1, .int .i64 4, .int .i64 3, .string ⟨#[83, 58, 32, 97, 32, 124, 32, 98, 32, 124, 32, 97, 10]⟩, .int .i64 1, .int .i64 12, .int .i64 4, .string ⟨#[83, 58, 32, 124, 32, 97, 32, 124, 10]⟩, .int .i64 1, .int .i64 9, .int .i64 4, .string ⟨#[83, 58, 32, 124, 32, 124, 10]⟩, .int .i64 1, .int .i64 6, .int .i64 4, .string ⟨#[83, 58, 32, 97, 32, 98, 32, 99, 32, 100, 32, 101, 32, 102, 32, 97, 10]⟩, .int .i64 1, .int .i64 16, .int .i64 5, .string ⟨#[83, 58, 32, 97, 32, 98, 32, 99, 32, 100, 32, 101, 32, 102, 32, 84, 10]⟩, .int .i64 1, .int .i64 16, .int .i64 5, .string ⟨#[83, 58, 32, 97, 32, 98, 32, 99, 32, 100, 10, 84, 58, 32, 101, 32, 102, 32, 103, 32, 104, 32, 105, 10]⟩, .int .i64 2, .int .i64 12, .int .i64 5, .string ⟨#[83, 58, 32, 84, 10, 84, 58, 32, 83, 10, 85, 58, 32, 59, 10]⟩, .int .i64 3, .int .i64 4, .int .i64 2] : Array Value).toList = errs.flatMap bcells := rfl
theorem more_cells : (#[.string ⟨#[]⟩, .string ⟨#[10]⟩, .string ⟨#[35, 32, 97, 10]⟩, .string ⟨#[83, 58, 32, 83, 10]⟩, .string ⟨#[83, 58, 10]⟩, .string ⟨#[83, 58, 32, 84, 32, 124, 10, 84, 58, 32, 83, 10]⟩] : Array Value).toList = strs more := rfl

set_option maxRecDepth 100000 in
set_option maxHeartbeats 8000000 in
theorem errs_walk (pad : Int) (w : World) : Calls Try.prog 4 #[.int .i64 pad] w fun e w' => e = .returned (.bool true) ∧ Below w.heap.size w w' := by
  obtain ⟨n, hn, hnp⟩ : ∃ n : Nat, n < 4 ∧ pad % 4 = n := ⟨(pad % 4).toNat, by omega, by omega⟩
  have hpx := pads_ext n hn
  have hpl : (pads n).length = n := by simp [pads]
  have hn4 : (n : Int) ≤ 4 := by omega
  have HN := Lib.hid hn
  have HNP := Lib.hid hnp
  clear hnp
  go_enter Try.func4, Try.ntmps4
  go_wp2_with (go_at_call 10; refine (within_any pad 4 (by decide) (by decide) _).mono ?_; rintro e w1 ⟨rfl, rfl⟩; rw [HNP.out])
  rename World => w1
  have hS : Below w1.heap.size w1 (w1.alloc (.cells #[.string ⟨#[83, 58, 32, 97, 32, 59]⟩, .int .i64 1, .int .i64 6, .int .i64 2, .string ⟨#[97, 58, 32, 98, 10]⟩, .int .i64 1, .int .i64 1, .int .i64 2, .string ⟨#[83, 32, 97, 10]⟩, .int .i64 1, .int .i64 3, .int .i64 2, .string ⟨#[83, 58, 32, 97, 32, 58, 32, 98, 10]⟩, .int .i64 1, .int .i64 6, .int .i64 2, .string ⟨#[83, 10]⟩, .int .i64 1, .int .i64 2, .int .i64 2, .string ⟨#[124, 32, 97, 10]⟩, .int .i64 1, .int .i64 1, .int .i64 2, .string ⟨#[83, 58, 32, 84, 10, 83, 58, 32, 97, 10]⟩, .int .i64 2, .int .i64 1, .int .i64 4, .string ⟨#[83, 58, 32, 84, 32, 97, 10]⟩, .int .i64 1, .int .i64 4, .int .i64 3, .string ⟨#[83, 58, 32, 97, 32, 124, 32, 98, 32, 124, 32, 97, 10]⟩, .int .i64 1, .int .i64 12, .int .i64 4, .string ⟨#[83, 58, 32, 124, 32, 97, 32, 124, 10]⟩, .int .i64 1, .int .i64 9, .int .i64 4, .string ⟨#[83, 58, 32, 124, 32, 124, 10]⟩, .int .i64 1, .int .i64 6, .int .i64 4, .string ⟨#[83, 58, 32, 97, 32, 98, 32, 99, 32, 100, 32, 101, 32, 102, 32, 97, 10]⟩, .int .i64 1, .int .i64 16, .int .i64 5, .string ⟨#[83, 58, 32, 97, 32, 98, 32, 99, 32, 100, 32, 101, 32, 102, 32, 84, 10]⟩, .int .i64 1, .int .i64 16, .int .i64 5, .string ⟨#[83, 58, 32, 97, 32, 98, 32, 99, 32, 100, 10, 84, 58, 32, 101, 32, 102, 32, 103, 32, 104, 32, 105, 10]⟩, .int .i64 2, .int .i64 12, .int .i64 5, .string ⟨#[83, 58, 32, 84, 10, 84, 58, 32, 83, 10, 85, 58, 32, 59, 10]⟩, .int .i64 3, .int .i64 4, .int .i64 2] 41)) := (Below.refl _ _).alloc (Nat.le_refl _) _
  have hC : Cells (w1.alloc (.cells #[.string ⟨#[83, 58, 32, 97, 32, 59]⟩, .int .i64 1, .int .i64 6, .int .i64 2, .string ⟨#[97, 58, 32, 98, 10]⟩, .int .i64 1, .int .i64 1, .int .i64 2, .string ⟨#[83, 32, 97, 10]⟩, .int .i64 1, .int .i64 3, .int .i64 2, .string ⟨#[83, 58, 32, 97, 32, 58, 32, 98, 10]⟩, .int .i64 1, .int .i64 6, .int .i64 2, .string ⟨#[83, 10]⟩, .int .i64 1, .int .i64 2, .int .i64 2, .string ⟨#[124, 32, 97, 10]⟩, .int .i64 1, .int .i64 1, .int .i64 2, .string ⟨#[83, 58, 32, 84, 10, 83, 58, 32, 97, 10]⟩, .int .i64 2, .int .i64 1, .int .i64 4, .string ⟨#[83, 58, 32, 84, 32, 97, 10]⟩, .int .i64 1, .int .i64 4, .int .i64 3, .string ⟨#[83, 58, 32, 97, 32, 124, 32, 98, 32, 124, 32, 97, 10]⟩, .int .i64 1, .int .i64 12, .int .i64 4, .string ⟨#[83, 58, 32, 124, 32, 97, 32, 124, 10]⟩, .int .i64 1, .int .i64 9, .int .i64 4, .string ⟨#[83, 58, 32, 124, 32, 124, 10]⟩, .int .i64 1, .int .i64 6, .int .i64 4, .string ⟨#[83, 58, 32, 97, 32, 98, 32, 99, 32, 100, 32, 101, 32, 102, 32, 97, 10]⟩, .int .i64 1, .int .i64 16, .int .i64 5, .string ⟨#[83, 58, 32, 97, 32, 98, 32, 99, 32, 100, 32, 101, 32, 102, 32, 84, 10]⟩, .int .i64 1, .int .i64 16, .int .i64 5, .string ⟨#[83, 58, 32, 97, 32, 98, 32, 99, 32, 100, 10, 84, 58, 32, 101, 32, 102, 32, 103, 32, 104, 32, 105, 10]⟩, .int .i64 2, .int .i64 12, .int .i64 5, .string ⟨#[83, 58, 32, 84, 10, 84, 58, 32, 83, 10, 85, 58, 32, 59, 10]⟩, .int .i64 3, .int .i64 4, .int .i64 2] 41)) (some ⟨w1.heap.size, 0, none⟩) (errs.flatMap bcells) := errs_cells ▸ cells_new w1 _ _
  have HC := Lib.hid hC
  have HS := Lib.hid hS
  clear hC hS
  generalize (w1.alloc (.cells #[.string ⟨#[83, 58, 32, 97, 32, 59]⟩, .int .i64 1, .int .i64 6, .int .i64 2, .string ⟨#[97, 58, 32, 98, 10]⟩, .int .i64 1, .int .i64 1, .int .i64 2, .string ⟨#[83, 32, 97, 10]⟩, .int .i64 1, .int .i64 3, .int .i64 2, .string ⟨#[83, 58, 32, 97, 32, 58, 32, 98, 10]⟩, .int .i64 1, .int .i64 6, .int .i64 2, .string ⟨#[83, 10]⟩, .int .i64 1, .int .i64 2, .int .i64 2, .string ⟨#[124, 32, 97, 10]⟩, .int .i64 1, .int .i64 1, .int .i64 2, .string ⟨#[83, 58, 32, 84, 10, 83, 58, 32, 97, 10]⟩, .int .i64 2, .int .i64 1, .int .i64 4, .string ⟨#[83, 58, 32, 84, 32, 97, 10]⟩, .int .i64 1, .int .i64 4, .int .i64 3, .string ⟨#[83, 58, 32, 97, 32, 124, 32, 98, 32, 124, 32, 97, 10]⟩, .int .i64 1, .int .i64 12, .int .i64 4, .string ⟨#[83, 58, 32, 124, 32, 97, 32, 124, 10]⟩, .int .i64 1, .int .i64 9, .int .i64 4, .string ⟨#[83, 58, 32, 124, 32, 124, 10]⟩, .int .i64 1, .int .i64 6, .int .i64 4, .string ⟨#[83, 58, 32, 97, 32, 98, 32, 99, 32, 100, 32, 101, 32, 102, 32, 97, 10]⟩, .int .i64 1, .int .i64 16, .int .i64 5, .string ⟨#[83, 58, 32, 97, 32, 98, 32, 99, 32, 100, 32, 101, 32, 102, 32, 84, 10]⟩, .int .i64 1, .int .i64 16, .int .i64 5, .string ⟨#[83, 58, 32, 97, 32, 98, 32, 99, 32, 100, 10, 84, 58, 32, 101, 32, 102, 32, 103, 32, 104, 32, 105, 10]⟩, .int .i64 2, .int .i64 12, .int .i64 5, .string ⟨#[83, 58, 32, 84, 10, 84, 58, 32, 83, 10, 85, 58, 32, 59, 10]⟩, .int .i64 3, .int .i64 4, .int .i64 2] 41)) = S at *
  generalize hB1 : w1.heap.size = B1 at *
  have HB1 := Lib.hid hB1
  clear hB1
  go_loopw [38] (fun i wr => ∃ k : Nat, k ≤ 15 ∧ i = .int .i64 k ∧ Below S.heap.size S wr) (fun i _ => 15 - (intOf i).toNat)
  case atStart => exact ⟨0, by omega, rfl, Below.refl _ _⟩
  case round =>
    obtain ⟨k, hk, rfl, hbe⟩ := hrel
    by_cases hlt : k < 15
    · obtain ⟨x, hxk⟩ : ∃ x, errs[k]? = some x := ⟨_, List.getElem?_eq_getElem hlt⟩
      have hxm := List.mem_of_getElem? hxk
      have hlen := errs_len x hxm
      have hpar := errs_parse n HN.out x hxm
      obtain ⟨b, o, he, hbl, hc⟩ := (HC.out.below hbe).get (by decide)
      cases he
      obtain ⟨q0, q1, q2, q3⟩ := ball_at errs k x hxk
      have c0 := hc _ _ q0
      have c1 := hc _ _ q1
      have c2 := hc _ _ q2
      have c3 := hc _ _ q3
      simp only [Nat.zero_add] at c0 c1 c2 c3
      have e1 : (k : Int) < 15 := by omega
      obtain ⟨xs, xl, xc, xe⟩ := x
      simp only at c0 c1 c2 c3 hpar hlen
      have hcat : ∀ W, (Op.stringOp .add ⟨(pads n).toArray⟩ ⟨xs.toArray⟩).run Try.prog W = .ok (.string ⟨(pads n ++ xs).toArray⟩) W := fun W => cat_run _ _ W (by omega)
      have hpp := fun W => parse_no ⟨(pads n ++ xs).toArray⟩ _ _ _ W (by show (pads n ++ xs).length ≤ _; rw [List.length_append]; omega) hpar
      have HPP := Lib.hid hpp
      have HBE := Lib.hid hbe
      have hl3 : (xl : Int) ≤ 3 := by omega
      have hsum : ((xl + n : Nat) : Int) = (xl : Int) + n := by push_cast; rfl
      have HSUM := Lib.hid hsum
      have HAL := Lib.hid fun o => hbe.alloc hbe.size o
      clear hpp hpar hc q0 q1 q2 q3 hxk hxm hbe hlen hsum
      go_wp2_with (first
        | (go_at_call 11; refine (HPP.out _).mono ?_; rintro e w2 ⟨rfl, hb2⟩; rw [HSUM.out]
           have hz2 : wr.heap.size < w2.heap.size := Nat.lt_of_lt_of_le (by simp) hb2.size
           have p1 := (hb2.cell (p := ⟨wr.heap.size, 1, none⟩) (by simp)).trans (by go_simp : _ = some (.int .i64 xl))
           have p2 := (hb2.cell (p := ⟨wr.heap.size, 2, none⟩) (by simp)).trans (by go_simp : _ = some (.int .i64 xc))
           have p3 := (hb2.cell (p := ⟨wr.heap.size, 3, none⟩) (by simp)).trans (by go_simp : _ = some (.int .i64 xe)))
        | (go_at_call 14; refine (same_nil _).mono ?_; rintro e w3 ⟨rfl, hb3⟩))
      go_roundw
      case rel =>
        have h2 : Below S.heap.size S w2 := (HAL.out _).trans (hb2.mono (HAL.out _).size)
        have h3 := h2.alloc h2.size (.cells #[.slice none 0 0, .slice none 0 0, .slice none 0 0] 29)
        exact ⟨k + 1, by omega, by go_num, h3.trans (hb3.mono h3.size)⟩
      case measure => simp [intOf]; omega
    · have e1 : ¬ (k : Int) < 15 := by omega
      have HBE := Lib.hid hbe
      clear hbe
      go_wp2
      have hS2 : Below wr.heap.size wr (wr.alloc (.cells #[.string ⟨#[]⟩, .string ⟨#[10]⟩, .string ⟨#[35, 32, 97, 10]⟩, .string ⟨#[83, 58, 32, 83, 10]⟩, .string ⟨#[83, 58, 10]⟩, .string ⟨#[83, 58, 32, 84, 32, 124, 10, 84, 58, 32, 83, 10]⟩] 9)) := (Below.refl _ _).alloc (Nat.le_refl _) _
      have hC2 : Cells (wr.alloc (.cells #[.string ⟨#[]⟩, .string ⟨#[10]⟩, .string ⟨#[35, 32, 97, 10]⟩, .string ⟨#[83, 58, 32, 83, 10]⟩, .string ⟨#[83, 58, 10]⟩, .string ⟨#[83, 58, 32, 84, 32, 124, 10, 84, 58, 32, 83, 10]⟩] 9)) (some ⟨wr.heap.size, 0, none⟩) (strs more) := more_cells ▸ cells_new wr _ _
      have HC2 := Lib.hid hC2
      have HB2 := Lib.hid (HBE.out.trans (hS2.mono HBE.out.size))
      clear hC2 hS2
      generalize (wr.alloc (.cells #[.string ⟨#[]⟩, .string ⟨#[10]⟩, .string ⟨#[35, 32, 97, 10]⟩, .string ⟨#[83, 58, 32, 83, 10]⟩, .string ⟨#[83, 58, 10]⟩, .string ⟨#[83, 58, 32, 84, 32, 124, 10, 84, 58, 32, 83, 10]⟩] 9)) = S2 at *
      generalize wr.heap.size = B2 at *
      go_loopw [79] (fun i w6 => ∃ k : Nat, k ≤ 6 ∧ i = .int .i64 k ∧ Below S2.heap.size S2 w6) (fun i _ => 6 - (intOf i).toNat)
      case atStart => exact ⟨0, by omega, rfl, Below.refl _ _⟩
      case round =>
        clear hlt e1 hk
        obtain ⟨k, hk, rfl, hbe⟩ := hrel
        rename World => w6
        by_cases hlt : k < 6
        · obtain ⟨x, hxk⟩ : ∃ x, more[k]? = some x := ⟨_, List.getElem?_eq_getElem hlt⟩
          have hxm := List.mem_of_getElem? hxk
          have hlen := more_len x hxm
          have hpar := more_parse n HN.out x hxm
          obtain ⟨b, o, he, hbl, hc⟩ := (HC2.out.below hbe).get (by decide)
          cases he
          have c0 := hc _ _ (strs_at hxk)
          simp only [Nat.zero_add] at c0
          have e1 : (k : Int) < 6 := by omega
          have hcat : ∀ W, (Op.stringOp .add ⟨(pads n).toArray⟩ ⟨x.toArray⟩).run Try.prog W = .ok (.string ⟨(pads n ++ x).toArray⟩) W := fun W => cat_run _ _ W (by omega)
          have hpp := fun W => parse_no ⟨(pads n ++ x).toArray⟩ _ _ _ W (by show (pads n ++ x).length ≤ _; rw [List.length_append]; omega) hpar
          have HPP := Lib.hid hpp
          have HBE6 := Lib.hid hbe
          clear hpp hpar hc hxk hxm hbe hlen
          go_wp2_with (first
            | (go_at_call 11; refine (HPP.out _).mono ?_; rintro e w2 ⟨rfl, hb2⟩)
            | (go_at_call 14; refine (same_nil _).mono ?_; rintro e w3 ⟨rfl, hb3⟩))
          go_roundw
          case rel =>
            have h2 : Below S2.heap.size S2 w2 := HBE6.out.trans (hb2.mono HBE6.out.size)
            have h3 := h2.alloc h2.size (.cells #[.slice none 0 0, .slice none 0 0, .slice none 0 0] 29)
            exact ⟨k + 1, by omega, by go_num, h3.trans (hb3.mono h3.size)⟩
          case measure => simp [intOf]; omega
        · have e1 : ¬ (k : Int) < 6 := by omega
          have HBE6 := Lib.hid hbe
          clear hbe
          go_wp2_with (go_at_call 16; refine (wakes_any _).mono ?_; rintro e w9 ⟨rfl, hb9⟩)
          go_ret
          have hs1 : B1 ≤ S.heap.size := HB1.out ▸ HS.out.size
          have h1 := HS.out.trans (HB2.out.mono hs1)
          have h2 := h1.trans (HBE6.out.mono (HB1.out ▸ h1.size))
          exact ⟨rfl, by rw [HB1.out]; exact h2.trans (hb9.mono (HB1.out ▸ h2.size))⟩

end Go.Proofs.Ytamifbgegmbbaaa
