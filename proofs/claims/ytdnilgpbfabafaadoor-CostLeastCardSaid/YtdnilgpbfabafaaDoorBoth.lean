/- Contracts of cost's calls and of the document's own, for whatever words and counts: what CostTells holds against each other. -/
import Derived.Test.YtdnilgpbfabafaaDoorAny
import Derived.Deep.AppendLies
namespace Go.Proofs.YtdnilgpbfabafaaDoor
open Go.RowKit

/-- A slice of words that the walk knows. -/
def IsFl (w : World) (a : Option Addr) (n : Nat) (xs : List Nat) : Prop := xs.length = n ∧ (∀ y ∈ xs, y < 18446744073709551616) ∧ n ≤ 64 ∧ (n = 0 ∨ ∃ g, a = some ⟨g, 0, none⟩ ∧ ∀ j, j < n → w.cell? ⟨g, 0 + j, none⟩ = some (.float .f64 (xs.getD j 0)))
theorem IsFl.below {w w' : World} {a : Option Addr} {n : Nat} {xs : List Nat} (h : IsFl w a n xs) (hb : Below w.heap.size w w') : IsFl w' a n xs := by
  obtain ⟨h1, h2, h3, h4⟩ := h
  refine ⟨h1, h2, h3, ?_⟩
  rcases h4 with h | ⟨g, rfl, hc⟩
  · exact .inl h
  · exact .inr ⟨g, rfl, fun j hj => (hb.cell (World.block_lt_of_cell? w _ (hc j hj))).trans (hc j hj)⟩
theorem isFl_of_own {w : World} {base k : Nat} {v : Value} {xs : List Nat} (hxs : xs.length = k) (hx : ∀ y ∈ xs, y < 18446744073709551616) (hk : k ≤ 64) (h : w.ownsRow base 24 1 v k (xs.map (Value.float .f64))) : ∃ a cap, v = .slice a k cap ∧ IsFl w a k xs := by
  rcases h.2 with ⟨rfl, rfl⟩ | ⟨g, cap, cur, rfl, _⟩
  · exact ⟨none, 0, rfl, hxs, hx, hk, .inl rfl⟩
  · refine ⟨_, _, rfl, hxs, hx, hk, ?_⟩
    refine .inr ⟨g, rfl, fun j hj => ?_⟩
    rw [Nat.zero_add, h.cellAt j (by omega), List.getElem?_map, List.getElem?_eq_getElem (by omega), Fl.getD_at xs j (by omega)]; rfl

theorem sum_fl {w : World} {a : Option Addr} {n : Nat} {xs : List Nat} (cap : Nat) (h : IsFl w a n xs) : Calls Tryd.prog 12 #[.slice a n cap] w fun e w' => e = .returned (.float .f64 (Fl.sumW xs)) ∧ w' = w := by
  obtain ⟨h1, h2, h3, h4 | ⟨g, rfl, hc⟩⟩ := h
  · subst h4
    obtain rfl : xs = [] := List.eq_nil_of_length_eq_zero h1
    exact sum_empty a cap w
  · exact sum_some g 0 cap n xs w h1.symm (by omega) h2 hc
theorem least_fl {w : World} {a : Option Addr} {n : Nat} {xs : List Nat} (cap : Nat) (h : IsFl w a n xs) : Calls Tryd.prog 15 #[.slice a n cap] w fun e w' => e = .returned (.int .i64 (Fl.pick xs).1) ∧ w' = w := by
  obtain ⟨h1, h2, h3, h4 | ⟨g, rfl, hc⟩⟩ := h
  · subst h4
    obtain rfl : xs = [] := List.eq_nil_of_length_eq_zero h1
    exact least_empty a cap w
  · exact least_some g 0 cap n xs w h1.symm (by omega) h2 hc
theorem ref_sum_fl {w : World} {a : Option Addr} {n : Nat} {xs : List Nat} (cap : Nat) (h : IsFl w a n xs) : Calls Tryd.prog 20 #[.slice a n cap] w (SumPost xs w) := by
  obtain ⟨h1, h2, h3, h4 | ⟨g, rfl, hc⟩⟩ := h
  · subst h4
    obtain rfl : xs = [] := List.eq_nil_of_length_eq_zero h1
    exact ref_sum_empty a cap w
  · exact ref_sum_some g 0 cap n xs w h1.symm (by omega) h2 hc
theorem ref_least_empty (a : Option Addr) (cap : Nat) (w : World) : Calls Tryd.prog 21 #[.slice a 0 cap] w fun e w' => e = .returned (.int .i64 (-1)) ∧ w' = w := by
  go_enter Tryd.func21, Tryd.ntmps21
  go_wp2
  go_loop [3, 8] (fun t i => i = .int .i64 0 ∧ t = .int .i64 (-1)) (fun _ _ => 0)
  case atStart => exact ⟨rfl, rfl⟩
  case round =>
    obtain ⟨rfl, rfl⟩ := hrel
    go_wp2
    go_ret
    exact ⟨rfl, rfl⟩
theorem ref_least_fl {w : World} {a : Option Addr} {n : Nat} {xs : List Nat} (cap : Nat) (h : IsFl w a n xs) : Calls Tryd.prog 21 #[.slice a n cap] w fun e w' => e = .returned (.int .i64 (Fl.pick xs).1) ∧ w' = w := by
  obtain ⟨h1, h2, h3, h4 | ⟨g, rfl, hc⟩⟩ := h
  · subst h4
    obtain rfl : xs = [] := List.eq_nil_of_length_eq_zero h1
    exact ref_least_empty a cap w
  · exact ref_least_some g 0 cap n xs w h1.symm (by omega) h2 hc

/-- A cost's text. -/
def costText (b : Nat) : List UInt8 := if Fl.right b = false then [110, 111, 110, 101] else if b = 9218868437227405312 then [101, 110, 100, 108, 101, 115, 115] else if 4816244402031689728 ≤ b then [98, 105, 103] else text (Fl.tenths b)
theorem print_any (b : Nat) (hb : b < 18446744073709551616) (w : World) (HT : Tab w) : Calls Tryd.prog 10 #[.float .f64 b] w fun e w' => e = .returned (.string ⟨(costText b).toArray⟩) ∧ Below w.heap.size w w' := by
  unfold costText
  by_cases h : Fl.right b = false
  · rw [if_pos h]; exact (print_none b hb h w).mono fun e w' hh => ⟨hh.1, by rw [hh.2]; exact Below.refl _ _⟩
  rw [if_neg h]
  by_cases h2 : b = 9218868437227405312
  · rw [if_pos h2, h2]; exact (print_endless w).mono fun e w' hh => ⟨hh.1, by rw [hh.2]; exact Below.refl _ _⟩
  rw [if_neg h2]
  have hle := Fl.right_le (show Fl.right b = true by simpa using h)
  unfold Fl.inf at hle
  by_cases h3 : 4816244402031689728 ≤ b
  · rw [if_pos h3]; exact (print_big b h3 (by omega) w).mono fun e w' hh => ⟨hh.1, by rw [hh.2]; exact Below.refl _ _⟩
  rw [if_neg h3]
  exact print_fin b (by omega) w HT
theorem ref_cost_any (b : Nat) (hb : b < 18446744073709551616) (w : World) : Calls Tryd.prog 18 #[.float .f64 b] w fun e w' => e = .returned (.string ⟨(costText b).toArray⟩) ∧ Below w.heap.size w w' := by
  unfold costText
  by_cases h : Fl.right b = false
  · rw [if_pos h]; exact (ref_cost_none b hb h w).mono fun e w' hh => ⟨hh.1, by rw [hh.2]; exact Below.refl _ _⟩
  rw [if_neg h]
  by_cases h2 : b = 9218868437227405312
  · rw [if_pos h2, h2]; exact (ref_cost_endless w).mono fun e w' hh => ⟨hh.1, by rw [hh.2]; exact Below.refl _ _⟩
  rw [if_neg h2]
  have hle := Fl.right_le (show Fl.right b = true by simpa using h)
  unfold Fl.inf at hle
  by_cases h3 : 4816244402031689728 ≤ b
  · rw [if_pos h3]; exact (ref_cost_big b h3 (by omega) w).mono fun e w' hh => ⟨hh.1, by rw [hh.2]; exact Below.refl _ _⟩
  rw [if_neg h3]
  exact ref_cost_fin b (by omega) w

/-! ### Alike -/
def Same (a b : Nat) : Prop := (a = b ∧ a ≤ 9218868437227405312) ∨ (isNan a ∧ isNan b)
theorem alike_any (a b : Nat) (h : Same a b) (w : World) : Calls Tryd.prog 19 #[.float .f64 a, .float .f64 b] w fun e w' => e = .returned (.bool true) ∧ w' = w := by
  rcases h with ⟨rfl, h⟩ | ⟨h1, h2⟩
  · exact alike_same a h w
  · exact alike_nan a b h1 h2 w
theorem same_sum (xs : List Nat) (b : Nat) (h : SumIs xs b) : Same (Fl.sumW xs) b := by
  rcases h with ⟨h, rfl⟩ | ⟨h, _, hn⟩
  · left; rw [Fl.sumW_yes _ h]; exact ⟨rfl, Fl.total_le xs⟩
  · right
    refine ⟨?_, hn⟩
    unfold Fl.sumW; rw [h]
    show Fl.inf < Fl.nan % 9223372036854775808
    decide

/-- What a part is. -/
def PartIs (s a : Int) (b : Nat) : Prop := (((s < 0 ∨ 1073741824 < s) ∨ (a < 0 ∨ 1073741824 < a)) ∧ isNan b) ∨ (¬ ((s < 0 ∨ 1073741824 < s) ∨ (a < 0 ∨ 1073741824 < a)) ∧ b ≤ 9218868437227405312 ∧ b = (if a = 0 ∧ s = 0 then 4607182418800017408 else (Ieee.double.div (Fl.ofNat s.toNat) (Fl.ofNat a.toNat)).getD 0))
theorem same_part (s a : Int) (b c : Nat) (h : PartIs s a b) (k : PartIs s a c) : Same b c := by
  rcases h with ⟨h1, h2⟩ | ⟨h1, h2, h3⟩ <;> rcases k with ⟨k1, k2⟩ | ⟨k1, k2, k3⟩
  · exact .inr ⟨h2, k2⟩
  · exact absurd h1 k1
  · exact absurd k1 h1
  · exact .inl ⟨h3.trans k3.symm, h2⟩
def PartPost (s a : Int) (w : World) (e : Ending) (w' : World) : Prop := ∃ b, e = .returned (.float .f64 b) ∧ PartIs s a b ∧ Below w.heap.size w w'
theorem div_is (s a : Nat) (hs : s ≤ 1073741824) (ha : a ≤ 1073741824) (h : 0 < s ∨ 0 < a) : ∃ r, r ≤ 9218868437227405312 ∧ Ieee.double.div (Fl.ofNat s) (Fl.ofNat a) = some r := by
  by_cases h0 : a = 0
  · subst h0
    rw [Fl.ofNat_zero]
    exact ⟨_, Nat.le_refl _, Fl.div_nought _ (Fl.ofNat_lt s (by omega)) (Fl.ofNat_pos s (by omega) (by omega))⟩
  · exact Fl.div_fin _ _ (Fl.ofNat_lt s (by omega)) (Fl.ofNat_lt a (by omega)) (Fl.ofNat_pos a (by omega) (by omega))
theorem part_any (s a : Int) (w : World) : Calls Tryd.prog 9 #[.int .i64 s, .int .i64 a] w (PartPost s a w) := by
  by_cases hb : (s < 0 ∨ 1073741824 < s) ∨ (a < 0 ∨ 1073741824 < a)
  · exact (part_bad s a hb w).mono fun e w' h => ⟨_, h.1, .inl ⟨hb, by unfold isNan Fl.inf; decide⟩, by rw [h.2]; exact Below.refl _ _⟩
  · obtain ⟨n, rfl⟩ := Int.eq_ofNat_of_zero_le (show 0 ≤ s by omega)
    obtain ⟨m, rfl⟩ := Int.eq_ofNat_of_zero_le (show 0 ≤ a by omega)
    by_cases h00 : m = 0 ∧ n = 0
    · obtain ⟨rfl, rfl⟩ := h00
      exact (part_whole w).mono fun e w' h => ⟨_, h.1, .inr ⟨hb, by decide, by rw [if_pos ⟨rfl, rfl⟩]⟩, by rw [h.2]; exact Below.refl _ _⟩
    · obtain ⟨r, hr, hd⟩ := div_is n m (by omega) (by omega) (by omega)
      have hp : PartIs (n : Int) (m : Int) r := .inr ⟨hb, hr, by rw [if_neg (by omega), Int.toNat_natCast, Int.toNat_natCast, hd]; rfl⟩
      by_cases hm : m = 0
      · subst hm
        have hr2 : r = 9218868437227405312 := by
          have := Fl.div_nought _ (Fl.ofNat_lt n (by omega)) (Fl.ofNat_pos n (by omega) (by omega))
          rw [Fl.ofNat_zero, this] at hd; cases hd; rfl
        exact (part_endless n (by omega) (by omega) w).mono fun e w' h => ⟨r, by rw [hr2]; exact h.1, hp, by rw [h.2]; exact Below.refl _ _⟩
      · exact (part_fin n m (by omega) (by omega) (by omega) r hd w).mono fun e w' h => ⟨r, h.1, hp, by rw [h.2]; exact Below.refl _ _⟩
theorem ref_part_any (s a : Int) (w : World) : Calls Tryd.prog 22 #[.int .i64 s, .int .i64 a] w (PartPost s a w) := by
  by_cases hb : (s < 0 ∨ 1073741824 < s) ∨ (a < 0 ∨ 1073741824 < a)
  · exact (ref_part_bad s a hb w).mono fun e w' ⟨b, h1, _, h3, h4⟩ => ⟨b, h1, .inl ⟨hb, h3⟩, h4⟩
  · obtain ⟨n, rfl⟩ := Int.eq_ofNat_of_zero_le (show 0 ≤ s by omega)
    obtain ⟨m, rfl⟩ := Int.eq_ofNat_of_zero_le (show 0 ≤ a by omega)
    by_cases h00 : m = 0 ∧ n = 0
    · obtain ⟨rfl, rfl⟩ := h00
      exact (ref_part_whole w).mono fun e w' h => ⟨_, h.1, .inr ⟨hb, by decide, by rw [if_pos ⟨rfl, rfl⟩]⟩, by rw [h.2]; exact Below.refl _ _⟩
    · obtain ⟨r, hr, hd⟩ := div_is n m (by omega) (by omega) (by omega)
      exact (ref_part_fin n m (by omega) (by omega) (by omega) r hd w).mono fun e w' h => ⟨r, h.1, .inr ⟨hb, hr, by rw [if_neg (by omega), Int.toNat_natCast, Int.toNat_natCast, hd]; rfl⟩, by rw [h.2]; exact Below.refl _ _⟩
end Go.Proofs.YtdnilgpbfabafaaDoor
