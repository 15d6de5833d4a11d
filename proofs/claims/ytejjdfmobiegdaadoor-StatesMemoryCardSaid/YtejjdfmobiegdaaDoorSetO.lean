/- The number of digits that are 1, by parallel sums. Plain numbers. What the small functions of sets give: each a contract over any world. Sets of numbers off rows; their digits. -/
import Derived.Test.YtejjdfmobiegdaaDoorLeafs
import Derived.WalkKit
import Derived.WalkLawsBesides
import Derived.Laws.BitsAll
import Derived.Laws.ShiftsVar
import Derived.Lib.Hide
import Derived.RowKit3
import Derived.Outline
import Derived.LoopTactic
import Derived.Below
import Derived.WalkSmall
import Derived.IntWalk
import Derived.Laws.Bits64b


namespace Go.Proofs.YtejjdfmobiegdaaDoor
open Go.RowKit


theorem digit_out (n : Int) (h : n < 0 ∨ 64 ≤ n) (w : World) :
    Calls Tryd.prog 98 #[.int .i64 n] w fun e w' => e = .returned (.int .u64 0) ∧ w' = w := by
  rcases h with h | h
  · go_enter Tryd.func98, Tryd.ntmps98
    go_wp2
    go_ret
    exact ⟨rfl, rfl⟩
  · have h0 : 0 ≤ n := by omega
    go_enter Tryd.func98, Tryd.ntmps98
    go_wp2
    go_ret
    exact ⟨rfl, rfl⟩
theorem or_nat (s t : Nat) (hs : s < 18446744073709551616) (ht : t < 18446744073709551616) : bits .or .u64 (s : Int) (t : Int) = ((s ||| t : Nat) : Int) := by
  rw [u64_or _ _ (by omega) (by omega) (by omega) (by omega)]; rfl
theorem and_nat (s t : Nat) (hs : s < 18446744073709551616) (ht : t < 18446744073709551616) : bits .and .u64 (s : Int) (t : Int) = ((s &&& t : Nat) : Int) := by
  rw [u64_and _ _ (by omega) (by omega) (by omega) (by omega)]; rfl
theorem andNot_nat (s t : Nat) (hs : s < 18446744073709551616) (ht : t < 18446744073709551616) : bits .andNot .u64 (s : Int) (t : Int) = ((s &&& (18446744073709551615 - t) : Nat) : Int) := by
  rw [u64_andNot _ _ (by omega) (by omega) (by omega) (by omega)]; rfl
theorem pow_lt (n : Nat) (h : n < 64) : 2 ^ n < 18446744073709551616 := Nat.pow_lt_pow_right (by omega) h
theorem pow_u64 (n : Nat) (h : n < 64) : IntKind.u64.wrap (2 ^ n) = ((2 ^ n : Nat) : Int) := by
  have h1 := pow_lt n h
  have e : (2 : Int) ^ n = ((2 ^ n : Nat) : Int) := by simp
  rw [IntKind.wrap_u64, e]
  generalize 2 ^ n = m at *
  omega
theorem digit_in (n : Nat) (h : n < 64) (w : World) :
    Calls Tryd.prog 98 #[.int .i64 n] w fun e w' => e = .returned (.int .u64 (2 ^ n : Nat)) ∧ w' = w := by
  go_enter Tryd.func98, Tryd.ntmps98
  go_wp2
  go_ret
  exact ⟨ret_int (pow_u64 n h), rfl⟩
theorem join_any (s t : Nat) (hs : s < 18446744073709551616) (ht : t < 18446744073709551616) (w : World) :
    Calls Tryd.prog 120 #[.int .u64 s, .int .u64 t] w fun e w' => e = .returned (.int .u64 (s ||| t : Nat)) ∧ w' = w := by
  go_enter Tryd.func120, Tryd.ntmps120
  go_wp2
  go_ret
  exact ⟨ret_int (or_nat s t hs ht), rfl⟩
/-- What is in s alone. -/
def sless (s t : Nat) : Nat := s &&& (18446744073709551615 - t)
theorem less_any (s t : Nat) (hs : s < 18446744073709551616) (ht : t < 18446744073709551616) (w : World) :
    Calls Tryd.prog 125 #[.int .u64 s, .int .u64 t] w fun e w' => e = .returned (.int .u64 (sless s t : Nat)) ∧ w' = w := by
  go_enter Tryd.func125, Tryd.ntmps125
  go_wp2
  go_ret
  exact ⟨ret_int (andNot_nat s t hs ht), rfl⟩
/-- The set of n alone; none, if n can't be in one. -/
def sdig (n : Int) : Nat := if 0 ≤ n ∧ n < 64 then 2 ^ n.toNat else 0
theorem dig_lt (n : Int) : sdig n < 18446744073709551616 := by
  unfold sdig; split
  · exact pow_lt _ (by omega)
  · decide
theorem sdigit_any (n : Int) (w : World) :
    Calls Tryd.prog 98 #[.int .i64 n] w fun e w' => e = .returned (.int .u64 (sdig n : Nat)) ∧ w' = w := by
  by_cases h : 0 ≤ n ∧ n < 64
  · obtain ⟨k, rfl⟩ := Int.eq_ofNat_of_zero_le h.1
    rw [show sdig (k : Int) = 2 ^ k by unfold sdig; rw [if_pos h, Int.toNat_natCast]]
    exact digit_in k (by omega) w
  · rw [show sdig n = 0 by unfold sdig; rw [if_neg h]]
    exact digit_out n (by omega) w
theorem and_lt (s t : Nat) (hs : s < 18446744073709551616) : s &&& t < 18446744073709551616 := Nat.lt_of_le_of_lt Nat.and_le_left hs
theorem or_lt (s t : Nat) (hs : s < 18446744073709551616) (ht : t < 18446744073709551616) : s ||| t < 18446744073709551616 := Nat.or_lt_two_pow (n := 64) hs ht
theorem with_any (s : Nat) (n : Int) (hs : s < 18446744073709551616) (w : World) :
    Calls Tryd.prog 75 #[.int .u64 s, .int .i64 n] w fun e w' => e = .returned (.int .u64 (s ||| sdig n : Nat)) ∧ w' = w := by
  have hd := dig_lt n
  go_enter Tryd.func75, Tryd.ntmps75
  go_wp2_with (go_at_call 98; refine (sdigit_any n _).mono ?_; rintro e w' ⟨rfl, rfl⟩)
  go_ret
  exact ⟨ret_int (or_nat s _ hs hd), rfl⟩
/-- Is n in s? -/
def shas (s : Nat) (n : Int) : Bool := decide (s &&& sdig n ≠ 0)
theorem has_any (s : Nat) (n : Int) (hs : s < 18446744073709551616) (w : World) :
    Calls Tryd.prog 94 #[.int .u64 s, .int .i64 n] w fun e w' => e = .returned (.bool (shas s n)) ∧ w' = w := by
  have hd := dig_lt n
  go_enter Tryd.func94, Tryd.ntmps94
  go_wp2_with (go_at_call 98; refine (sdigit_any n _).mono ?_; rintro e w' ⟨rfl, rfl⟩)
  go_ret
  refine ⟨ret_bool ?_, rfl⟩
  rw [and_nat s _ hs hd, Bool.eq_iff_iff]; unfold shas; simp
end Go.Proofs.YtejjdfmobiegdaaDoor

namespace Go.Proofs.YtejjdfmobiegdaaDoor
open Go.RowKit

/-! ### Slices of integers that are read -/
/-- What is told of a slice of integers: its cells, one by one. -/
def Ints (w : World) (a : Option Addr) (len : Nat) (zs : List Int) : Prop :=
  zs.length = len ∧ len ≤ 9223372036854775807 ∧ (len = 0 ∨ ∃ b off, a = some ⟨b, off, none⟩ ∧ b < w.heap.size ∧ ∀ k, k < len → w.cell? ⟨b, off + k, none⟩ = some (.int .i64 (zs.getD k 0)))
theorem Ints.below {w w' : World} {a : Option Addr} {len : Nat} {zs : List Int} (h : Ints w a len zs) (hb : Below w.heap.size w w') : Ints w' a len zs := by
  obtain ⟨h1, h2, h3⟩ := h
  refine ⟨h1, h2, ?_⟩
  rcases h3 with h | ⟨b, off, rfl, hlt, hc⟩
  · exact .inl h
  · exact .inr ⟨b, off, rfl, Nat.lt_of_lt_of_le hlt hb.size, fun k hk => (hb.cell (p := ⟨b, off + k, none⟩) hlt).trans (hc k hk)⟩
/-- The numbers of l that can be in a set, as one. -/
def ofL (l : List Int) : Nat := l.foldl (fun s n => s ||| sdig n) 0
theorem ofL_snoc (l : List Int) (n : Int) : ofL (l ++ [n]) = ofL l ||| sdig n := by unfold ofL; rw [List.foldl_append]; rfl
theorem foldl_lt (l : List Int) : ∀ s : Nat, s < 18446744073709551616 → l.foldl (fun s n => s ||| sdig n) s < 18446744073709551616 := by
  induction l with
  | nil => intro s h; exact h
  | cons n l ih => intro s h; exact ih _ (or_lt _ _ h (dig_lt n))
theorem ofL_lt (l : List Int) : ofL l < 18446744073709551616 := foldl_lt l 0 (by decide)
theorem take_snoc (l : List Int) (k : Nat) (h : k < l.length) : l.take (k + 1) = l.take k ++ [l.getD k 0] := by
  rw [List.take_succ_eq_append_getElem h]; simp [List.getD, h]
theorem of_any (a : Option Addr) (cap len : Nat) (zs : List Int) (w : World) (h : Ints w a len zs) :
    Calls Tryd.prog 73 #[.slice a len cap] w fun e w' => e = .returned (.int .u64 (ofL zs : Nat)) ∧ w' = w := by
  obtain ⟨hlen, hbig, hcells⟩ := h
  have HL := Lib.hid hlen
  have HC := Lib.hid hcells
  clear hlen hcells
  go_enter Tryd.func73, Tryd.ntmps73
  go_wp2
  go_loop [3, 8] (fun t i => ∃ k : Nat, k ≤ len ∧ i = .int .i64 k ∧ t = .int .u64 (ofL (zs.take k) : Nat)) (fun _ i => len - (intOf i).toNat)
  case atStart => exact ⟨0, Nat.zero_le _, rfl, rfl⟩
  case round =>
    obtain ⟨k, hk, rfl, rfl⟩ := hrel
    by_cases hlt : k < len
    · rcases HC.out with h | ⟨b, off, rfl, _, hc⟩
      · omega
      have hcell := hc k hlt
      have HS := Lib.hid (take_snoc zs k (by have := HL.out; omega))
      have HE := Lib.hid (ofL_snoc (zs.take k) (zs.getD k 0))
      have hs := ofL_lt (zs.take k)
      generalize zs.getD k 0 = n at *
      generalize hg : ofL (zs.take k) = s at *
      have HG := Lib.hid hg
      clear hc hg
      go_wp2_with fail
      refine (with_any s n hs _).mono ?_
      rintro e w1 ⟨rfl, rfl⟩
      go_wp2
      go_round
      case rel => exact ⟨k + 1, by omega, by go_num, by rw [HS.out, HE.out]⟩
      case measure => simp [intOf]; omega
    · have hk2 : zs.take k = zs := List.take_of_length_le (by have := HL.out; omega)
      have HK := Lib.hid hk2
      clear hk2
      go_wp2
      go_ret
      exact ⟨ret_int (by rw [HK.out]), rfl⟩
theorem less_lt (s t : Nat) (hs : s < 18446744073709551616) : sless s t < 18446744073709551616 := and_lt _ _ hs
theorem bit_high (s i : Nat) (hs : s < 18446744073709551616) (hi : ¬ i < 64) : s.testBit i = false :=
  Nat.testBit_lt_two_pow (Nat.lt_of_lt_of_le hs (Nat.pow_le_pow_right (n := 2) (by decide) (show 64 ≤ i by omega)))
theorem bit_less (s t i : Nat) (hs : s < 18446744073709551616) (ht : t < 18446744073709551616) : (sless s t).testBit i = (s.testBit i && !t.testBit i) := by
  unfold sless
  rw [Nat.testBit_and, show 18446744073709551615 - t = 2 ^ 64 - (t + 1) by omega, Nat.testBit_two_pow_sub_succ ht]
  by_cases h : i < 64
  · rw [decide_eq_true h, Bool.true_and]
  · rw [bit_high s i hs h]; rfl
theorem bit_dig (n : Int) (i : Nat) : (sdig n).testBit i = decide (n = (i : Int) ∧ i < 64) := by
  unfold sdig
  split
  · rename_i h
    rw [Nat.testBit_two_pow, Bool.eq_iff_iff, decide_eq_true_iff, decide_eq_true_iff]; omega
  · rename_i h
    rw [Nat.zero_testBit, eq_comm, decide_eq_false_iff_not]; omega
theorem bit_ofL (l : List Int) (i : Nat) : (ofL l).testBit i = decide ((i : Int) ∈ l ∧ i < 64) := by
  have key : ∀ (l : List Int) (s : Nat), (l.foldl (fun s n => s ||| sdig n) s).testBit i = (s.testBit i || decide ((i : Int) ∈ l ∧ i < 64)) := by
    intro l
    induction l with
    | nil => intro s; simp
    | cons n l ih =>
      intro s
      rw [List.foldl_cons, ih, Nat.testBit_or, bit_dig, Bool.or_assoc]
      congr 1
      rw [Bool.eq_iff_iff, Bool.or_eq_true, decide_eq_true_iff, decide_eq_true_iff, decide_eq_true_iff, List.mem_cons]
      constructor
      · rintro (⟨h, h'⟩ | ⟨h, h'⟩)
        · exact ⟨.inl h.symm, h'⟩
        · exact ⟨.inr h, h'⟩
      · rintro ⟨h | h, h'⟩
        · exact .inl ⟨h.symm, h'⟩
        · exact .inr ⟨h, h'⟩
  unfold ofL
  rw [key, Nat.zero_testBit, Bool.false_or]
theorem has_eq (s : Nat) (n : Int) : shas s n = (decide (0 ≤ n ∧ n < 64) && s.testBit n.toNat) := by
  have e : ∀ i, (s &&& sdig n).testBit i = (s.testBit i && decide (n = (i : Int) ∧ i < 64)) := fun i => by rw [Nat.testBit_and, bit_dig]
  unfold shas
  rw [Bool.eq_iff_iff, decide_eq_true_iff, Bool.and_eq_true, decide_eq_true_iff]
  constructor
  · intro h
    obtain ⟨i, hi⟩ := Nat.exists_testBit_of_ne_zero h
    rw [e, Bool.and_eq_true, decide_eq_true_iff] at hi
    obtain ⟨h1, rfl, h2⟩ := hi
    exact ⟨by omega, by rw [Int.toNat_natCast]; exact h1⟩
  · rintro ⟨h1, h2⟩ h3
    have := e n.toNat
    rw [h3, Nat.zero_testBit, h2, decide_eq_true (by omega)] at this
    cases this
theorem has_with (s : Nat) (n : Int) (hn : 0 ≤ n ∧ n < 64) : shas (s ||| sdig n) n = true := by
  rw [has_eq, decide_eq_true hn, Nat.testBit_or, bit_dig, decide_eq_true (by omega)]; simp

theorem ints_of_cells {w : World} {a : Option Addr} {l : List Int} (h : Cells w a (nums l)) (hl : l.length ≤ 9223372036854775807) : Ints w a l.length l := by
  refine ⟨rfl, hl, ?_⟩
  rcases h with h | ⟨b, off, ha, hlt, hc⟩
  · left; unfold nums at h; rw [List.map_eq_nil_iff] at h; rw [h]; rfl
  · right
    refine ⟨b, off, ha, hlt, fun k hk => hc k _ ?_⟩
    rw [nums_at (List.getElem?_eq_getElem hk)]
    simp [List.getD, hk]
theorem set_of (a : Option Addr) (cap : Nat) (l : List Int) (w : World) (h : Cells w a (nums l)) (hl : l.length ≤ 9223372036854775807) :
    Calls Tryd.prog 73 #[.slice a l.length cap] w fun e w' => e = .returned (.int .u64 (ofL l : Nat)) ∧ w' = w := of_any a cap l.length l w (ints_of_cells h hl)

end Go.Proofs.YtejjdfmobiegdaaDoor
