/- Sets as numbers: plain facts. -/
import Derived.Test.YtpoajifabjlhjaaDoorSet
namespace Go.Proofs.YtpoajifabjlhjaaDoor

theorem less_lt (s t : Nat) (hs : s < 18446744073709551616) : less s t < 18446744073709551616 := and_lt _ _ hs
theorem bit_high (s i : Nat) (hs : s < 18446744073709551616) (hi : ¬ i < 64) : s.testBit i = false :=
  Nat.testBit_lt_two_pow (Nat.lt_of_lt_of_le hs (Nat.pow_le_pow_right (n := 2) (by decide) (show 64 ≤ i by omega)))
theorem bit_less (s t i : Nat) (hs : s < 18446744073709551616) (ht : t < 18446744073709551616) : (less s t).testBit i = (s.testBit i && !t.testBit i) := by
  unfold less
  rw [Nat.testBit_and, show 18446744073709551615 - t = 2 ^ 64 - (t + 1) by omega, Nat.testBit_two_pow_sub_succ ht]
  by_cases h : i < 64
  · rw [decide_eq_true h, Bool.true_and]
  · rw [bit_high s i hs h]; rfl
theorem bit_dig (n : Int) (i : Nat) : (dig n).testBit i = decide (n = (i : Int) ∧ i < 64) := by
  unfold dig
  split
  · rename_i h
    rw [Nat.testBit_two_pow, Bool.eq_iff_iff, decide_eq_true_iff, decide_eq_true_iff]; omega
  · rename_i h
    rw [Nat.zero_testBit, eq_comm, decide_eq_false_iff_not]; omega
theorem less_join_both (s t : Nat) (hs : s < 18446744073709551616) (ht : t < 18446744073709551616) : less s t ||| (s &&& t) = s := by
  apply Nat.eq_of_testBit_eq; intro i
  rw [Nat.testBit_or, bit_less s t i hs ht, Nat.testBit_and]
  cases s.testBit i <;> cases t.testBit i <;> rfl
theorem less_both (s t : Nat) (hs : s < 18446744073709551616) (ht : t < 18446744073709551616) : less s t &&& t = 0 := by
  apply Nat.eq_of_testBit_eq; intro i
  rw [Nat.testBit_and, bit_less s t i hs ht, Nat.zero_testBit]
  cases s.testBit i <;> cases t.testBit i <;> rfl
theorem less_self_join (s t : Nat) (hs : s < 18446744073709551616) (ht : t < 18446744073709551616) : less s (s ||| t) = 0 := by
  apply Nat.eq_of_testBit_eq; intro i
  rw [bit_less s _ i hs (or_lt _ _ hs ht), Nat.testBit_or, Nat.zero_testBit]
  cases s.testBit i <;> cases t.testBit i <;> rfl
theorem less_and_self (s t : Nat) (hs : s < 18446744073709551616) : less (s &&& t) s = 0 := by
  apply Nat.eq_of_testBit_eq; intro i
  rw [bit_less _ s i (and_lt _ _ hs) hs, Nat.testBit_and, Nat.zero_testBit]
  cases s.testBit i <;> cases t.testBit i <;> rfl
theorem less_with (s : Nat) (n : Int) (hs : s < 18446744073709551616) : less (s ||| dig n) (dig n) = less s (dig n) := by
  apply Nat.eq_of_testBit_eq; intro i
  rw [bit_less _ _ i (or_lt _ _ hs (dig_lt n)) (dig_lt n), bit_less _ _ i hs (dig_lt n), Nat.testBit_or]
  cases s.testBit i <;> cases (dig n).testBit i <;> rfl
theorem bit_ofL (l : List Int) (i : Nat) : (ofL l).testBit i = decide ((i : Int) ∈ l ∧ i < 64) := by
  have key : ∀ (l : List Int) (s : Nat), (l.foldl (fun s n => s ||| dig n) s).testBit i = (s.testBit i || decide ((i : Int) ∈ l ∧ i < 64)) := by
    intro l
    induction l with
    | nil => intro s; simp
    | cons n l ih =>
      intro s
      rw [List.foldl_cons, ih, Nat.testBit_or, bit_dig, Bool.or_assoc]
      congr 1
      rw [Bool.eq_iff_iff, Bool.or_eq_true, decide_eq_true_iff, decide_eq_true_iff, decide_eq_true_iff, List.mem_cons]
      constructor
      · rintro (⟨h, h'⟩ | ⟨h, h'⟩)
        · exact ⟨.inl h.symm, h'⟩
        · exact ⟨.inr h, h'⟩
      · rintro ⟨h | h, h'⟩
        · exact .inl ⟨h.symm, h'⟩
        · exact .inr ⟨h, h'⟩
  unfold ofL
  rw [key, Nat.zero_testBit, Bool.false_or]
theorem mem_ints (l : List Nat) (i : Nat) : (i : Int) ∈ ints l ↔ i ∈ l := by
  unfold ints
  rw [List.mem_map]
  constructor
  · rintro ⟨a, h, e⟩
    obtain rfl : a = i := by omega
    exact h
  · intro h; exact ⟨i, h, rfl⟩
theorem ofL_items (s : Nat) (hs : s < 18446744073709551616) : ofL (ints (Pop.items s)) = s := by
  apply Nat.eq_of_testBit_eq; intro i
  rw [bit_ofL, Bool.eq_iff_iff, decide_eq_true_iff, mem_ints, Pop.mem_items]
  constructor
  · exact fun h => h.1.2
  · intro h
    by_cases hi : i < 64
    · exact ⟨⟨hi, h⟩, hi⟩
    · rw [bit_high s i hs hi] at h; cases h
theorem has_eq (s : Nat) (n : Int) : has s n = (decide (0 ≤ n ∧ n < 64) && s.testBit n.toNat) := by
  have e : ∀ i, (s &&& dig n).testBit i = (s.testBit i && decide (n = (i : Int) ∧ i < 64)) := fun i => by rw [Nat.testBit_and, bit_dig]
  unfold has
  rw [Bool.eq_iff_iff, decide_eq_true_iff, Bool.and_eq_true, decide_eq_true_iff]
  constructor
  · intro h
    obtain ⟨i, hi⟩ := Nat.exists_testBit_of_ne_zero h
    rw [e, Bool.and_eq_true, decide_eq_true_iff] at hi
    obtain ⟨h1, rfl, h2⟩ := hi
    exact ⟨by omega, by rw [Int.toNat_natCast]; exact h1⟩
  · rintro ⟨h1, h2⟩ h3
    have := e n.toNat
    rw [h3, Nat.zero_testBit, h2, decide_eq_true (by omega)] at this
    cases this
theorem has_with (s : Nat) (n : Int) (hn : 0 ≤ n ∧ n < 64) : has (s ||| dig n) n = true := by
  rw [has_eq, decide_eq_true hn, Nat.testBit_or, bit_dig, decide_eq_true (by omega)]; simp
theorem filter_or_and {α : Type} (p q : α → Bool) (l : List α) : (l.filter fun x => p x || q x).length + (l.filter fun x => p x && q x).length = (l.filter p).length + (l.filter q).length := by
  induction l with
  | nil => rfl
  | cons x l ih =>
    simp only [List.filter_cons]
    cases p x <;> cases q x <;> simp <;> omega
theorem count_or_and (s t : Nat) : (Pop.items (s ||| t)).length + (Pop.items (s &&& t)).length = (Pop.items s).length + (Pop.items t).length := by
  have := filter_or_and (fun i => s.testBit i) (fun i => t.testBit i) (List.range 64)
  unfold Pop.items
  rw [← this]
  simp only [Nat.testBit_or, Nat.testBit_and]
theorem ofL_one (n : Int) : ofL [n] = dig n := by unfold ofL; simp
theorem in_yes (s t : Nat) (hs : s < 18446744073709551616) (ht : t < 18446744073709551616) (h : less s t = 0) (w : World) :
    Calls Tryd.prog 13 #[.int .u64 s, .int .u64 t] w fun e w' => e = .returned (.bool true) ∧ w' = w :=
  (in_any s t hs ht w).mono fun _ _ ⟨he, hw⟩ => ⟨by rw [he, decide_eq_true h], hw⟩
theorem ints_none (w : World) : Ints w none 0 [] := ⟨rfl, by decide, .inl rfl⟩
theorem of_none (w : World) : Calls Tryd.prog 8 #[.slice none 0 0] w fun e w' => e = .returned (.int .u64 0) ∧ w' = w :=
  (of_any none 0 0 [] w (ints_none w)).mono fun _ _ ⟨he, hw⟩ => ⟨he, hw⟩
theorem ofL_nil : ofL [] = 0 := rfl
theorem u32_of {a : Int} (h : (Lit.int .u32 a).wf = true) : 0 ≤ a ∧ a < 4294967296 := by
  simp [Lit.wf, IntKind.min, IntKind.max, IntKind.signed, IntKind.bits] at h; omega
theorem tab_of' {W : World} (h : laidMetH Tryd.prog [("math/bits.deBruijn64tab", Lib.tabData .u8 (Lib.deBruijn64tab.map Int.ofNat))] W) (hp : (∀ W, laidMetH Tryd.prog [("math/bits.deBruijn64tab", Lib.tabData .u8 (Lib.deBruijn64tab.map Int.ofNat))] W → laidMet Tryd.prog [("math/bits.deBruijn64tab", Lib.tabData .u8 (Lib.deBruijn64tab.map Int.ofNat))] W)) : Tab W :=
  tab_of (hp W h)
end Go.Proofs.YtpoajifabjlhjaaDoor
