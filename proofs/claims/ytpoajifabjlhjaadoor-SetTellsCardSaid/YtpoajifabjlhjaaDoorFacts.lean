/- Sets as numbers: plain facts. -/
import Derived.Test.YtpoajifabjlhjaaDoorSet
namespace Go.Proofs.YtpoajifabjlhjaaDoor
open Go.RowKit

theorem less_lt (s t : Nat) (hs : s < 18446744073709551616) : less s t < 18446744073709551616 := and_lt _ _ hs
theorem bit_high (s i : Nat) (hs : s < 18446744073709551616) (hi : ¬ i < 64) : s.testBit i = false :=
  Nat.testBit_lt_two_pow (Nat.lt_of_lt_of_le hs (Nat.pow_le_pow_right (n := 2) (by decide) (show 64 ≤ i by omega)))
theorem bit_less (s t i : Nat) (hs : s < 18446744073709551616) (ht : t < 18446744073709551616) : (less s t).testBit i = (s.testBit i && !t.testBit i) := by
  unfold less
  rw [Nat.testBit_and, show 18446744073709551615 - t = 2 ^ 64 - (t + 1) by omega, Nat.testBit_two_pow_sub_succ ht]
  by_cases h : i < 64
  · rw [decide_eq_true h, Bool.true_and]
  · rw [bit_high s i hs h]; rfl
theorem bit_dig (n : Int) (i : Nat) : (dig n).testBit i = decide (n = (i : Int) ∧ i < 64) := by
  unfold dig
  split
  · rename_i h
    rw [Nat.testBit_two_pow, Bool.eq_iff_iff, decide_eq_true_iff, decide_eq_true_iff]; omega
  · rename_i h
    rw [Nat.zero_testBit, eq_comm, decide_eq_false_iff_not]; omega
theorem less_join_both (s t : Nat) (hs : s < 18446744073709551616) (ht : t < 18446744073709551616) : less s t ||| (s &&& t) = s := by
  apply Nat.eq_of_testBit_eq; intro i
  rw [Nat.testBit_or, bit_less s t i hs ht, Nat.testBit_and]
  cases s.testBit i <;> cases t.testBit i <;> rfl
theorem less_both (s t : Nat) (hs : s < 18446744073709551616) (ht : t < 18446744073709551616) : less s t &&& t = 0 := by
  apply Nat.eq_of_testBit_eq; intro i
  rw [Nat.testBit_and, bit_less s t i hs ht, Nat.zero_testBit]
  cases s.testBit i <;> cases t.testBit i <;> rfl
theorem less_self_join (s t : Nat) (hs : s < 18446744073709551616) (ht : t < 18446744073709551616) : less s (s ||| t) = 0 := by
  apply Nat.eq_of_testBit_eq; intro i
  rw [bit_less s _ i hs (or_lt _ _ hs ht), Nat.testBit_or, Nat.zero_testBit]
  cases s.testBit i <;> cases t.testBit i <;> rfl
theorem less_and_self (s t : Nat) (hs : s < 18446744073709551616) : less (s &&& t) s = 0 := by
  apply Nat.eq_of_testBit_eq; intro i
  rw [bit_less _ s i (and_lt _ _ hs) hs, Nat.testBit_and, Nat.zero_testBit]
  cases s.testBit i <;> cases t.testBit i <;> rfl
theorem less_with (s : Nat) (n : Int) (hs : s < 18446744073709551616) : less (s ||| dig n) (dig n) = less s (dig n) := by
  apply Nat.eq_of_testBit_eq; intro i
  rw [bit_less _ _ i (or_lt _ _ hs (dig_lt n)) (dig_lt n), bit_less _ _ i hs (dig_lt n), Nat.testBit_or]
  cases s.testBit i <;> cases (dig n).testBit i <;> rfl
theorem bit_ofL (l : List Int) (i : Nat) : (ofL l).testBit i = decide ((i : Int) ∈ l ∧ i < 64) := by
  have key : ∀ (l : List Int) (s : Nat), (l.foldl (fun s n => s ||| dig n) s).testBit i = (s.testBit i || decide ((i : Int) ∈ l ∧ i < 64)) := by
    intro l
    induction l with
    | nil => intro s; simp
    | cons n l ih =>
      intro s
      rw [List.foldl_cons, ih, Nat.testBit_or, bit_dig, Bool.or_assoc]
      congr 1
      rw [Bool.eq_iff_iff, Bool.or_eq_true, decide_eq_true_iff, decide_eq_true_iff, decide_eq_true_iff, List.mem_cons]
      constructor
      · rintro (⟨h, h'⟩ | ⟨h, h'⟩)
        · exact ⟨.inl h.symm, h'⟩
        · exact ⟨.inr h, h'⟩
      · rintro ⟨h | h, h'⟩
        · exact .inl ⟨h.symm, h'⟩
        · exact .inr ⟨h, h'⟩
  unfold ofL
  rw [key, Nat.zero_testBit, Bool.false_or]
theorem mem_ints (l : List Nat) (i : Nat) : (i : Int) ∈ ints l ↔ i ∈ l := by
  unfold ints
  rw [List.mem_map]
  constructor
  · rintro ⟨a, h, e⟩
    obtain rfl : a = i := by omega
    exact h
  · intro h; exact ⟨i, h, rfl⟩
theorem ofL_items (s : Nat) (hs : s < 18446744073709551616) : ofL (ints (Pop.items s)) = s := by
  apply Nat.eq_of_testBit_eq; intro i
  rw [bit_ofL, Bool.eq_iff_iff, decide_eq_true_iff, mem_ints, Pop.mem_items]
  constructor
  · exact fun h => h.1.2
  · intro h
    by_cases hi : i < 64
    · exact ⟨⟨hi, h⟩, hi⟩
    · rw [bit_high s i hs hi] at h; cases h
theorem has_eq (s : Nat) (n : Int) : has s n = (decide (0 ≤ n ∧ n < 64) && s.testBit n.toNat) := by
  have e : ∀ i, (s &&& dig n).testBit i = (s.testBit i && decide (n = (i : Int) ∧ i < 64)) := fun i => by rw [Nat.testBit_and, bit_dig]
  unfold has
  rw [Bool.eq_iff_iff, decide_eq_true_iff, Bool.and_eq_true, decide_eq_true_iff]
  constructor
  · intro h
    obtain ⟨i, hi⟩ := Nat.exists_testBit_of_ne_zero h
    rw [e, Bool.and_eq_true, decide_eq_true_iff] at hi
    obtain ⟨h1, rfl, h2⟩ := hi
    exact ⟨by omega, by rw [Int.toNat_natCast]; exact h1⟩
  · rintro ⟨h1, h2⟩ h3
    have := e n.toNat
    rw [h3, Nat.zero_testBit, h2, decide_eq_true (by omega)] at this
    cases this
theorem has_with (s : Nat) (n : Int) (hn : 0 ≤ n ∧ n < 64) : has (s ||| dig n) n = true := by
  rw [has_eq, decide_eq_true hn, Nat.testBit_or, bit_dig, decide_eq_true (by omega)]; simp
theorem filter_or_and {α : Type} (p q : α → Bool) (l : List α) : (l.filter fun x => p x || q x).length + (l.filter fun x => p x && q x).length = (l.filter p).length + (l.filter q).length := by
  induction l with
  | nil => rfl
  | cons x l ih =>
    simp only [List.filter_cons]
    cases p x <;> cases q x <;> simp <;> omega
theorem count_or_and (s t : Nat) : (Pop.items (s ||| t)).length + (Pop.items (s &&& t)).length = (Pop.items s).length + (Pop.items t).length := by
  have := filter_or_and (fun i => s.testBit i) (fun i => t.testBit i) (List.range 64)
  unfold Pop.items
  rw [← this]
  simp only [Nat.testBit_or, Nat.testBit_and]
theorem ofL_one (n : Int) : ofL [n] = dig n := by unfold ofL; simp
theorem in_yes (s t : Nat) (hs : s < 18446744073709551616) (ht : t < 18446744073709551616) (h : less s t = 0) (w : World) :
    Calls Tryd.prog 13 #[.int .u64 s, .int .u64 t] w fun e w' => e = .returned (.bool true) ∧ w' = w :=
  (in_any s t hs ht w).mono fun _ _ ⟨he, hw⟩ => ⟨by rw [he, decide_eq_true h], hw⟩
theorem ints_none (w : World) : Ints w none 0 [] := ⟨rfl, by decide, .inl rfl⟩
theorem of_none (w : World) : Calls Tryd.prog 8 #[.slice none 0 0] w fun e w' => e = .returned (.int .u64 0) ∧ w' = w :=
  (of_any none 0 0 [] w (ints_none w)).mono fun _ _ ⟨he, hw⟩ => ⟨he, hw⟩
theorem ofL_nil : ofL [] = 0 := rfl
/-- What a walk is told of a slice of integers that came in. -/
def IsRow (k : IntKind) (w : World) (a : Option Addr) (len cap : Nat) (zs : List Int) : Prop :=
  (a = none ∧ len = 0 ∧ cap = 0 ∧ zs = []) ∨
  ∃ x, a = some x ∧ len ≤ cap ∧ cap ≤ maxLen ∧ zs.length = cap ∧ (∀ i, i < zs.length → w.cell? (x.add i) = some (.int k (zs.getD i 0))) ∧ ∀ n ∈ zs, (Lit.int k n).wf = true
theorem IsRow.ints {w : World} {a : Option Addr} {len cap : Nat} {zs : List Int} (h : IsRow .i64 w a len cap zs) : Ints w a len (zs.take len) := by
  rcases h with ⟨rfl, rfl, _, rfl⟩ | ⟨x, rfl, hlc, hm, hzl, hc, _⟩
  · exact ⟨rfl, by decide, .inl rfl⟩
  · unfold maxLen at hm
    refine ⟨by rw [List.length_take]; omega, by omega, ?_⟩
    rcases Nat.eq_zero_or_pos len with h0 | h0
    · exact .inl h0
    · obtain ⟨b, off, rfl, hc'⟩ := ints_at hc (by omega)
      refine .inr ⟨b, off, rfl, World.block_lt_of_cell? w _ (hc' 0 (by omega)), fun k hk => ?_⟩
      rw [hc' k (by omega)]
      simp [List.getD, hk]
theorem Ints.take {w : World} {B off n : Nat} {zs : List Int} (h : Ints w (some ⟨B, off, none⟩) n zs) (k : Nat) (hk : k ≤ n) : Ints w (some ⟨B, off, none⟩) k (zs.take k) := by
  obtain ⟨h1, h2, h3⟩ := h
  refine ⟨by rw [List.length_take]; omega, by omega, ?_⟩
  rcases h3 with h | ⟨b, o, e, hlt, hc⟩
  · exact .inl (by omega)
  · refine .inr ⟨b, o, e, hlt, fun j hj => ?_⟩
    rw [hc j (by omega)]; simp [List.getD, hj]
theorem Ints.drop {w : World} {B off n : Nat} {zs : List Int} (h : Ints w (some ⟨B, off, none⟩) n zs) (k : Nat) (hk : k ≤ n) : Ints w (some ⟨B, off + k, none⟩) (n - k) (zs.drop k) := by
  obtain ⟨h1, h2, h3⟩ := h
  refine ⟨by rw [List.length_drop]; omega, by omega, ?_⟩
  rcases h3 with h | ⟨b, o, e, hlt, hc⟩
  · exact .inl (by omega)
  · obtain ⟨rfl, rfl⟩ : B = b ∧ off = o := by simpa using e
    refine .inr ⟨B, off + k, rfl, hlt, fun j hj => ?_⟩
    rw [show off + k + j = off + (k + j) by omega, hc (k + j) (by omega)]; simp [List.getD]
theorem filter_sub : ∀ {L M : List Nat}, L.Sublist M → M.Nodup → M.filter (fun x => decide (x ∈ L)) = L := by
  intro L M h
  induction h with
  | slnil => intro _; rfl
  | cons a h ih =>
    intro hn
    rw [List.nodup_cons] at hn
    rw [List.filter_cons, if_neg (by simpa using fun hm => hn.1 (h.subset hm))]
    exact ih hn.2
  | cons_cons a h ih =>
    intro hn
    rw [List.nodup_cons] at hn
    rw [List.filter_cons, if_pos (by simp)]
    congr 1
    refine Eq.trans (List.filter_congr fun x hx => ?_) (ih hn.2)
    rw [Bool.eq_iff_iff, decide_eq_true_iff, decide_eq_true_iff, List.mem_cons]
    constructor
    · rintro (rfl | h)
      · exact absurd hx hn.1
      · exact h
    · exact .inr
theorem nodup_range (n : Nat) : (List.range n).Nodup := List.nodup_range
theorem items_ofL {L : List Nat} (h : L.Sublist (List.range 64)) : Pop.items (ofL (ints L)) = L := by
  refine Eq.trans (List.filter_congr fun i hi => ?_) (filter_sub h (nodup_range 64))
  rw [List.mem_range] at hi
  rw [bit_ofL, Bool.eq_iff_iff, decide_eq_true_iff, decide_eq_true_iff, mem_ints]
  exact ⟨fun h => h.1, fun h => ⟨h, hi⟩⟩
theorem items_sub (s : Nat) : (Pop.items s).Sublist (List.range 64) := List.filter_sublist
theorem items_nodup (s : Nat) : (Pop.items s).Nodup := (nodup_range 64).filter _
theorem ints_take (l : List Nat) (k : Nat) : (ints l).take k = ints (l.take k) := by unfold ints; rw [List.map_take]
theorem ints_drop (l : List Nat) (k : Nat) : (ints l).drop k = ints (l.drop k) := by unfold ints; rw [List.map_drop]
/-- A set's list, cut in two: what is told of both parts. -/
theorem split_facts (s k : Nat) (hs : s < 18446744073709551616) (hk : k ≤ (Pop.items s).length) (a b : Nat) (ha : a = ofL ((ints (Pop.items s)).take k)) (hb : b = ofL ((ints (Pop.items s)).drop k)) :
    a ||| b = s ∧ a &&& b = 0 ∧ (Pop.items a).length = k ∧ less a s = 0 ∧ less b s = 0 := by
  have ha2 : ∀ i, a.testBit i = true ↔ i ∈ (Pop.items s).take k ∧ i < 64 := fun i => by rw [ha, ints_take, bit_ofL, decide_eq_true_iff, mem_ints]
  have hb2 : ∀ i, b.testBit i = true ↔ i ∈ (Pop.items s).drop k ∧ i < 64 := fun i => by rw [hb, ints_drop, bit_ofL, decide_eq_true_iff, mem_ints]
  have hmem : ∀ i, s.testBit i = true ↔ i ∈ (Pop.items s).take k ∨ i ∈ (Pop.items s).drop k := fun i => by
    rw [← List.mem_append, List.take_append_drop, Pop.mem_items]
    constructor
    · intro h
      by_cases hi : i < 64
      · exact ⟨hi, h⟩
      · rw [bit_high s i hs hi] at h; cases h
    · exact fun h => h.2
  have hlt : ∀ i, i ∈ (Pop.items s) → i < 64 := fun i h => ((Pop.mem_items s i).1 h).1
  have hdis : ∀ i, i ∈ (Pop.items s).take k → i ∈ (Pop.items s).drop k → False := by
    have := items_nodup s
    rw [← List.take_append_drop k (Pop.items s), List.nodup_append] at this
    exact fun i h1 h2 => this.2.2 i h1 i h2 rfl
  have hat : a < 18446744073709551616 := by rw [ha]; exact ofL_lt _
  have hbt : b < 18446744073709551616 := by rw [hb]; exact ofL_lt _
  refine ⟨?_, ?_, ?_, ?_, ?_⟩
  · apply Nat.eq_of_testBit_eq; intro i
    rw [Nat.testBit_or, Bool.eq_iff_iff, Bool.or_eq_true, ha2, hb2, hmem]
    constructor
    · rintro (h | h)
      · exact .inl h.1
      · exact .inr h.1
    · rintro (h | h)
      · exact .inl ⟨h, hlt i (List.mem_of_mem_take h)⟩
      · exact .inr ⟨h, hlt i (List.mem_of_mem_drop h)⟩
  · apply Nat.eq_of_testBit_eq; intro i
    rw [Nat.testBit_and, Nat.zero_testBit, Bool.eq_false_iff]
    intro h
    rw [Bool.and_eq_true, ha2, hb2] at h
    exact hdis i h.1.1 h.2.1
  · rw [ha, ints_take, items_ofL ((List.take_sublist _ _).trans (items_sub s)), List.length_take]; omega
  · apply Nat.eq_of_testBit_eq; intro i
    rw [bit_less a s i hat hs, Nat.zero_testBit, Bool.eq_false_iff]
    intro h
    rw [Bool.and_eq_true, ha2, Bool.not_eq_true'] at h
    rw [(hmem i).2 (.inl h.1.1)] at h
    cases h.2
  · apply Nat.eq_of_testBit_eq; intro i
    rw [bit_less b s i hbt hs, Nat.zero_testBit, Bool.eq_false_iff]
    intro h
    rw [Bool.and_eq_true, hb2, Bool.not_eq_true'] at h
    rw [(hmem i).2 (.inr h.1.1)] at h
    cases h.2
/-- What two sets have alone, and both. -/
theorem parts_facts (s t : Nat) (hs : s < 18446744073709551616) (ht : t < 18446744073709551616) :
    less s t ||| less t s ||| (s &&& t) = s ||| t ∧ less s t &&& less t s = 0 ∧ less s t &&& (s &&& t) = 0 ∧ less t s &&& (s &&& t) = 0 ∧ (s = t ↔ less s t = 0 ∧ less t s = 0) := by
  have e1 : ∀ i, (less s t).testBit i = (s.testBit i && !t.testBit i) := fun i => bit_less s t i hs ht
  have e2 : ∀ i, (less t s).testBit i = (t.testBit i && !s.testBit i) := fun i => bit_less t s i ht hs
  refine ⟨?_, ?_, ?_, ?_, ?_⟩
  · apply Nat.eq_of_testBit_eq; intro i
    simp only [Nat.testBit_or, Nat.testBit_and, e1, e2]
    cases s.testBit i <;> cases t.testBit i <;> rfl
  · apply Nat.eq_of_testBit_eq; intro i
    simp only [Nat.testBit_and, e1, e2, Nat.zero_testBit]
    cases s.testBit i <;> cases t.testBit i <;> rfl
  · apply Nat.eq_of_testBit_eq; intro i
    simp only [Nat.testBit_and, e1, Nat.zero_testBit]
    cases s.testBit i <;> cases t.testBit i <;> rfl
  · apply Nat.eq_of_testBit_eq; intro i
    simp only [Nat.testBit_and, e2, Nat.zero_testBit]
    cases s.testBit i <;> cases t.testBit i <;> rfl
  · constructor
    · rintro rfl
      have h : less s s = 0 := by
        apply Nat.eq_of_testBit_eq; intro i
        rw [e1, Nat.zero_testBit]; cases s.testBit i <;> rfl
      exact ⟨h, h⟩
    · rintro ⟨h1, h2⟩
      apply Nat.eq_of_testBit_eq; intro i
      have g1 := e1 i
      have g2 := e2 i
      rw [h1, Nat.zero_testBit] at g1
      rw [h2, Nat.zero_testBit] at g2
      revert g1 g2
      cases s.testBit i <;> cases t.testBit i <;> simp
theorem ownsRow_below {w w' : World} {base : Nat} {e : TypeId} {size : Nat} {v : Value} {n : Nat} {xs : List Value} (h : w.ownsRow base e size v n xs) (hb : Below w.heap.size w w') : w'.ownsRow base e size v n xs := by
  refine ⟨h.1, ?_⟩
  rcases h.2 with h2 | ⟨g, cap, cur, e1, e2, e3, e4⟩
  · exact .inl h2
  · have hg : g < w.heap.size := by
      rcases Nat.lt_or_ge g w.heap.size with h | h
      · exact h
      · rw [Array.getElem?_eq_none h] at e3; cases e3
    exact .inr ⟨g, cap, cur, e1, e2, (hb.block g hg).trans e3, e4⟩
theorem has_bit (u k : Nat) (b : Bool) (hu : u < 18446744073709551616) (hk : k < 64) (hb : u.testBit k = b) (W : World) :
    Calls Tryd.prog 10 #[.int .u64 (u : Nat), .int .i64 (k : Nat)] W fun e w' => e = .returned (.bool b) ∧ w' = W :=
  (has_any u k hu W).mono fun _ _ ⟨he, hw⟩ => ⟨by rw [he, has_eq, decide_eq_true (by omega), Int.toNat_natCast, hb]; rfl, hw⟩
theorem u32_of {a : Int} (h : (Lit.int .u32 a).wf = true) : 0 ≤ a ∧ a < 4294967296 := by
  simp [Lit.wf, IntKind.min, IntKind.max, IntKind.signed, IntKind.bits] at h; omega
theorem tab_of' {W : World} (h : laidMetH Tryd.prog [("math/bits.deBruijn64tab", Lib.tabData .u8 (Lib.deBruijn64tab.map Int.ofNat))] W) (hp : (∀ W, laidMetH Tryd.prog [("math/bits.deBruijn64tab", Lib.tabData .u8 (Lib.deBruijn64tab.map Int.ofNat))] W → laidMet Tryd.prog [("math/bits.deBruijn64tab", Lib.tabData .u8 (Lib.deBruijn64tab.map Int.ofNat))] W)) : Tab W :=
  tab_of (hp W h)
end Go.Proofs.YtpoajifabjlhjaaDoor
