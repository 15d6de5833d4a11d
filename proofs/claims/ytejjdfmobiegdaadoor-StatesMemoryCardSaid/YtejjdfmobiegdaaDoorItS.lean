/- set: List: walked (with the table of lowest digits). -/
import Derived.Test.YtejjdfmobiegdaaDoorChecked
import Derived.WalkKit
import Derived.WalkLawsBesides
import Derived.Laws.BitsAll
import Derived.Laws.ShiftsVar
import Derived.Lib.Hide
import Derived.RowKit3
import Derived.Outline
import Derived.LoopTactic
import Derived.Below
import Derived.WalkSmall
import Derived.IntWalk
import Derived.Lib.LaidTab
import Derived.Lib.TrailingZeros
import Derived.Laws.Bits64b
import Derived.Stop.LaidErr
import Derived.LaidMore
import Derived.OwnWalk
import Derived.OpenShut
import Derived.Deep.AppendLies
import Derived.Deep.QuietTactic
import Derived.BigQuiet
namespace Pop
def popAux : Nat → Nat → Nat
  | 0, _ => 0
  | f + 1, x => x % 2 + popAux f (x / 2)

/-- The numbers below 64 whose digit is 1, rising. -/
def items (s : Nat) : List Nat := (List.range 64).filter (fun i => s.testBit i)

theorem popAux_items (n : Nat) : ∀ s, popAux n s = ((List.range n).filter (fun i => s.testBit i)).length := by
  induction n with
  | zero => intro s; rfl
  | succ n ih =>
    intro s
    rw [popAux, ih, List.range_succ_eq_map, List.filter_cons, List.filter_map]
    have e : ((fun i => s.testBit i) ∘ Nat.succ) = fun i => (s / 2).testBit i := by
      funext i; simp [Nat.testBit_succ]
    rw [e]
    by_cases h : s.testBit 0 = true
    · rw [if_pos h]; simp at h; simp [h]; omega
    · rw [if_neg h]; simp at h; simp [h]

theorem and_byte (x m : Nat) : x &&& m = (x % 256 &&& m % 256) + 256 * (x / 256 &&& m / 256) := by
  have h1 : (x &&& m) % 2 ^ 8 = x % 2 ^ 8 &&& m % 2 ^ 8 := Nat.and_mod_two_pow
  have h2 : (x &&& m) / 2 ^ 8 = x / 2 ^ 8 &&& m / 2 ^ 8 := Nat.and_div_two_pow
  simp only [show (2 : Nat) ^ 8 = 256 from rfl] at h1 h2
  omega
/-- A mask whose bytes are all c, n of them. -/
def mask (c : Nat) : Nat → Nat
  | 0 => 0
  | n + 1 => c + 256 * mask c n
theorem and_mask (c n x : Nat) (hc : c < 256) : x &&& mask c (n + 1) = (x % 256 &&& c) + 256 * (x / 256 &&& mask c n) := by
  rw [and_byte x (mask c (n + 1)), mask]
  rw [show (c + 256 * mask c n) % 256 = c by omega, show (c + 256 * mask c n) / 256 = mask c n by omega]

def f1 (b : Nat) : Nat := (b / 2 &&& 85) + (b &&& 85)
def f2 (b : Nat) : Nat := (b / 4 &&& 51) + (b &&& 51)
def f3 (b : Nat) : Nat := (b / 16 + b) % 16
def S1 (n x : Nat) : Nat := (x / 2 &&& mask 85 n) + (x &&& mask 85 n)
def S2 (n x : Nat) : Nat := (x / 4 &&& mask 51 n) + (x &&& mask 51 n)
def S3 (n x : Nat) : Nat := (x / 16 + x) &&& mask 15 n
theorem f1_t : ∀ b : Fin 256, (b.val / 2 + 128 &&& 85) = (b.val / 2 &&& 85) ∧ f1 b.val < 256 ∧ f2 (f1 b.val) < 256 ∧ f2 (f1 b.val) % 16 ≤ 4 ∧ f2 (f1 b.val) / 16 ≤ 4 ∧ f3 (f2 (f1 b.val)) = popAux 8 b.val := by decide +kernel
theorem f2_t : ∀ b : Fin 256, (b.val / 4 + 64 &&& 51) = (b.val / 4 &&& 51) ∧ (b.val / 4 + 128 &&& 51) = (b.val / 4 &&& 51) ∧ (b.val / 4 + 192 &&& 51) = (b.val / 4 &&& 51) := by decide +kernel
theorem S1_step (n x : Nat) : S1 (n + 1) x = f1 (x % 256) + 256 * S1 n (x / 256) := by
  unfold S1
  rw [and_mask _ _ _ (by decide), and_mask _ _ _ (by decide), show x / 2 / 256 = x / 256 / 2 by omega]
  have t := (f1_t ⟨x % 256, by omega⟩).1
  have e : x / 2 % 256 = x % 256 / 2 + 128 * (x / 256 % 2) := by omega
  have : (x / 2 % 256 &&& 85) = (x % 256 / 2 &&& 85) := by
    rw [e]
    rcases Nat.mod_two_eq_zero_or_one (x / 256) with h | h
    · rw [h]; simp
    · rw [h]; simpa using t
  rw [this]; unfold f1; omega
theorem S2_step (n x : Nat) : S2 (n + 1) x = f2 (x % 256) + 256 * S2 n (x / 256) := by
  unfold S2
  rw [and_mask _ _ _ (by decide), and_mask _ _ _ (by decide), show x / 4 / 256 = x / 256 / 4 by omega]
  have t := f2_t ⟨x % 256, by omega⟩
  have e : x / 4 % 256 = x % 256 / 4 + 64 * (x / 256 % 4) := by omega
  have : (x / 4 % 256 &&& 51) = (x % 256 / 4 &&& 51) := by
    rw [e]
    have h : x / 256 % 4 = 0 ∨ x / 256 % 4 = 1 ∨ x / 256 % 4 = 2 ∨ x / 256 % 4 = 3 := by omega
    rcases h with h | h | h | h
    · rw [h]; simp
    · rw [h]; simpa using t.1
    · rw [h]; simpa using t.2.1
    · rw [h]; simpa using t.2.2
  rw [this]; unfold f2; omega
theorem S3_step (n y : Nat) (h1 : y % 16 ≤ 4) (h2 : y / 16 % 16 ≤ 4) (h3 : y / 256 % 16 ≤ 4) : S3 (n + 1) y = f3 (y % 256) + 256 * S3 n (y / 256) := by
  unfold S3 f3
  rw [and_mask _ _ _ (by decide)]
  have e : (y / 16 + y) / 256 = y / 256 / 16 + y / 256 := by
    obtain ⟨lo, hi, s, t, rfl, a1, a2, a3⟩ : ∃ lo hi s t, y = lo + 16 * hi + 256 * (s + 16 * t) ∧ lo ≤ 4 ∧ hi ≤ 4 ∧ s ≤ 4 := ⟨y % 16, y / 16 % 16, y / 256 % 16, y / 4096, by omega, h1, h2, h3⟩
    have g1 : (lo + 16 * hi + 256 * (s + 16 * t)) / 16 = hi + 16 * (s + 16 * t) := by omega
    have g2 : (lo + 16 * hi + 256 * (s + 16 * t)) / 256 = s + 16 * t := by omega
    have g3 : (s + 16 * t) / 16 = t := by omega
    rw [g1, g2, g3]; clear g1 g2 g3 h1 h2 h3; omega
  have m : (y / 16 + y) % 256 &&& 15 = (y / 16 + y) % 256 % 16 := Nat.and_two_pow_sub_one_eq_mod _ 4
  rw [e, m]; omega

/-- Bytes put together. -/
def num : List Nat → Nat
  | [] => 0
  | b :: l => b + 256 * num l
theorem S1_num : ∀ l : List Nat, (∀ b ∈ l, b < 256) → S1 l.length (num l) = num (l.map f1)
  | [], _ => rfl
  | b :: l, h => by
    have hb := h b (by simp)
    rw [List.length_cons, S1_step, num, show (b + 256 * num l) % 256 = b by omega, show (b + 256 * num l) / 256 = num l by omega, S1_num l (fun x hx => h x (by simp [hx]))]
    rfl
theorem S2_num : ∀ l : List Nat, (∀ b ∈ l, b < 256) → S2 l.length (num l) = num (l.map f2)
  | [], _ => rfl
  | b :: l, h => by
    have hb := h b (by simp)
    rw [List.length_cons, S2_step, num, show (b + 256 * num l) % 256 = b by omega, show (b + 256 * num l) / 256 = num l by omega, S2_num l (fun x hx => h x (by simp [hx]))]
    rfl
theorem S3_num : ∀ l : List Nat, (∀ b ∈ l, b < 256 ∧ b % 16 ≤ 4 ∧ b / 16 ≤ 4) → S3 l.length (num l) = num (l.map f3)
  | [], _ => rfl
  | b :: l, h => by
    have hb := h b (by simp)
    have hn : num l % 16 ≤ 4 := by
      cases l with
      | nil => simp [num]
      | cons c l => have hc := h c (by simp); simp only [num]; omega
    rw [List.length_cons, S3_step _ _ (by simp only [num]; omega) (by simp only [num]; omega) (by simp only [num]; omega), num, show (b + 256 * num l) % 256 = b by omega, show (b + 256 * num l) / 256 = num l by omega, S3_num l (fun x hx => h x (by simp [hx]))]
    rfl
theorem popAux_mod (n x : Nat) : popAux n (x % 2 ^ n) = popAux n x := by
  induction n generalizing x with
  | zero => rfl
  | succ n ih =>
    have e1 : x % 2 ^ (n + 1) % 2 = x % 2 := by rw [Nat.pow_succ, Nat.mul_comm, Nat.mod_mul_right_mod]
    have e2 : x % 2 ^ (n + 1) / 2 = x / 2 % 2 ^ n := by rw [Nat.pow_succ, Nat.mul_comm, Nat.mod_mul_right_div_self]
    simp only [popAux]
    rw [e1, e2, ih]
theorem popAux_add (m n x : Nat) : popAux (m + n) x = popAux m x + popAux n (x / 2 ^ m) := by
  induction m generalizing x with
  | zero => simp [popAux]
  | succ m ih =>
    rw [show m + 1 + n = (m + n) + 1 by omega]
    simp only [popAux]
    rw [ih, Nat.div_div_eq_div_mul, show 2 * 2 ^ m = 2 ^ (m + 1) by rw [Nat.pow_succ, Nat.mul_comm]]
    omega
theorem popAux_byte (n b r : Nat) (hb : b < 256) : popAux (8 + n) (b + 256 * r) = popAux 8 b + popAux n r := by
  rw [popAux_add, ← popAux_mod 8, show (2 : Nat) ^ 8 = 256 from rfl, show (b + 256 * r) % 256 = b by omega, show (b + 256 * r) / 256 = r by omega]
theorem popAux_le (n : Nat) : ∀ x, popAux n x ≤ n := by
  induction n with
  | zero => intro x; exact Nat.le_refl _
  | succ n ih => intro x; have := ih (x / 2); simp only [popAux]; omega

def SWAR (x : Nat) : Nat :=
  let y := S3 8 (S2 8 (S1 8 x))
  let a := y + y / 256
  let b := a + a / 65536
  let c := b + b / 4294967296
  c % 128
theorem div_num (b : Nat) (l : List Nat) (h : b < 256) : num (b :: l) / 256 = num l := by simp only [num]; omega
theorem mod_num (b : Nat) (l : List Nat) : num (b :: l) % 128 = b % 128 := by simp only [num]; omega
theorem div2_num (b0 b1 : Nat) (l : List Nat) (h0 : b0 < 256) (h1 : b1 < 256) : num (b0 :: b1 :: l) / 65536 = num l := by
  rw [show (65536 : Nat) = 256 * 256 from rfl, ← Nat.div_div_eq_div_mul, div_num _ _ h0, div_num _ _ h1]
theorem div4_num (b0 b1 b2 b3 : Nat) (l : List Nat) (h0 : b0 < 256) (h1 : b1 < 256) (h2 : b2 < 256) (h3 : b3 < 256) : num (b0 :: b1 :: b2 :: b3 :: l) / 4294967296 = num l := by
  rw [show (4294967296 : Nat) = 65536 * 65536 from rfl, ← Nat.div_div_eq_div_mul, div2_num _ _ _ h0 h1, div2_num _ _ _ h2 h3]
theorem num_lt : ∀ (l : List Nat) (k : Nat), (∀ b ∈ l, b ≤ k) → num l ≤ k * num (l.map fun _ => 1)
  | [], k, _ => by simp [num]
  | b :: l, k, h => by
    have h1 := num_lt l k (fun x hx => h x (by simp [hx]))
    have h2 := h b (by simp)
    simp only [num, List.map_cons, Nat.mul_add, ← Nat.mul_assoc, Nat.mul_comm k 256]
    rw [Nat.mul_assoc]; omega
theorem num_add : ∀ (l m : List Nat), l.length = m.length → num l + num m = num (List.zipWith (· + ·) l m)
  | [], [], _ => rfl
  | a :: l, b :: m, h => by
    have := num_add l m (by simpa using h)
    simp only [num, List.zipWith_cons_cons]; omega
theorem tail8 (p0 p1 p2 p3 p4 p5 p6 p7 : Nat) (h0 : p0 ≤ 8) (h1 : p1 ≤ 8) (h2 : p2 ≤ 8) (h3 : p3 ≤ 8) (h4 : p4 ≤ 8) (h5 : p5 ≤ 8) (h6 : p6 ≤ 8) (h7 : p7 ≤ 8) (y a b c : Nat)
    (hy : y = num [p0, p1, p2, p3, p4, p5, p6, p7]) (ha : a = y + y / 256) (hb : b = a + a / 65536) (hc : c = b + b / 4294967296) :
    c % 128 = p0 + p1 + p2 + p3 + p4 + p5 + p6 + p7 ∧ y < 651061555542690057 ∧ a < 1302123111085380114 ∧ b < 2604246222170760228 ∧ c < 5208492444341520456 := by
  have ea : a = num [p0 + p1, p1 + p2, p2 + p3, p3 + p4, p4 + p5, p5 + p6, p6 + p7, p7] := by
    rw [ha, hy, div_num _ _ (by omega)]; simp only [num]; clear hy ha hb hc; omega
  have eb : b = num [p0 + p1 + (p2 + p3), p1 + p2 + (p3 + p4), p2 + p3 + (p4 + p5), p3 + p4 + (p5 + p6), p4 + p5 + (p6 + p7), p5 + p6 + p7, p6 + p7, p7] := by
    rw [hb, ea, div2_num _ _ _ (by omega) (by omega)]; simp only [num]; clear hy ha hb hc ea; omega
  have ec : c = num [p0 + p1 + (p2 + p3) + (p4 + p5 + (p6 + p7)), p1 + p2 + (p3 + p4) + (p5 + p6 + p7), p2 + p3 + (p4 + p5) + (p6 + p7), p3 + p4 + (p5 + p6) + p7, p4 + p5 + (p6 + p7), p5 + p6 + p7, p6 + p7, p7] := by
    rw [hc, eb, div4_num _ _ _ _ _ (by omega) (by omega) (by omega) (by omega)]; simp only [num]; clear hy ha hb hc ea eb; omega
  have hyb := num_lt [p0, p1, p2, p3, p4, p5, p6, p7] 8 (by intro b hb; simp only [List.mem_cons, List.not_mem_nil, or_false] at hb; omega)
  rw [← hy] at hyb
  simp only [num, List.map_cons, List.map_nil] at hyb
  refine ⟨?_, by omega, by omega, by omega, by omega⟩
  rw [ec, mod_num _ _]
  clear hyb hy ha hb hc ea eb ec
  omega

theorem num_byte (x : Nat) (h : x < 18446744073709551616) : x = num [x % 256, x / 256 % 256, x / 65536 % 256, x / 16777216 % 256, x / 4294967296 % 256, x / 1099511627776 % 256, x / 281474976710656 % 256, x / 72057594037927936] := by
  simp only [num]; omega
theorem popAux_num : ∀ l : List Nat, (∀ b ∈ l, b < 256) → popAux (8 * l.length) (num l) = (l.map (popAux 8)).sum
  | [], _ => rfl
  | b :: l, h => by
    rw [List.length_cons, show 8 * (l.length + 1) = 8 + 8 * l.length by omega, num, popAux_byte _ _ _ (h b (by simp)), popAux_num l (fun x hx => h x (by simp [hx]))]
    simp
/-- The number of digits that are 1, by parallel sums: the last three steps do not carry. -/
theorem swar (x : Nat) (h : x < 18446744073709551616) (y a b c : Nat) (hy : y = S3 8 (S2 8 (S1 8 x))) (ha : a = y + y / 256) (hb : b = a + a / 65536) (hc : c = b + b / 4294967296) :
    c % 128 = (items x).length ∧ y < 651061555542690057 ∧ a < 1302123111085380114 ∧ b < 2604246222170760228 ∧ c < 5208492444341520456 := by
  have hx := num_byte x h
  generalize hl : [x % 256, x / 256 % 256, x / 65536 % 256, x / 16777216 % 256, x / 4294967296 % 256, x / 1099511627776 % 256, x / 281474976710656 % 256, x / 72057594037927936] = l at hx
  have hb256 : ∀ b ∈ l, b < 256 := by
    rw [← hl]; intro b hb; simp only [List.mem_cons, List.not_mem_nil, or_false] at hb
    rcases hb with rfl | rfl | rfl | rfl | rfl | rfl | rfl | rfl <;> omega
  have hlen : l.length = 8 := by rw [← hl]; rfl
  have hp : popAux 64 x = (l.map (popAux 8)).sum := by
    have := popAux_num l hb256
    rw [hlen] at this; rw [hx]; exact this
  have e1 : S1 8 x = num (l.map f1) := by have := S1_num l hb256; rw [hlen] at this; rw [hx]; exact this
  have b1 : ∀ b ∈ l.map f1, b < 256 := by
    intro b hb; obtain ⟨v, hv, rfl⟩ := List.mem_map.1 hb
    exact (f1_t ⟨v, hb256 v hv⟩).2.1
  have e2 : S2 8 (S1 8 x) = num ((l.map f1).map f2) := by have := S2_num _ b1; rw [List.length_map, hlen] at this; rw [e1]; exact this
  have b2 : ∀ b ∈ (l.map f1).map f2, b < 256 ∧ b % 16 ≤ 4 ∧ b / 16 ≤ 4 := by
    intro b hb; obtain ⟨u, hu, rfl⟩ := List.mem_map.1 hb; obtain ⟨v, hv, rfl⟩ := List.mem_map.1 hu
    have t := (f1_t ⟨v, hb256 v hv⟩).2.2
    exact ⟨t.1, t.2.1, t.2.2.1⟩
  have e3 : y = num (((l.map f1).map f2).map f3) := by have := S3_num _ b2; rw [List.length_map, List.length_map, hlen] at this; rw [hy, e2]; exact this
  have e4 : ((l.map f1).map f2).map f3 = l.map (popAux 8) := by
    rw [List.map_map, List.map_map]
    refine List.map_congr_left fun v hv => ?_
    exact (f1_t ⟨v, hb256 v hv⟩).2.2.2.2.2
  rw [e4] at e3
  have hi : (items x).length = popAux 64 x := (popAux_items 64 x).symm
  rw [hi, hp]
  have key : ∀ m : List Nat, m.length = 8 → (∀ p ∈ m, p ≤ 8) → y = num m → c % 128 = m.sum ∧ y < 651061555542690057 ∧ a < 1302123111085380114 ∧ b < 2604246222170760228 ∧ c < 5208492444341520456 := by
    intro m hm h8 hy
    match m, hm with
    | [p0, p1, p2, p3, p4, p5, p6, p7], _ =>
      have t := tail8 p0 p1 p2 p3 p4 p5 p6 p7 (h8 _ (by simp)) (h8 _ (by simp)) (h8 _ (by simp)) (h8 _ (by simp)) (h8 _ (by simp)) (h8 _ (by simp)) (h8 _ (by simp)) (h8 _ (by simp)) y a b c hy ha hb hc
      refine ⟨?_, t.2⟩
      rw [t.1]; simp; omega
  exact key _ (by rw [List.length_map, hlen]) (fun p hp => by obtain ⟨v, hv, rfl⟩ := List.mem_map.1 hp; exact popAux_le 8 v) e3
theorem S_bounds (x : Nat) (h : x < 18446744073709551616) : S1 8 x < 18446744073709551616 ∧ S2 8 (S1 8 x) < 4919131752989213765 := by
  have hx := num_byte x h
  generalize hl : [x % 256, x / 256 % 256, x / 65536 % 256, x / 16777216 % 256, x / 4294967296 % 256, x / 1099511627776 % 256, x / 281474976710656 % 256, x / 72057594037927936] = l at hx
  have hb256 : ∀ b ∈ l, b < 256 := by
    rw [← hl]; intro b hb; simp only [List.mem_cons, List.not_mem_nil, or_false] at hb
    rcases hb with rfl | rfl | rfl | rfl | rfl | rfl | rfl | rfl <;> omega
  have hlen : l.length = 8 := by rw [← hl]; rfl
  have e1 : S1 8 x = num (l.map f1) := by have := S1_num l hb256; rw [hlen] at this; rw [hx]; exact this
  have b1 : ∀ b ∈ l.map f1, b < 256 := by
    intro b hb; obtain ⟨v, hv, rfl⟩ := List.mem_map.1 hb
    exact (f1_t ⟨v, hb256 v hv⟩).2.1
  have e2 : S2 8 (S1 8 x) = num ((l.map f1).map f2) := by have := S2_num _ b1; rw [List.length_map, hlen] at this; rw [e1]; exact this
  have b2 : ∀ b ∈ (l.map f1).map f2, b ≤ 68 := by
    intro b hb; obtain ⟨u, hu, rfl⟩ := List.mem_map.1 hb; obtain ⟨v, hv, rfl⟩ := List.mem_map.1 hu
    have t := (f1_t ⟨v, hb256 v hv⟩).2.2
    have t1 : f2 (f1 v) % 16 ≤ 4 := t.2.1
    have t2 : f2 (f1 v) / 16 ≤ 4 := t.2.2.1
    omega
  have ones : ∀ m : List Nat, m.length = 8 → num (m.map fun _ => 1) = 72340172838076673 := by
    intro m hm
    match m, hm with
    | [_, _, _, _, _, _, _, _], _ => simp only [num, List.map_cons, List.map_nil]
  have g1 := num_lt (l.map f1) 255 (fun b hb => by have := b1 b hb; omega)
  have g2 := num_lt ((l.map f1).map f2) 68 b2
  rw [ones _ (by rw [List.length_map, hlen])] at g1
  rw [ones _ (by rw [List.length_map, List.length_map, hlen])] at g2
  rw [e2, e1]
  omega
theorem mask85 : mask 85 8 = 6148914691236517205 := by decide
theorem mask51 : mask 51 8 = 3689348814741910323 := by decide
theorem mask15 : mask 15 8 = 1085102592571150095 := by decide
theorem items_le (s : Nat) : (items s).length ≤ 64 := by have := List.length_filter_le (fun i => s.testBit i) (List.range 64); simpa [items] using this
theorem range_split (n k : Nat) (h : k < n) : List.range n = List.range' 0 k ++ k :: List.range' (k + 1) (n - k - 1) := by
  have e : n = k + ((n - k - 1) + 1) := by omega
  rw [List.range_eq_range', e, ← List.range'_append_1, Nat.zero_add, List.range'_succ]
  rw [show k + (n - k - 1 + 1) - k - 1 = n - k - 1 by omega]
/-- The lowest digit that is 1 comes first; without it the rest. -/
theorem items_step (k m : Nat) (hk : k < 64) : items (2 ^ k * (2 * m + 1)) = k :: items (2 ^ k * (2 * m)) := by
  unfold items
  rw [range_split 64 k hk, List.filter_append, List.filter_append, List.filter_cons, List.filter_cons]
  have low : ∀ t i, i ∈ List.range' 0 k → (2 ^ k * t).testBit i = false := by
    intro t i hi
    rw [List.mem_range'_1] at hi
    rw [Nat.mul_comm, Nat.testBit_mul_two_pow, decide_eq_false (by omega)]; rfl
  have hi : ∀ i, i ∈ List.range' (k + 1) (64 - k - 1) → (2 ^ k * (2 * m + 1)).testBit i = (2 ^ k * (2 * m)).testBit i := by
    intro i h
    rw [List.mem_range'_1] at h
    rw [Nat.mul_comm, Nat.testBit_mul_two_pow, Nat.mul_comm (2 ^ k), Nat.testBit_mul_two_pow]
    obtain ⟨j, rfl⟩ : ∃ j, i = k + (j + 1) := ⟨i - k - 1, by omega⟩
    rw [show k + (j + 1) - k = j + 1 by omega, Nat.testBit_succ, Nat.testBit_succ, show (2 * m + 1) / 2 = m by omega, show 2 * m / 2 = m by omega]
  have mid : (2 ^ k * (2 * m + 1)).testBit k = true := by
    rw [Nat.mul_comm, Nat.testBit_mul_two_pow]; simp
  have mid' : (2 ^ k * (2 * m)).testBit k = false := by
    rw [Nat.mul_comm, Nat.testBit_mul_two_pow]; simp
  have f1 : (List.range' 0 k).filter (fun i => (2 ^ k * (2 * m + 1)).testBit i) = [] := List.filter_eq_nil_iff.2 fun i h => by rw [low _ i h]; simp
  have f2 : (List.range' 0 k).filter (fun i => (2 ^ k * (2 * m)).testBit i) = [] := List.filter_eq_nil_iff.2 fun i h => by rw [low _ i h]; simp
  rw [f1, f2, if_pos mid, if_neg (by rw [mid']; simp), List.filter_congr hi]
  rfl
theorem items_zero : items 0 = [] := by unfold items; exact List.filter_eq_nil_iff.2 fun i _ => by simp
/-- x without its lowest digit. -/
theorem drop_low (k m : Nat) : 2 ^ k * (2 * m + 1) &&& (2 ^ k * (2 * m + 1) - 1) = 2 ^ k * (2 * m) := by
  have hp : 0 < 2 ^ k := Nat.two_pow_pos k
  have e : 2 ^ k * (2 * m + 1) - 1 = (2 ^ k - 1) + 2 ^ k * (2 * m) := by rw [Nat.mul_add]; omega
  have e0 : 2 ^ k * (2 * m + 1) = 2 ^ k * (2 * m + 1) + 0 := rfl
  rw [e]
  apply Nat.eq_of_testBit_eq
  intro i
  rw [Nat.testBit_and]
  rw [Nat.add_comm (2 ^ k - 1), Nat.testBit_two_pow_mul_add _ (by omega)]
  rw [Nat.mul_comm (2 ^ k), Nat.testBit_mul_two_pow, Nat.mul_comm (2 ^ k), Nat.testBit_mul_two_pow]
  by_cases h : i < k
  · rw [if_pos h, decide_eq_false (by omega)]; simp
  · rw [if_neg h, decide_eq_true (by omega), Bool.true_and, Bool.true_and]
    cases hj : i - k with
    | zero => simp
    | succ j => rw [Nat.testBit_succ, Nat.testBit_succ, show (2 * m + 1) / 2 = m by omega, show 2 * m / 2 = m by omega, Bool.and_self]
theorem mem_items (s i : Nat) : i ∈ items s ↔ i < 64 ∧ s.testBit i = true := by unfold items; rw [List.mem_filter, List.mem_range]
end Pop

namespace Go.Proofs.YtejjdfmobiegdaaDoor.Sl
open Go.RowKit

theorem ret_int {k : IntKind} {a b : Int} (h : a = b) : Ending.returned (.int k a) = .returned (.int k b) := by rw [h]
theorem ret_bool {a b : Bool} (h : a = b) : Ending.returned (.bool a) = .returned (.bool b) := by rw [h]

theorem digit_out (n : Int) (h : n < 0 ∨ 64 ≤ n) (w : World) :
    Calls Tryd.prog 98 #[.int .i64 n] w fun e w' => e = .returned (.int .u64 0) ∧ w' = w := by
  rcases h with h | h
  · go_enter Tryd.func98, Tryd.ntmps98
    go_wp2
    go_ret
    exact ⟨rfl, rfl⟩
  · have h0 : 0 ≤ n := by omega
    go_enter Tryd.func98, Tryd.ntmps98
    go_wp2
    go_ret
    exact ⟨rfl, rfl⟩
theorem or_nat (s t : Nat) (hs : s < 18446744073709551616) (ht : t < 18446744073709551616) : bits .or .u64 (s : Int) (t : Int) = ((s ||| t : Nat) : Int) := by
  rw [u64_or _ _ (by omega) (by omega) (by omega) (by omega)]; rfl
theorem and_nat (s t : Nat) (hs : s < 18446744073709551616) (ht : t < 18446744073709551616) : bits .and .u64 (s : Int) (t : Int) = ((s &&& t : Nat) : Int) := by
  rw [u64_and _ _ (by omega) (by omega) (by omega) (by omega)]; rfl
theorem andNot_nat (s t : Nat) (hs : s < 18446744073709551616) (ht : t < 18446744073709551616) : bits .andNot .u64 (s : Int) (t : Int) = ((s &&& (18446744073709551615 - t) : Nat) : Int) := by
  rw [u64_andNot _ _ (by omega) (by omega) (by omega) (by omega)]; rfl
theorem pow_lt (n : Nat) (h : n < 64) : 2 ^ n < 18446744073709551616 := Nat.pow_lt_pow_right (by omega) h
theorem pow_u64 (n : Nat) (h : n < 64) : IntKind.u64.wrap (2 ^ n) = ((2 ^ n : Nat) : Int) := by
  have h1 := pow_lt n h
  have e : (2 : Int) ^ n = ((2 ^ n : Nat) : Int) := by simp
  rw [IntKind.wrap_u64, e]
  generalize 2 ^ n = m at *
  omega
theorem mask127 (c : Nat) (h : c < 5208492444341520456) : bits .and .i64 (wrap64 (c : Int)) 127 = ((c % 128 : Nat) : Int) := by
  rw [IntWalk.wrap64_in _ (by omega)]
  have e := bits_mask .i64 63 (by decide) (fun n h0 h1 => by rw [IntKind.wrap_i64]; omega) 7 (by decide) (c : Int) (by omega) (by omega)
  rw [show (127 : Int) = 2 ^ 7 - 1 from rfl, e]; omega
theorem digit_in (n : Nat) (h : n < 64) (w : World) :
    Calls Tryd.prog 98 #[.int .i64 n] w fun e w' => e = .returned (.int .u64 (2 ^ n : Nat)) ∧ w' = w := by
  go_enter Tryd.func98, Tryd.ntmps98
  go_wp2
  go_ret
  exact ⟨ret_int (pow_u64 n h), rfl⟩
theorem ones_any (x : Nat) (h : x < 18446744073709551616) (w : World) :
    Calls Tryd.prog 147 #[.int .u64 x] w fun e w' => e = .returned (.int .i64 ((Pop.items x).length : Nat)) ∧ w' = w := by
  have B := Pop.S_bounds x h
  have k1 : IntKind.u64.wrap (bits .and .u64 (↑x / 2) 6148914691236517205 + bits .and .u64 ↑x 6148914691236517205) = ((Pop.S1 8 x : Nat) : Int) := by
    rw [show (x : Int) / 2 = ((x / 2 : Nat) : Int) by omega, show (6148914691236517205 : Int) = ((6148914691236517205 : Nat) : Int) from rfl, and_nat _ _ (by omega) (by omega), and_nat _ _ h (by omega), IntKind.wrap_u64]
    have e : Pop.S1 8 x = (x / 2 &&& 6148914691236517205) + (x &&& 6148914691236517205) := by unfold Pop.S1; rw [Pop.mask85]
    omega
  generalize hy1 : Pop.S1 8 x = y1 at *
  have k2 : IntKind.u64.wrap (bits .and .u64 (↑y1 / 4) 3689348814741910323 + bits .and .u64 ↑y1 3689348814741910323) = ((Pop.S2 8 y1 : Nat) : Int) := by
    rw [show (y1 : Int) / 4 = ((y1 / 4 : Nat) : Int) by omega, show (3689348814741910323 : Int) = ((3689348814741910323 : Nat) : Int) from rfl, and_nat _ _ (by omega) (by omega), and_nat _ _ B.1 (by omega), IntKind.wrap_u64]
    have e : Pop.S2 8 y1 = (y1 / 4 &&& 3689348814741910323) + (y1 &&& 3689348814741910323) := by unfold Pop.S2; rw [Pop.mask51]
    omega
  generalize hy2 : Pop.S2 8 y1 = y2 at *
  have k3 : bits .and .u64 (IntKind.u64.wrap (↑y2 / 16 + ↑y2)) 1085102592571150095 = ((Pop.S3 8 y2 : Nat) : Int) := by
    rw [IntKind.wrap_u64, show ((y2 : Int) / 16 + (y2 : Int)) % 18446744073709551616 = ((y2 / 16 + y2 : Nat) : Int) by omega, show (1085102592571150095 : Int) = ((1085102592571150095 : Nat) : Int) from rfl, and_nat _ _ (by omega) (by omega)]
    unfold Pop.S3; rw [Pop.mask15]
  generalize hy3 : Pop.S3 8 y2 = y3 at *
  have S := Pop.swar x h y3 _ _ _ (by rw [hy1, hy2, hy3]) rfl rfl rfl
  have k4 : IntKind.u64.wrap ((y3 : Int) + ↑y3 / 256) = ((y3 + y3 / 256 : Nat) : Int) := by rw [IntKind.wrap_u64]; omega
  generalize ha : y3 + y3 / 256 = a at *
  have k5 : IntKind.u64.wrap ((a : Int) + ↑a / 65536) = ((a + a / 65536 : Nat) : Int) := by rw [IntKind.wrap_u64]; omega
  generalize hb : a + a / 65536 = b at *
  have k6 : IntKind.u64.wrap ((b : Int) + ↑b / 4294967296) = ((b + b / 4294967296 : Nat) : Int) := by rw [IntKind.wrap_u64]; omega
  generalize hc : b + b / 4294967296 = c at *
  have K1 := Lib.hid k1
  have K2 := Lib.hid k2
  have K3 := Lib.hid k3
  have K4 := Lib.hid k4
  have K5 := Lib.hid k5
  have K6 := Lib.hid k6
  have SS := Lib.hid S
  clear k1 k2 k3 k4 k5 k6 S hc hb ha hy3 hy2 hy1 B
  go_enter Tryd.func147, Tryd.ntmps147
  go_wp2
  go_ret
  refine ⟨ret_int ?_, rfl⟩
  rw [K1.out, K2.out, K3.out, K4.out, K5.out, K6.out]
  rw [mask127 c SS.out.2.2.2.2, SS.out.1]
theorem join_any (s t : Nat) (hs : s < 18446744073709551616) (ht : t < 18446744073709551616) (w : World) :
    Calls Tryd.prog 120 #[.int .u64 s, .int .u64 t] w fun e w' => e = .returned (.int .u64 (s ||| t : Nat)) ∧ w' = w := by
  go_enter Tryd.func120, Tryd.ntmps120
  go_wp2
  go_ret
  exact ⟨ret_int (or_nat s t hs ht), rfl⟩
/-- What is in s alone. -/
def less (s t : Nat) : Nat := s &&& (18446744073709551615 - t)
theorem less_any (s t : Nat) (hs : s < 18446744073709551616) (ht : t < 18446744073709551616) (w : World) :
    Calls Tryd.prog 125 #[.int .u64 s, .int .u64 t] w fun e w' => e = .returned (.int .u64 (less s t : Nat)) ∧ w' = w := by
  go_enter Tryd.func125, Tryd.ntmps125
  go_wp2
  go_ret
  exact ⟨ret_int (andNot_nat s t hs ht), rfl⟩
theorem count_any (s : Nat) (hs : s < 18446744073709551616) (w : World) :
    Calls Tryd.prog 140 #[.int .u64 s] w fun e w' => e = .returned (.int .i64 ((Pop.items s).length : Nat)) ∧ w' = w := by
  go_enter Tryd.func140, Tryd.ntmps140
  go_wp2_with (go_at_call 147; refine (ones_any s hs _).mono ?_; rintro e w' ⟨rfl, rfl⟩)
  go_ret
  exact ⟨rfl, rfl⟩
/-- The set of n alone; none, if n can't be in one. -/
def dig (n : Int) : Nat := if 0 ≤ n ∧ n < 64 then 2 ^ n.toNat else 0
theorem dig_lt (n : Int) : dig n < 18446744073709551616 := by
  unfold dig; split
  · exact pow_lt _ (by omega)
  · decide
theorem digit_any (n : Int) (w : World) :
    Calls Tryd.prog 98 #[.int .i64 n] w fun e w' => e = .returned (.int .u64 (dig n : Nat)) ∧ w' = w := by
  by_cases h : 0 ≤ n ∧ n < 64
  · obtain ⟨k, rfl⟩ := Int.eq_ofNat_of_zero_le h.1
    rw [show dig (k : Int) = 2 ^ k by unfold dig; rw [if_pos h, Int.toNat_natCast]]
    exact digit_in k (by omega) w
  · rw [show dig n = 0 by unfold dig; rw [if_neg h]]
    exact digit_out n (by omega) w
theorem and_lt (s t : Nat) (hs : s < 18446744073709551616) : s &&& t < 18446744073709551616 := Nat.lt_of_le_of_lt Nat.and_le_left hs
theorem or_lt (s t : Nat) (hs : s < 18446744073709551616) (ht : t < 18446744073709551616) : s ||| t < 18446744073709551616 := Nat.or_lt_two_pow (n := 64) hs ht
theorem with_any (s : Nat) (n : Int) (hs : s < 18446744073709551616) (w : World) :
    Calls Tryd.prog 75 #[.int .u64 s, .int .i64 n] w fun e w' => e = .returned (.int .u64 (s ||| dig n : Nat)) ∧ w' = w := by
  have hd := dig_lt n
  go_enter Tryd.func75, Tryd.ntmps75
  go_wp2_with (go_at_call 98; refine (digit_any n _).mono ?_; rintro e w' ⟨rfl, rfl⟩)
  go_ret
  exact ⟨ret_int (or_nat s _ hs hd), rfl⟩
/-- Is n in s? -/
def has (s : Nat) (n : Int) : Bool := decide (s &&& dig n ≠ 0)
theorem has_any (s : Nat) (n : Int) (hs : s < 18446744073709551616) (w : World) :
    Calls Tryd.prog 94 #[.int .u64 s, .int .i64 n] w fun e w' => e = .returned (.bool (has s n)) ∧ w' = w := by
  have hd := dig_lt n
  go_enter Tryd.func94, Tryd.ntmps94
  go_wp2_with (go_at_call 98; refine (digit_any n _).mono ?_; rintro e w' ⟨rfl, rfl⟩)
  go_ret
  refine ⟨ret_bool ?_, rfl⟩
  rw [and_nat s _ hs hd, Bool.eq_iff_iff]; unfold has; simp
/-! ### The table, and the lowest digit -/
theorem gTab : Tryd.prog.globalNamed "math/bits.deBruijn64tab" = some 0 := by kernel_rfl
/-- The table of the lowest digits is as its initialiser lays it. -/
def Tab (w : World) : Prop := Lib.TabIs Tryd.prog w "math/bits.deBruijn64tab" .u8 (Lib.deBruijn64tab.map Int.ofNat)
theorem Tab.cell {w : World} (h : Tab w) (i : Nat) (hi : i < 64) : w.cell? ⟨0, i, none⟩ = some (.int .u8 (Lib.deBruijn64tab.getD i 0 : Nat)) := by
  have hl : Lib.deBruijn64tab.length = 64 := by decide
  rw [Lib.TabIs.cell h gTab i (by rw [List.length_map, hl]; exact hi)]
  simp [List.getD, hl, hi]
theorem Tab.below {w w' : World} (h : Tab w) (hb : Below w.heap.size w w') : Tab w' := by
  have hc : w.cell? ⟨0, 0, none⟩ = some _ := h.cell 0 (by decide)
  have hlt : 0 < w.heap.size := by
    rcases Nat.lt_or_ge 0 w.heap.size with h1 | h1
    · exact h1
    · have : w.heap[0]? = none := Array.getElem?_eq_none h1
      simp [World.cell?, this] at hc
  exact var?_below hb gTab hlt h
theorem tab_of {W : World} (h : laidMet Tryd.prog [("math/bits.deBruijn64tab", Lib.tabData .u8 (Lib.deBruijn64tab.map Int.ofNat))] W) : Tab W :=
  Lib.tabIs_of_head gTab (by kernel_rfl) Tryd.underlying190 Tryd.underlying5 (by kernel_rfl) (by kernel_rfl) h

theorem tz_key (x a : Nat) (hx : x < 18446744073709551616) (hx0 : x ≠ 0) (hlow : x &&& (18446744073709551616 - x) = a) :
    IntKind.u64.wrap (bits BinOp.and IntKind.u64 (x : Int) (IntKind.u64.wrap (-(x : Int))) * 285870213051353865) / 288230376151711744 = ((a * 285870213051353865 % 18446744073709551616 / 288230376151711744 : Nat) : Int) := by
  have e1 : IntKind.u64.wrap (-(x : Int)) = ((18446744073709551616 - x : Nat) : Int) := by rw [IntKind.wrap_u64]; omega
  rw [e1, and_nat x _ hx (by omega), hlow, IntKind.wrap_u64]
  omega
theorem tz_core (x k idx : Nat) (w : World) (hx0 : ((x : Int) == 0) = false)
    (key : IntKind.u64.wrap (bits BinOp.and IntKind.u64 (x : Int) (IntKind.u64.wrap (-(x : Int))) * 285870213051353865) / 288230376151711744 = (idx : Int))
    (hi : idx < 64) (hk : k < 64) (hcell : w.cell? ⟨0, idx, none⟩ = some (.int .u8 k)) :
    Calls Tryd.prog 141 #[.int .u64 x] w fun e w' => e = .returned (.int .i64 k) ∧ w' = w := by
  go_enter Tryd.func141, Tryd.ntmps141
  go_wp2_with (simp only [key])
  go_ret
  exact ⟨rfl, rfl⟩
theorem tz_any (x : Nat) (hx0 : x ≠ 0) (hx : x < 18446744073709551616) (w : World) (hT : Tab w) :
    Calls Tryd.prog 141 #[.int .u64 x] w fun e w' => e = .returned (.int .i64 (Lib.ctz 64 x : Nat)) ∧ w' = w := by
  obtain ⟨hlow, hk⟩ := Lib.lowest_bit 64 x hx0 hx
  obtain ⟨hi, htab⟩ := Lib.deBruijn64_at _ hk
  have hcell := hT.cell _ hi
  rw [htab] at hcell
  exact tz_core x _ _ w (by simp; omega) (tz_key x _ hx hx0 hlow) hi hk hcell
theorem infoI : (Tryd.prog.info? 3).map (fun i => (i.zero, i.size, i.bytes)) = some (some (.int .i64 0), 1, 8) := by kernel_rfl
theorem low_of (r : Nat) (h0 : r ≠ 0) (h : r < 18446744073709551616) : ∃ k m, k = Lib.ctz 64 r ∧ r = 2 ^ k * (2 * m + 1) ∧ k < 64 := by
  obtain ⟨m, hm, hk⟩ := Lib.ctzFrom_spec 64 r (by omega) h
  exact ⟨_, m, by unfold Lib.ctz; rw [if_neg h0], hm, hk⟩
theorem items_next (r : Nat) (h0 : r ≠ 0) (h : r < 18446744073709551616) : Pop.items r = Lib.ctz 64 r :: Pop.items (r &&& (r - 1)) := by
  obtain ⟨k, m, hk, hr, hlt⟩ := low_of r h0 h
  rw [← hk, hr, Pop.drop_low, Pop.items_step k m hlt]
theorem next_lt (r : Nat) (h0 : r ≠ 0) : r &&& (r - 1) < r := Nat.lt_of_le_of_lt Nat.and_le_right (by omega)
theorem next_nat (r : Nat) (h0 : r ≠ 0) (h : r < 18446744073709551616) : bits .and .u64 (r : Int) ((r : Int) - 1) = ((r &&& (r - 1) : Nat) : Int) := by
  rw [show ((r : Int) - 1) = ((r - 1 : Nat) : Int) by omega, and_nat r _ h (by omega)]
theorem list_any (s : Nat) (hs : s < 18446744073709551616) (w : World) (HT : Tab w) :
    Calls Tryd.prog 126 #[.int .u64 s] w fun e w' => e = .returned (.slice (some ⟨w.heap.size, 0, none⟩) (Pop.items s).length (Pop.items s).length) ∧
      w'.ownsRow w.heap.size 3 1 (.slice (some ⟨w.heap.size, 0, none⟩) (Pop.items s).length (Pop.items s).length) (Pop.items s).length ((Pop.items s).map fun i => .int .i64 (i : Nat)) ∧ Below w.heap.size w w' := by
  have hl := Pop.items_le s
  obtain ⟨i0, hi, hz0, hz1, hz2⟩ := info_parts infoI
  go_enter Tryd.func126, Tryd.ntmps126
  go_wp2_with fail
  refine (count_any s hs _).mono ?_
  rintro e w1 ⟨rfl, rfl⟩
  generalize hc : (Pop.items s).length = c at *
  have HC := Lib.hid hc
  clear hc
  go_wp2_with (at_make; refine wpList_make_own _ rfl _ _ 25 rfl w1.heap.size 3 i0 (.int .i64 0) 1 Tryd.underlying25 hi hz0 hz1 _ _ _ c rfl rfl (by omega) ?b2 ?b3 (Nat.le_refl _) ?_)
  case b2 => rw [hz2]; omega
  case b3 => unfold maxLen; omega
  intro w0 hown0 hgrow0
  have hb0 : Below w1.heap.size w1 w0 := (Below.refl _ _).grown hgrow0 (Nat.le_refl _) (fun k h => by cases h)
  have HB0 := Lib.hid hb0
  have HO0 := Lib.hid hown0
  clear hb0 hown0 hgrow0
  go_wp2_with fail
  go_loopw [3, 4] (fun v i wr => ∃ r : Nat, ∃ xs : List Nat, r < 18446744073709551616 ∧ i = .int .u64 r ∧ v = .slice (some ⟨w1.heap.size, 0, none⟩) xs.length c ∧ Hid (xs ++ Pop.items r = Pop.items s) ∧
      wr.ownsRow w1.heap.size 3 1 (.slice (some ⟨w1.heap.size, 0, none⟩) xs.length c) xs.length (xs.map fun i => .int .i64 (i : Nat)) ∧ Below w1.heap.size w1 wr) (fun _ i _ => (intOf i).toNat)
  case atStart => exact ⟨s, [], hs, rfl, rfl, rfl, HO0.out, HB0.out⟩
  case round =>
    obtain ⟨r, xs, hr, rfl, rfl, hx, hown, hbr⟩ := hrel
    by_cases h0 : r = 0
    · subst h0
      have e := hx.out
      rw [Pop.items_zero, List.append_nil] at e
      subst e
      have hc := HC.out
      subst hc
      go_wp2
      go_ret
      exact ⟨rfl, hown, hbr⟩
    · have HN := Lib.hid (items_next r h0 hr)
      have HL := Lib.hid (next_lt r h0)
      have HV := Lib.hid (next_nat r h0 hr)
      have h0' : ((r : Int) != 0) = true := by simp; omega
      have hlen : xs.length + 1 ≤ c := by
        have := congrArg List.length hx.out
        rw [HN.out, List.length_append, List.length_cons, HC.out] at this
        omega
      go_wp2_with fail
      refine (tz_any r h0 hr _ (HT.below hbr)).mono ?_
      rintro e w2 ⟨rfl, rfl⟩
      generalize Lib.ctz 64 r = k at *
      go_wp2_with (at_builtin; refine wpList_append_fits _ rfl _ _ 25 rfl w1.heap.size 3 i0 1 Tryd.underlying25 hi hz1 w1.heap.size xs.length c _ rfl (hown.alloc _) ⟨w2.heap.size, 0, none⟩ 1 1 [.int .i64 (k : Nat)] rfl rfl (World.news_of_block (cs := #[.int .i64 (k : Nat)]) (t := 3) (fr := (0, 0)) (heap_alloc_new w2 _)) (by simp [Value.oneCell']) hlen ?_; intro w3 hown3 hgrow3)
      go_roundw
      case rel => exact ⟨r &&& (r - 1), xs ++ [k], Nat.lt_trans HL.out hr, congrArg (Value.int .u64) HV.out, by simp, by rw [List.append_assoc, ← hx.out, HN.out]; rfl, by simpa using hown3, (hbr.alloc hbr.size _).grown hgrow3 (by simp; have := hbr.size; omega) (fun k hk => by cases hk; exact Nat.le_refl _)⟩
      case measure => have := HL.out; simp [intOf, HV.out]; omega


end Go.Proofs.YtejjdfmobiegdaaDoor.Sl
