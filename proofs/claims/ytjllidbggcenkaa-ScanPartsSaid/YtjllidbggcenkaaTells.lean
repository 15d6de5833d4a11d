/- ScanTells: the walk. -/
import Derived.Test.YtjllidbggcenkaaRefs
import Derived.Test.YtjllidbggcenkaaText
namespace Go.Proofs.Ytjllidbggcenkaa
open Go.RowKit
open Doc

theorem txt_line : ∀ (n : Nat) (t : List UInt8) (line : Nat), t.length ≤ n → 0 < line → (txt t line).2 = (0, 0) ∨ (txt t line).2.1 ≠ 0
  | _, [], _, _, _ => .inl rfl
  | 0, c :: l, _, h, _ => by simp at h
  | n + 1, c :: l, line, h, h0 => by
    have hr := rest_lt c l
    have ih := txt_line n (rest (c :: l)) (line + 1) (by omega) (by omega)
    rw [txt_cons]
    split
    · exact ih
    · right; show line ≠ 0; omega

theorem Owns.shape {B : Nat} {w : World} {e : TypeId} {v : Value} {l : List Tok} (h : Owns B w e v l) :
    ∃ a cap, v = .slice a l.length cap ∧ (0 < l.length → ∃ g, a = some ⟨g, 0, none⟩ ∧ B ≤ g ∧ g < w.heap.size ∧ Toks w g l) := by
  rcases Nat.eq_zero_or_pos l.length with h0 | h0
  · unfold Owns at h
    rcases h.2 with ⟨hv, hz⟩ | ⟨g, cap, cur, hv, _⟩
    · exact ⟨none, 0, by rw [h0]; exact hv, fun h' => by omega⟩
    · exact ⟨_, cap, hv, fun h' => by omega⟩
  · obtain ⟨g, cap, hv, _, hB, hg, hT⟩ := h.toks h0
    exact ⟨_, cap, hv, fun _ => ⟨g, rfl, hB, hg, hT⟩⟩

theorem text_any (s : ByteArray) (a : Option Addr) (len cap : Nat) (zs : List Int) (raw : Bool) (w : World) (hs : s.size ≤ maxLen) (hr : IsRow .i64 w a len cap zs) :
    Calls Try.prog 12 #[.string s, .slice a len cap, .bool raw] w fun e w' => ∃ t : ByteArray, t.size ≤ 200 ∧ e = .returned (.string t) ∧ Below w.heap.size w w' := by
  cases raw with
  | true => exact text_raw s _ w hs
  | false => exact text_picks s a len cap zs w hr

theorem tok_good (t : ByteArray) (w : World) (hs : t.size ≤ 900000) (h : (txt t.data.toList 1).2 = (0, 0)) :
    Calls Try.prog 7 #[.string t] w fun e w' => ∃ a c, e = .returned (.tuple #[.slice a (txt t.data.toList 1).1.length c, .int .i64 0, .int .i64 0, .int .i64 0]) ∧ Below w.heap.size w w' ∧ (0 < (txt t.data.toList 1).1.length → ∃ g, a = some ⟨g, 0, none⟩ ∧ g < w'.heap.size ∧ Toks w' g (txt t.data.toList 1).1) := by
  refine (tokens_any t w (by omega)).mono fun e w' ⟨hb, he⟩ => ?_
  unfold TokEnd at he
  rw [if_pos h] at he
  obtain ⟨v, he, hown⟩ := he
  obtain ⟨a, c, rfl, hT⟩ := hown.shape
  exact ⟨a, c, he, hb, fun h0 => by obtain ⟨g, h1, _, h3, h4⟩ := hT h0; exact ⟨g, h1, h3, h4⟩⟩
theorem tok_poor (t : ByteArray) (w : World) (hs : t.size ≤ 900000) (h : (txt t.data.toList 1).2 ≠ (0, 0)) :
    Calls Try.prog 7 #[.string t] w fun e w' => e = .returned (.tuple #[.slice none 0 0, .int .i64 (txt t.data.toList 1).2.1, .int .i64 (txt t.data.toList 1).2.2, .int .i64 2]) ∧ Below w.heap.size w w' := by
  refine (tokens_any t w (by omega)).mono fun e w' ⟨hb, he⟩ => ?_
  unfold TokEnd at he
  rw [if_neg h] at he
  exact ⟨he, hb⟩
theorem ref_good (t : ByteArray) (w : World) (hs : t.size ≤ 900000) (h : (txt t.data.toList 1).2 = (0, 0)) :
    Calls Try.prog 13 #[.string t] w fun e w' => ∃ a c, e = .returned (.tuple #[.slice a (txt t.data.toList 1).1.length c, .int .i64 0, .int .i64 0]) ∧ Below w.heap.size w w' ∧ (0 < (txt t.data.toList 1).1.length → ∃ g, a = some ⟨g, 0, none⟩ ∧ g < w'.heap.size ∧ Toks w' g (txt t.data.toList 1).1) := by
  refine (rtokens_any t w (by omega)).mono fun e w' ⟨hb, he⟩ => ?_
  unfold RefEnd at he
  rw [if_pos h] at he
  obtain ⟨v, he, hown⟩ := he
  obtain ⟨a, c, rfl, hT⟩ := hown.shape
  exact ⟨a, c, he, hb, fun h0 => by obtain ⟨g, h1, _, h3, h4⟩ := hT h0; exact ⟨g, h1, h3, h4⟩⟩
theorem ref_poor (t : ByteArray) (w : World) (hs : t.size ≤ 900000) (h : (txt t.data.toList 1).2 ≠ (0, 0)) :
    Calls Try.prog 13 #[.string t] w fun e w' => e = .returned (.tuple #[.slice none 0 0, .int .i64 (txt t.data.toList 1).2.1, .int .i64 (txt t.data.toList 1).2.2]) ∧ Below w.heap.size w w' := by
  refine (rtokens_any t w (by omega)).mono fun e w' ⟨hb, he⟩ => ?_
  unfold RefEnd at he
  rw [if_neg h] at he
  exact ⟨he, hb⟩

theorem txt_few : ∀ (n : Nat) (t : List UInt8) (line : Nat), t.length ≤ n → (txt t line).1.length ≤ 2 * t.length
  | _, [], _, _ => by simp [txt_nil]
  | 0, c :: l, _, h => by simp at h
  | n + 1, c :: l, line, h => by
    have hr := rest_lt c l
    have hll := line_len c l
    have ih := txt_few n (rest (c :: l)) (line + 1) (by omega)
    have hl := lin_len _ (head (c :: l)) line 1 (Nat.le_refl _)
    rw [txt_cons]
    split
    · simp only [List.length_append, List.length_cons] at *; omega
    · simp

set_option maxRecDepth 100000 in
set_option maxHeartbeats 8000000 in
theorem tells_walk (s : ByteArray) (a : Option Addr) (len cap : Nat) (zs : List Int) (raw : Bool) (w : World) (hs : s.size ≤ maxLen) (hr : IsRow .i64 w a len cap zs) :
    Calls Try.prog 5 #[.string s, .slice a len cap, .bool raw] w fun e w' => e = .returned (.bool true) ∧ Below w.heap.size w w' := by
  have hText := text_any s a len cap zs raw w hs hr
  have HC := cut9_any s 9
  have nm2 : ∀ W, Calls Try.prog 11 #[.string (s.extract 0 (min s.size 9))] W fun e w' => e = .returned (.bool (nameOk (s.extract 0 (min s.size 9)).data.toList)) ∧ w' = W := fun W => name_any _ W (by rw [ByteArray.size_extract]; unfold maxLen; omega)
  have rn2 : ∀ W, Calls Try.prog 14 #[.string (s.extract 0 (min s.size 9))] W fun e w' => e = .returned (.bool (nameOk (s.extract 0 (min s.size 9)).data.toList)) ∧ w' = W := fun W => rname_any _ W (by rw [ByteArray.size_extract]; unfold maxLen; omega)
  generalize s.extract 0 (min s.size 9) = s9 at *
  generalize nameOk s9.data.toList = b9 at *
  have HC' : ∀ W, Calls Try.prog 15 #[.string s, .int .i64 9] W fun e w' => e = .returned (.string s9) ∧ w' = W := fun W => HC W hs (by decide)
  clear HC
  go_enter Try.func5, Try.ntmps5
  go_upto_region 2 with (go_at_call 12; refine hText.mono ?_; rintro e w1 ⟨t, ht, rfl, hb1⟩)
  have nm1 : ∀ W, Calls Try.prog 11 #[.string t] W fun e w' => e = .returned (.bool (nameOk t.data.toList)) ∧ w' = W := fun W => name_any _ W (by unfold maxLen; omega)
  have rn1 : ∀ W, Calls Try.prog 14 #[.string t] W fun e w' => e = .returned (.bool (nameOk t.data.toList)) ∧ w' = W := fun W => rname_any _ W (by unfold maxLen; omega)
  have G1 := fun W => tok_good t W (by omega)
  have P1 := fun W => tok_poor t W (by omega)
  have G2 := fun W => ref_good t W (by omega)
  have P2 := fun W => ref_poor t W (by omega)
  have hfew := txt_few _ t.data.toList 1 (Nat.le_refl _)
  have hline := txt_line _ t.data.toList 1 (Nat.le_refl _) (by decide)
  have htl : t.data.toList.length = t.size := (Lib.size_eq t).symm
  rw [htl] at hfew
  generalize nameOk t.data.toList = bt at *
  obtain ⟨X, hX⟩ : ∃ X, X = txt t.data.toList 1 := ⟨_, rfl⟩
  rw [← hX] at G1 P1 G2 P2 hfew hline
  clear hX
  obtain ⟨ts, ln, cl⟩ := X
  simp only at G1 P1 G2 P2 hfew hline
  by_cases h0 : (ln, cl) = (0, 0)
  · have hP1 := fun W => G1 W h0
    have hP2 := fun W => G2 W h0
    clear G1 G2 P1 P2 hline h0
    have mixed : Try.prog.follows Departure.mixedOrders = true := by kernel_rfl
    go_wp2_with (first
      | (go_at_call 7; refine (hP1 _).mono ?_; rintro e w2 ⟨a1, c1, rfl, hb2, hT1⟩)
      | (go_at_call 13; refine (hP2 _).mono ?_; rintro e w3 ⟨a2, c2, rfl, hb3, hT2⟩)
      | (go_at_call 11; (first | with_reducible refine (nm1 _).mono ?_ | with_reducible refine (nm2 _).mono ?_); rintro e w4 ⟨rfl, rfl⟩)
      | (go_at_call 14; (first | with_reducible refine (rn1 _).mono ?_ | with_reducible refine (rn2 _).mono ?_); rintro e w4 ⟨rfl, rfl⟩)
      | (go_at_call 15; refine (HC' _).mono ?_; rintro e w4 ⟨rfl, rfl⟩))
    have hbb : Below w.heap.size w w4 := (hb1.trans (hb2.mono hb1.size)).trans (hb3.mono (Nat.le_trans hb1.size hb2.size))
    have HT : Hid (0 < ts.length → ∃ g1 g2, a1 = some ⟨g1, 0, none⟩ ∧ a2 = some ⟨g2, 0, none⟩ ∧ Toks w4 g1 ts ∧ Toks w4 g2 ts) := Lib.hid fun h => by
      obtain ⟨g1, e1, h1, t1⟩ := hT1 h
      obtain ⟨g2, e2, h2, t2⟩ := hT2 h
      exact ⟨g1, g2, e1, e2, t1.below h1 hb3, t2⟩
    clear hT1 hT2
    go_loopw [81] (fun i wr => ∃ k n : Nat, i = .int .i64 k ∧ k ≤ ts.length ∧ wr = w4.drewN n) (fun i _ => ts.length - (intOf i).toNat)
    case atStart => exact ⟨0, 0, rfl, Nat.zero_le _, rfl⟩
    case round =>
      obtain ⟨k, n, rfl, hk, rfl⟩ := hrel
      by_cases hlt : k < ts.length
      · obtain ⟨g1, g2, rfl, rfl, t1, t2⟩ := HT.out (by omega)
        obtain ⟨x, hx⟩ : ∃ x, ts[k]? = some x := ⟨_, List.getElem?_eq_getElem hlt⟩
        obtain ⟨q1, q2, q3, q4⟩ := t1 k x hx
        obtain ⟨r1, r2, r3, r4⟩ := t2 k x hx
        have e1 : (k : Int) < ts.length := by omega
        clear t1 t2
        go_wp2
        go_region
        go_wp2
        go_roundw
        case rel => exact ⟨k + 1, n + 1, by go_num, by omega, by simp⟩
        case measure => simp [intOf]; omega
      · have e1 : ¬ (k : Int) < ts.length := by omega
        go_wp2_with (go_at_call 9; refine (wakes_any _).mono ?_; rintro e w5 ⟨rfl, hb5⟩)
        go_ret
        exact ⟨rfl, (below_draws' hbb n).trans (hb5.mono hbb.size)⟩
  · have hln : ¬ (ln : Int) = 0 := by
      rcases hline with h | h
      · exact absurd h h0
      · omega
    have hlb : ((ln : Int) == 0) = false := by rw [beq_eq_false_iff_ne]; exact hln
    have hP1 := fun W => P1 W h0
    have hP2 := fun W => P2 W h0
    clear G1 G2 P1 P2 hline
    go_wp2_with (first
      | (go_at_call 7; refine (hP1 _).mono ?_; rintro e w2 ⟨rfl, hb2⟩)
      | (go_at_call 13; refine (hP2 _).mono ?_; rintro e w3 ⟨rfl, hb3⟩)
      | (go_at_call 11; (first | with_reducible refine (nm1 _).mono ?_ | with_reducible refine (nm2 _).mono ?_); rintro e w4 ⟨rfl, rfl⟩)
      | (go_at_call 14; (first | with_reducible refine (rn1 _).mono ?_ | with_reducible refine (rn2 _).mono ?_); rintro e w4 ⟨rfl, rfl⟩)
      | (go_at_call 15; refine (HC' _).mono ?_; rintro e w4 ⟨rfl, rfl⟩))
    have hbb : Below w.heap.size w w4 := (hb1.trans (hb2.mono hb1.size)).trans (hb3.mono (Nat.le_trans hb1.size hb2.size))
    go_loopw [81] (fun i wr => i = .int .i64 0 ∧ Below w.heap.size w wr) (fun _ _ => 0)
    case atStart => exact ⟨rfl, hbb⟩
    case round =>
      obtain ⟨rfl, hbr⟩ := hrel
      go_wp2_with (go_at_call 9; refine (wakes_any _).mono ?_; rintro e w5 ⟨rfl, hb5⟩)
      go_ret
      exact ⟨rfl, hbr.trans (hb5.mono hbr.size)⟩

end Go.Proofs.Ytjllidbggcenkaa
