/- What a row of letters and digits is: row, Name, nameKind, next give the plain functions' answers. -/
import Derived.Test.YtdnlbmdmaiacaaaLeafs
import Derived.Deep.QuietTactic
import Derived.BigQuiet
namespace Go.Proofs.Ytdnlbmdmaiacaaa
open Go.RowKit
open Doc

theorem drop_at (s : ByteArray) (k : Nat) (h : k < s.size) : s.data.toList.drop k = s[k] :: s.data.toList.drop (k + 1) := by
  rw [List.drop_eq_getElem_cons (by simpa using h)]; rfl
theorem at_cons {s : ByteArray} {c : UInt8} {l : List UInt8} (hl : s.data.toList = c :: l) (h : 0 < s.size) : s[0]'h = c := by
  have := drop_at s 0 h
  rw [List.drop_zero, hl] at this
  exact (List.cons.inj this).1.symm
theorem size_cons {s : ByteArray} {c : UInt8} {l : List UInt8} (hl : s.data.toList = c :: l) : s.size = l.length + 1 := by
  rw [Lib.size_eq, hl]; rfl

set_option maxHeartbeats 400000 in
theorem row_any (s : ByteArray) (w : World) (hs : s.size ≤ maxLen) :
    Calls Try.prog 114 #[.string s] w fun e w' => e = .returned (.int .i64 (rowLen s.data.toList)) ∧ w' = w := by
  unfold maxLen at hs
  go_enter Try.func114, Try.ntmps114
  go_wp2
  go_loop [3] (fun n => ∃ k : Nat, k ≤ s.size ∧ n = .int .i64 k ∧ rowLen s.data.toList = k + rowLen (s.data.toList.drop k)) (fun n => s.size - (intOf n).toNat)
  case atStart => exact ⟨0, Nat.zero_le _, rfl, by simp⟩
  case round =>
    obtain ⟨k, hk, rfl, hr⟩ := hrel
    have HR := Lib.hid hr
    clear hr
    by_cases hlt : k < s.size
    · have hd := drop_at s k hlt
      have hrow : rowLen (s.data.toList.drop k) = if word s[k] = true then rowLen (s.data.toList.drop (k + 1)) + 1 else 0 := by rw [hd]; rfl
      have HRW := Lib.hid hrow
      clear hd hrow
      cases hL : lett s[k] with
      | true =>
        have hw : word s[k] = true := by simp [word, hL]
        go_wp2_with (first | (go_at_call 113; refine (letter_any s[k] _).mono ?_; rintro e w' ⟨rfl, rfl⟩; simp only [hL]))
        go_round
        case rel => exact ⟨k + 1, by omega, by go_num, by rw [HR.out, HRW.out, if_pos hw]; omega⟩
        case measure => simp [intOf]; omega
      | false =>
        cases hD : dig s[k] with
        | true =>
          have hw : word s[k] = true := by simp [word, hL, hD]
          go_wp2_with (first | (go_at_call 113; refine (letter_any s[k] _).mono ?_; rintro e w' ⟨rfl, rfl⟩; simp only [hL]) | (go_at_call 123; refine (digit_any s[k] _).mono ?_; rintro e w' ⟨rfl, rfl⟩; simp only [hD]))
          go_round
          case rel => exact ⟨k + 1, by omega, by go_num, by rw [HR.out, HRW.out, if_pos hw]; omega⟩
          case measure => simp [intOf]; omega
        | false =>
          have hw : ¬ word s[k] = true := by simp [word, hL, hD]
          go_wp2_with (first | (go_at_call 113; refine (letter_any s[k] _).mono ?_; rintro e w' ⟨rfl, rfl⟩; simp only [hL]) | (go_at_call 123; refine (digit_any s[k] _).mono ?_; rintro e w' ⟨rfl, rfl⟩; simp only [hD]))
          go_ret
          exact ⟨ret_int (by rw [HR.out, HRW.out, if_neg hw]; simp), rfl⟩
    · have hz : s.data.toList.drop k = [] := List.drop_of_length_le (by rw [← Lib.size_eq]; omega)
      go_wp2
      go_ret
      exact ⟨ret_int (by rw [HR.out, hz]; simp [rowLen]), rfl⟩

set_option maxHeartbeats 400000 in
/-- Name. -/
theorem name_any (s : ByteArray) (w : World) (hs : s.size ≤ maxLen) :
    Calls Try.prog 93 #[.string s] w fun e w' => e = .returned (.bool (nameOk s.data.toList)) ∧ w' = w := by
  unfold maxLen at hs
  rcases hl : s.data.toList with _ | ⟨c, l⟩
  · have h0 : s.size = 0 := by rw [Lib.size_eq, hl]; rfl
    have hs0 : s = ⟨#[]⟩ := ByteArray.ext (Array.eq_empty_of_size_eq_zero h0)
    subst hs0
    go_enter Try.func93, Try.ntmps93
    go_wp2
    go_ret
    exact ⟨rfl, rfl⟩
  · have hsz := size_cons hl
    have hp : 0 < s.size := by omega
    have h0 := at_cons hl hp
    have hT : s.toList = c :: l := by rw [ByteArray.toList_eq, hl]
    have hrow := row_any s
    rw [hl] at hrow
    have HR : Hid (∀ w, s.size ≤ maxLen → Calls Try.prog 114 #[.string s] w fun e w' => e = .returned (.int .i64 (rowLen (c :: l))) ∧ w' = w) := Lib.hid hrow
    clear hrow
    have hmx : s.size ≤ maxLen := by unfold maxLen; omega
    by_cases h8 : s.size ≤ 8
    · cases hL : lett c with
      | false =>
        go_enter Try.func93, Try.ntmps93
        go_wp2_with (first | (go_at_call 113; refine (letter_any c _).mono ?_; rintro e w' ⟨rfl, rfl⟩; simp only [hL]))
        go_ret
        exact ⟨ret_bool (by simp [nameOk, hL]), rfl⟩
      | true =>
        go_enter Try.func93, Try.ntmps93
        go_wp2_with (first | (go_at_call 113; refine (letter_any c _).mono ?_; rintro e w' ⟨rfl, rfl⟩; simp only [hL]) | (go_at_call 114; refine (HR.out _ hmx).mono ?_; rintro e w' ⟨rfl, rfl⟩))
        go_ret
        exact ⟨ret_bool (by simp only [nameOk, hL]; rw [Bool.eq_iff_iff]; simp; try omega), rfl⟩
    · go_enter Try.func93, Try.ntmps93
      go_wp2
      go_ret
      exact ⟨ret_bool (by simp [nameOk]; try omega), rfl⟩

/-- nameKind. -/
theorem kind_any (s : ByteArray) (w : World) (hs : s.size ≤ maxLen) :
    Calls Try.prog 127 #[.string s] w fun e w' => e = .returned (.int .i64 (kindOf s.data.toList)) ∧ w' = w := by
  have hname := name_any s
  cases hN : nameOk s.data.toList with
  | false =>
    go_enter Try.func127, Try.ntmps127
    go_wp2_with (first | (go_at_call 93; refine (hname _ hs).mono ?_; rintro e w' ⟨rfl, rfl⟩; simp only [hN]))
    go_ret
    refine ⟨ret_int ?_, rfl⟩
    rcases hl : s.data.toList with _ | ⟨c, l⟩
    · rfl
    · rw [hl] at hN; simp [kindOf, hN]
  | true =>
    rcases hl : s.data.toList with _ | ⟨c, l⟩
    · rw [hl] at hN; cases hN
    · have hsz := size_cons hl
      have hp : 0 < s.size := by omega
      have h0 := at_cons hl hp
      rw [hl] at hname hN
      have HN := Lib.hid hname
      clear hname
      have hmx := hs
      unfold maxLen at hs
      cases hU : up c with
      | false =>
        go_enter Try.func127, Try.ntmps127
        go_wp2_with (first | (go_at_call 93; refine (HN.out _ hmx).mono ?_; rintro e w' ⟨rfl, rfl⟩; simp only [hN]) | (go_at_call 122; refine (upper_any c _).mono ?_; rintro e w' ⟨rfl, rfl⟩; simp only [hU]))
        go_ret
        exact ⟨ret_int (by simp [kindOf, hN, hU]), rfl⟩
      | true =>
        go_enter Try.func127, Try.ntmps127
        go_wp2_with (first | (go_at_call 93; refine (HN.out _ hmx).mono ?_; rintro e w' ⟨rfl, rfl⟩; simp only [hN]) | (go_at_call 122; refine (upper_any c _).mono ?_; rintro e w' ⟨rfl, rfl⟩; simp only [hU]))
        go_ret
        exact ⟨ret_int (by simp [kindOf, hN, hU]), rfl⟩

/-- A kind as the code has it. -/
def kint (k : Nat) : Int := if k = 9 then -1 else k

theorem take_ext (s : ByteArray) (n : Nat) : (s.extract 0 n).data.toList = s.data.toList.take n := by simp [Lib.extract_eq]

/-- next. -/
theorem next_any (s : ByteArray) (c : UInt8) (l : List UInt8) (hl : s.data.toList = c :: l) (w : World) (hs : s.size ≤ maxLen) :
    Calls Try.prog 120 #[.string s] w fun e w' => e = .returned (.tuple #[.int .i64 (kint (piece c l).1), .int .i64 (piece c l).2]) ∧ w' = w := by
  have hsz := size_cons hl
  have hp : 0 < s.size := by omega
  have h0 := at_cons hl hp
  have hsx := hs
  unfold maxLen at hs
  by_cases h1 : c = 32
  · subst h1
    go_enter Try.func120, Try.ntmps120
    go_wp2
    go_ret2
    exact ⟨rfl, rfl⟩
  by_cases h2 : c = 35
  · subst h2
    go_enter Try.func120, Try.ntmps120
    go_wp2
    go_ret2
    exact ⟨rfl, rfl⟩
  by_cases h3 : c = 58
  · subst h3
    go_enter Try.func120, Try.ntmps120
    go_wp2
    go_ret2
    exact ⟨rfl, rfl⟩
  by_cases h4 : c = 124
  · subst h4
    go_enter Try.func120, Try.ntmps120
    go_wp2
    go_ret2
    exact ⟨rfl, rfl⟩
  have hrow := row_any s
  rw [hl] at hrow
  have hle := rowLen_le (c :: l)
  simp only [List.length_cons] at hle
  have hpc : piece c l = (kindOf ((c :: l).take (rowLen (c :: l))), rowLen (c :: l)) := by simp [piece, h1, h2, h3, h4]
  have hkind := kind_any (s.extract 0 (rowLen (c :: l)))
  rw [take_ext, hl] at hkind
  have hkl := kindOf_lt ((c :: l).take (rowLen (c :: l)))
  rw [hpc]
  have hki : kint (kindOf ((c :: l).take (rowLen (c :: l)))) = (kindOf ((c :: l).take (rowLen (c :: l))) : Nat) := by unfold kint; rw [if_neg (by omega)]
  show Calls _ _ _ _ fun e w' => e = .returned (.tuple #[.int .i64 (kint (kindOf ((c :: l).take (rowLen (c :: l))))), .int .i64 (rowLen (c :: l))]) ∧ w' = w
  rw [hki]
  generalize hR : rowLen (c :: l) = R at *
  have n1 : ¬ c.toNat = 32 := fun h => h1 (UInt8.toNat_inj.1 (by simpa using h))
  have n2 : ¬ c.toNat = 35 := fun h => h2 (UInt8.toNat_inj.1 (by simpa using h))
  have n3 : ¬ c.toNat = 58 := fun h => h3 (UInt8.toNat_inj.1 (by simpa using h))
  have n4 : ¬ c.toNat = 124 := fun h => h4 (UInt8.toNat_inj.1 (by simpa using h))
  go_enter Try.func120, Try.ntmps120
  go_wp2_with (first | (go_at_call 114; refine (hrow _ hsx).mono ?_; rintro e w' ⟨rfl, rfl⟩) | (go_at_call 127; refine (hkind _ (by unfold maxLen; simp; omega)).mono ?_; rintro e w' ⟨rfl, rfl⟩))
  go_ret2
  exact ⟨rfl, rfl⟩

end Go.Proofs.Ytdnlbmdmaiacaaa
