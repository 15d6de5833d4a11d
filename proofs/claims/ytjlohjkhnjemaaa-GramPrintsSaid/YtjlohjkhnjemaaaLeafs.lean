/- What the small functions of scan, and of the document's own answers, give: each a contract over any world. What a row of letters and digits is: row, Name, nameKind, next give the plain functions' answers. What slices hold in memory: cells in a row; texts; numbers; productions; a grammar. -/
import Derived.Test.YtjlohjkhnjemaaaChecked
import Derived.Test.YtjlohjkhnjemaaaSpec
import Derived.WalkKit
import Derived.Lib.Hide
import Derived.Lib.Strings
import Derived.Deep.QuietTactic
import Derived.BigQuiet
import Derived.Laws.OwnMore
import Derived.Deep.AppendLies
namespace Go.Proofs.Ytjlohjkhnjemaaa
open Go.RowKit
open Doc

theorem ret_int {k : IntKind} {a b : Int} (h : a = b) : Ending.returned (.int k a) = .returned (.int k b) := by rw [h]
theorem ret_bool {a b : Bool} (h : a = b) : Ending.returned (.bool a) = .returned (.bool b) := by rw [h]

theorem upper_any (c : UInt8) (w : World) :
    Calls Try.prog 171 #[.int .u8 c.toNat] w fun e w' => e = .returned (.bool (up c)) ∧ w' = w := by
  go_enter Try.func171, Try.ntmps171
  go_wp2
  all_goals
    go_ret
    refine ⟨ret_bool ?_, rfl⟩
    unfold up
    rw [Bool.eq_iff_iff]
    simp
    try omega

theorem digit_any (c : UInt8) (w : World) :
    Calls Try.prog 172 #[.int .u8 c.toNat] w fun e w' => e = .returned (.bool (dig c)) ∧ w' = w := by
  go_enter Try.func172, Try.ntmps172
  go_wp2
  all_goals
    go_ret
    refine ⟨ret_bool ?_, rfl⟩
    unfold dig
    rw [Bool.eq_iff_iff]
    simp
    try omega

theorem letter_any (c : UInt8) (w : World) :
    Calls Try.prog 143 #[.int .u8 c.toNat] w fun e w' => e = .returned (.bool (lett c)) ∧ w' = w := by
  cases hU : up c with
  | true =>
    go_enter Try.func143, Try.ntmps143
    go_wp2_with (go_at_call 171; refine (upper_any c _).mono ?_; rintro e w' ⟨rfl, rfl⟩; simp only [hU])
    go_ret
    exact ⟨ret_bool (by simp [lett, hU]), rfl⟩
  | false =>
    go_enter Try.func143, Try.ntmps143
    go_wp2_with (go_at_call 171; refine (upper_any c _).mono ?_; rintro e w' ⟨rfl, rfl⟩; simp only [hU])
    all_goals
      go_ret
      refine ⟨ret_bool ?_, rfl⟩
      unfold lett
      rw [hU, Bool.eq_iff_iff]
      unfold low
      simp
      try omega

theorem rletter_any (c : UInt8) (w : World) :
    Calls Try.prog 112 #[.int .u8 c.toNat] w fun e w' => e = .returned (.bool (lett c)) ∧ w' = w := by
  go_enter Try.func112, Try.ntmps112
  go_wp2
  all_goals
    go_ret
    refine ⟨ret_bool ?_, rfl⟩
    unfold lett low up
    rw [Bool.eq_iff_iff]
    simp
    try omega

theorem rdigit_any (c : UInt8) (w : World) :
    Calls Try.prog 113 #[.int .u8 c.toNat] w fun e w' => e = .returned (.bool (dig c)) ∧ w' = w := by
  go_enter Try.func113, Try.ntmps113
  go_wp2
  all_goals
    go_ret
    refine ⟨ret_bool ?_, rfl⟩
    unfold dig
    rw [Bool.eq_iff_iff]
    simp
    try omega

theorem within_any (n m : Int) (hm0 : 1 ≤ m) (hm : m ≤ 1000000) (w : World) :
    Calls Try.prog 19 #[.int .i64 n, .int .i64 m] w fun e w' => e = .returned (.int .i64 (n % m)) ∧ w' = w := by
  have h1 := Int.tmod_lt_of_pos n (show 0 < m by omega)
  have h2 : -m < n.tmod m := Int.lt_tmod_of_pos n (show 0 < m by omega)
  have h3 : (m == 0) = false := by simp; omega
  have h5 : n.tmod m = n % m ∨ n.tmod m = n % m - m := by
    rw [Int.tmod_eq_emod]; split
    · exact .inl (by omega)
    · right; omega
  have h6 := Int.emod_nonneg n (show m ≠ 0 by omega)
  have h7 := Int.emod_lt_of_pos n (show 0 < m by omega)
  by_cases hneg : n.tmod m < 0
  · have h8 : n.tmod m + m = n % m := by omega
    have H8 := Lib.hid h8
    clear h5 h6 h7 h8
    go_enter Try.func19, Try.ntmps19
    go_wp2
    go_ret
    exact ⟨ret_int H8.out, rfl⟩
  · have h8 : n.tmod m = n % m := by omega
    have H8 := Lib.hid h8
    clear h5 h6 h7 h8
    go_enter Try.func19, Try.ntmps19
    go_wp2
    go_ret
    exact ⟨ret_int H8.out, rfl⟩

end Go.Proofs.Ytjlohjkhnjemaaa

namespace Go.Proofs.Ytjlohjkhnjemaaa
open Go.RowKit
open Doc

theorem drop_at (s : ByteArray) (k : Nat) (h : k < s.size) : s.data.toList.drop k = s[k] :: s.data.toList.drop (k + 1) := by
  rw [List.drop_eq_getElem_cons (by simpa using h)]; rfl
theorem at_cons {s : ByteArray} {c : UInt8} {l : List UInt8} (hl : s.data.toList = c :: l) (h : 0 < s.size) : s[0]'h = c := by
  have := drop_at s 0 h
  rw [List.drop_zero, hl] at this
  exact (List.cons.inj this).1.symm
theorem size_cons {s : ByteArray} {c : UInt8} {l : List UInt8} (hl : s.data.toList = c :: l) : s.size = l.length + 1 := by
  rw [Lib.size_eq, hl]; rfl

set_option maxHeartbeats 400000 in
theorem row_any (s : ByteArray) (w : World) (hs : s.size ≤ maxLen) :
    Calls Try.prog 144 #[.string s] w fun e w' => e = .returned (.int .i64 (rowLen s.data.toList)) ∧ w' = w := by
  unfold maxLen at hs
  go_enter Try.func144, Try.ntmps144
  go_wp2
  go_loop [3] (fun n => ∃ k : Nat, k ≤ s.size ∧ n = .int .i64 k ∧ rowLen s.data.toList = k + rowLen (s.data.toList.drop k)) (fun n => s.size - (intOf n).toNat)
  case atStart => exact ⟨0, Nat.zero_le _, rfl, by simp⟩
  case round =>
    obtain ⟨k, hk, rfl, hr⟩ := hrel
    have HR := Lib.hid hr
    clear hr
    by_cases hlt : k < s.size
    · have hd := drop_at s k hlt
      have hrow : rowLen (s.data.toList.drop k) = if word s[k] = true then rowLen (s.data.toList.drop (k + 1)) + 1 else 0 := by rw [hd]; rfl
      have HRW := Lib.hid hrow
      clear hd hrow
      cases hL : lett s[k] with
      | true =>
        have hw : word s[k] = true := by simp [word, hL]
        go_wp2_with (first | (go_at_call 143; refine (letter_any s[k] _).mono ?_; rintro e w' ⟨rfl, rfl⟩; simp only [hL]))
        go_round
        case rel => exact ⟨k + 1, by omega, by go_num, by rw [HR.out, HRW.out, if_pos hw]; omega⟩
        case measure => simp [intOf]; omega
      | false =>
        cases hD : dig s[k] with
        | true =>
          have hw : word s[k] = true := by simp [word, hL, hD]
          go_wp2_with (first | (go_at_call 143; refine (letter_any s[k] _).mono ?_; rintro e w' ⟨rfl, rfl⟩; simp only [hL]) | (go_at_call 172; refine (digit_any s[k] _).mono ?_; rintro e w' ⟨rfl, rfl⟩; simp only [hD]))
          go_round
          case rel => exact ⟨k + 1, by omega, by go_num, by rw [HR.out, HRW.out, if_pos hw]; omega⟩
          case measure => simp [intOf]; omega
        | false =>
          have hw : ¬ word s[k] = true := by simp [word, hL, hD]
          go_wp2_with (first | (go_at_call 143; refine (letter_any s[k] _).mono ?_; rintro e w' ⟨rfl, rfl⟩; simp only [hL]) | (go_at_call 172; refine (digit_any s[k] _).mono ?_; rintro e w' ⟨rfl, rfl⟩; simp only [hD]))
          go_ret
          exact ⟨ret_int (by rw [HR.out, HRW.out, if_neg hw]; simp), rfl⟩
    · have hz : s.data.toList.drop k = [] := List.drop_of_length_le (by rw [← Lib.size_eq]; omega)
      go_wp2
      go_ret
      exact ⟨ret_int (by rw [HR.out, hz]; simp [rowLen]), rfl⟩

set_option maxHeartbeats 400000 in
/-- Name. -/
theorem name_any (s : ByteArray) (w : World) (hs : s.size ≤ maxLen) :
    Calls Try.prog 114 #[.string s] w fun e w' => e = .returned (.bool (nameOk s.data.toList)) ∧ w' = w := by
  unfold maxLen at hs
  rcases hl : s.data.toList with _ | ⟨c, l⟩
  · have h0 : s.size = 0 := by rw [Lib.size_eq, hl]; rfl
    have hs0 : s = ⟨#[]⟩ := ByteArray.ext (Array.eq_empty_of_size_eq_zero h0)
    subst hs0
    go_enter Try.func114, Try.ntmps114
    go_wp2
    go_ret
    exact ⟨rfl, rfl⟩
  · have hsz := size_cons hl
    have hp : 0 < s.size := by omega
    have h0 := at_cons hl hp
    have hT : s.toList = c :: l := by rw [ByteArray.toList_eq, hl]
    have hrow := row_any s
    rw [hl] at hrow
    have HR : Hid (∀ w, s.size ≤ maxLen → Calls Try.prog 144 #[.string s] w fun e w' => e = .returned (.int .i64 (rowLen (c :: l))) ∧ w' = w) := Lib.hid hrow
    clear hrow
    have hmx : s.size ≤ maxLen := by unfold maxLen; omega
    by_cases h8 : s.size ≤ 8
    · cases hL : lett c with
      | false =>
        go_enter Try.func114, Try.ntmps114
        go_wp2_with (first | (go_at_call 143; refine (letter_any c _).mono ?_; rintro e w' ⟨rfl, rfl⟩; simp only [hL]))
        go_ret
        exact ⟨ret_bool (by simp [nameOk, hL]), rfl⟩
      | true =>
        go_enter Try.func114, Try.ntmps114
        go_wp2_with (first | (go_at_call 143; refine (letter_any c _).mono ?_; rintro e w' ⟨rfl, rfl⟩; simp only [hL]) | (go_at_call 144; refine (HR.out _ hmx).mono ?_; rintro e w' ⟨rfl, rfl⟩))
        go_ret
        exact ⟨ret_bool (by simp only [nameOk, hL]; rw [Bool.eq_iff_iff]; simp; try omega), rfl⟩
    · go_enter Try.func114, Try.ntmps114
      go_wp2
      go_ret
      exact ⟨ret_bool (by simp [nameOk]; try omega), rfl⟩

/-- nameKind. -/
theorem kind_any (s : ByteArray) (w : World) (hs : s.size ≤ maxLen) :
    Calls Try.prog 189 #[.string s] w fun e w' => e = .returned (.int .i64 (kindOf s.data.toList)) ∧ w' = w := by
  have hname := name_any s
  cases hN : nameOk s.data.toList with
  | false =>
    go_enter Try.func189, Try.ntmps189
    go_wp2_with (first | (go_at_call 114; refine (hname _ hs).mono ?_; rintro e w' ⟨rfl, rfl⟩; simp only [hN]))
    go_ret
    refine ⟨ret_int ?_, rfl⟩
    rcases hl : s.data.toList with _ | ⟨c, l⟩
    · rfl
    · rw [hl] at hN; simp [kindOf, hN]
  | true =>
    rcases hl : s.data.toList with _ | ⟨c, l⟩
    · rw [hl] at hN; cases hN
    · have hsz := size_cons hl
      have hp : 0 < s.size := by omega
      have h0 := at_cons hl hp
      rw [hl] at hname hN
      have HN := Lib.hid hname
      clear hname
      have hmx := hs
      unfold maxLen at hs
      cases hU : up c with
      | false =>
        go_enter Try.func189, Try.ntmps189
        go_wp2_with (first | (go_at_call 114; refine (HN.out _ hmx).mono ?_; rintro e w' ⟨rfl, rfl⟩; simp only [hN]) | (go_at_call 171; refine (upper_any c _).mono ?_; rintro e w' ⟨rfl, rfl⟩; simp only [hU]))
        go_ret
        exact ⟨ret_int (by simp [kindOf, hN, hU]), rfl⟩
      | true =>
        go_enter Try.func189, Try.ntmps189
        go_wp2_with (first | (go_at_call 114; refine (HN.out _ hmx).mono ?_; rintro e w' ⟨rfl, rfl⟩; simp only [hN]) | (go_at_call 171; refine (upper_any c _).mono ?_; rintro e w' ⟨rfl, rfl⟩; simp only [hU]))
        go_ret
        exact ⟨ret_int (by simp [kindOf, hN, hU]), rfl⟩

/-- A kind as the code has it. -/
def kint (k : Nat) : Int := if k = 9 then -1 else k

theorem take_ext (s : ByteArray) (n : Nat) : (s.extract 0 n).data.toList = s.data.toList.take n := by simp [Lib.extract_eq]

/-- next. -/
theorem next_any (s : ByteArray) (c : UInt8) (l : List UInt8) (hl : s.data.toList = c :: l) (w : World) (hs : s.size ≤ maxLen) :
    Calls Try.prog 180 #[.string s] w fun e w' => e = .returned (.tuple #[.int .i64 (kint (piece c l).1), .int .i64 (piece c l).2]) ∧ w' = w := by
  have hsz := size_cons hl
  have hp : 0 < s.size := by omega
  have h0 := at_cons hl hp
  have hsx := hs
  unfold maxLen at hs
  by_cases h1 : c = 32
  · subst h1
    go_enter Try.func180, Try.ntmps180
    go_wp2
    go_ret2
    exact ⟨rfl, rfl⟩
  by_cases h2 : c = 35
  · subst h2
    go_enter Try.func180, Try.ntmps180
    go_wp2
    go_ret2
    exact ⟨rfl, rfl⟩
  by_cases h3 : c = 58
  · subst h3
    go_enter Try.func180, Try.ntmps180
    go_wp2
    go_ret2
    exact ⟨rfl, rfl⟩
  by_cases h4 : c = 124
  · subst h4
    go_enter Try.func180, Try.ntmps180
    go_wp2
    go_ret2
    exact ⟨rfl, rfl⟩
  have hrow := row_any s
  rw [hl] at hrow
  have hle := rowLen_le (c :: l)
  simp only [List.length_cons] at hle
  have hpc : piece c l = (kindOf ((c :: l).take (rowLen (c :: l))), rowLen (c :: l)) := by simp [piece, h1, h2, h3, h4]
  have hkind := kind_any (s.extract 0 (rowLen (c :: l)))
  rw [take_ext, hl] at hkind
  have hkl := kindOf_lt ((c :: l).take (rowLen (c :: l)))
  rw [hpc]
  have hki : kint (kindOf ((c :: l).take (rowLen (c :: l)))) = (kindOf ((c :: l).take (rowLen (c :: l))) : Nat) := by unfold kint; rw [if_neg (by omega)]
  show Calls _ _ _ _ fun e w' => e = .returned (.tuple #[.int .i64 (kint (kindOf ((c :: l).take (rowLen (c :: l))))), .int .i64 (rowLen (c :: l))]) ∧ w' = w
  rw [hki]
  generalize hR : rowLen (c :: l) = R at *
  have n1 : ¬ c.toNat = 32 := fun h => h1 (UInt8.toNat_inj.1 (by simpa using h))
  have n2 : ¬ c.toNat = 35 := fun h => h2 (UInt8.toNat_inj.1 (by simpa using h))
  have n3 : ¬ c.toNat = 58 := fun h => h3 (UInt8.toNat_inj.1 (by simpa using h))
  have n4 : ¬ c.toNat = 124 := fun h => h4 (UInt8.toNat_inj.1 (by simpa using h))
  go_enter Try.func180, Try.ntmps180
  go_wp2_with (first | (go_at_call 144; refine (hrow _ hsx).mono ?_; rintro e w' ⟨rfl, rfl⟩) | (go_at_call 189; refine (hkind _ (by unfold maxLen; simp; omega)).mono ?_; rintro e w' ⟨rfl, rfl⟩))
  go_ret2
  exact ⟨rfl, rfl⟩

end Go.Proofs.Ytjlohjkhnjemaaa

namespace Go.Proofs.Ytjlohjkhnjemaaa
open Go.RowKit
open Doc

/-- The cells xs lie at a, one behind the other. -/
def Cells (w : World) (a : Option Addr) (xs : List Value) : Prop :=
  xs = [] ∨ ∃ b off, a = some ⟨b, off, none⟩ ∧ b < w.heap.size ∧ ∀ j u, xs[j]? = some u → w.cell? ⟨b, off + j, none⟩ = some u

theorem Cells.below {w w' : World} {a : Option Addr} {xs : List Value} (h : Cells w a xs) (hb : Below w.heap.size w w') : Cells w' a xs := by
  rcases h with h | ⟨b, off, ha, hlt, hc⟩
  · exact .inl h
  · exact .inr ⟨b, off, ha, Nat.lt_of_lt_of_le hlt hb.size, fun j u hj => (hb.cell (p := ⟨b, off + j, none⟩) hlt).trans (hc j u hj)⟩

theorem Cells.get {w : World} {a : Option Addr} {xs : List Value} (h : Cells w a xs) (hx : xs ≠ []) : ∃ b off, a = some ⟨b, off, none⟩ ∧ b < w.heap.size ∧ ∀ j u, xs[j]? = some u → w.cell? ⟨b, off + j, none⟩ = some u :=
  h.resolve_left hx

theorem cells_own {w : World} {base : Nat} {e : TypeId} {size : Nat} {v : Value} {n : Nat} {xs : List Value} (h : w.ownsRow base e size v n xs) :
    ∃ a cap, v = .slice a n cap ∧ Cells w a xs := by
  rcases Nat.eq_zero_or_pos n with h0 | h0
  · have hx : xs = [] := List.eq_nil_of_length_eq_zero (by rw [h.1, h0, Nat.zero_mul])
    rcases h.2 with ⟨hv, _⟩ | ⟨g, cap, cur, hv, _⟩
    · exact ⟨none, 0, by rw [h0]; exact hv, .inl hx⟩
    · exact ⟨_, cap, hv, .inl hx⟩
  · obtain ⟨g, cap, rfl, hB, hg⟩ := h.form h0
    refine ⟨_, cap, rfl, .inr ⟨g, 0, rfl, hg, fun j u hj => ?_⟩⟩
    have hlt : j < n * size := by rw [← h.1]; exact (List.getElem?_eq_some_iff.1 hj).1
    rw [Nat.zero_add]
    exact (h.cellAt j hlt).trans hj

/-- A list of texts. -/
def strs (l : List (List UInt8)) : List Value := l.map fun x => .string ⟨x.toArray⟩
theorem strs_at {l : List (List UInt8)} {j : Nat} {x : List UInt8} (h : l[j]? = some x) : (strs l)[j]? = some (.string ⟨x.toArray⟩) := by
  unfold strs; rw [List.getElem?_map, h]; rfl
/-- A list of numbers. -/
def nums (l : List Int) : List Value := l.map fun x => .int .i64 x
theorem nums_at {l : List Int} {j : Nat} {x : Int} (h : l[j]? = some x) : (nums l)[j]? = some (.int .i64 x) := by
  unfold nums; rw [List.getElem?_map, h]; rfl

/-- A production as it lies: its left, and where its right lies. -/
structure Lay where
  left : Int
  right : List Int
  addr : Option Addr
  cap : Nat
def Lay.plain (p : Lay) : Int × List Int := (p.left, p.right)
def lays (l : List Lay) : List Value := l.flatMap fun p => [.int .i64 p.left, .slice p.addr p.right.length p.cap]
theorem lays_at : ∀ (l : List Lay) (j : Nat) (p : Lay), l[j]? = some p → (lays l)[j * 2]? = some (.int .i64 p.left) ∧ (lays l)[j * 2 + 1]? = some (.slice p.addr p.right.length p.cap)
  | [], j, p, h => by simp at h
  | u :: l, 0, p, h => by
    simp at h; subst h
    simp [lays]
  | u :: l, j + 1, p, h => by
    have ih := lays_at l j p (by simpa using h)
    have e : ∀ i, (lays (u :: l))[(j + 1) * 2 + i]? = (lays l)[j * 2 + i]? := fun i => by
      rw [show lays (u :: l) = [.int .i64 u.left, .slice u.addr u.right.length u.cap] ++ lays l from rfl, show (j + 1) * 2 + i = 2 + (j * 2 + i) by omega, List.getElem?_append_right (by simp)]
      congr 1; simp
    exact ⟨(e 0).trans ih.1, (e 1).trans ih.2⟩

/-- A grammar's value, as it lies. -/
def GramAt (w : World) (v : Value) (g : Gr) : Prop :=
  ∃ (at_ an ap : Option Addr) (ct cn cp : Nat) (ls : List Lay), v = .agg #[.slice at_ g.terms.length ct, .slice an g.nons.length cn, .slice ap ls.length cp] ∧
    ls.map Lay.plain = g.prods ∧ Cells w at_ (strs g.terms) ∧ Cells w an (strs g.nons) ∧ Cells w ap (lays ls) ∧ (∀ p ∈ ls, Cells w p.addr (nums p.right)) ∧ g.terms.length ≤ ct ∧ g.nons.length ≤ cn ∧ ls.length ≤ cp

theorem GramAt.below {w w' : World} {v : Value} {g : Gr} (h : GramAt w v g) (hb : Below w.heap.size w w') : GramAt w' v g := by
  obtain ⟨a, b, c, ca, cb, cc, ls, hv, hp, h1, h2, h3, h4, h5⟩ := h
  exact ⟨a, b, c, ca, cb, cc, ls, hv, hp, h1.below hb, h2.below hb, h3.below hb, fun p hp => (h4 p hp).below hb, h5⟩

end Go.Proofs.Ytjlohjkhnjemaaa
