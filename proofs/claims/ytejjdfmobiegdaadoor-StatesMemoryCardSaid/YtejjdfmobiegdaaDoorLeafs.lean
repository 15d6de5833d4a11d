/- What the small functions of scan, and of the document's own answers, give: each a contract over any world. What a row of letters and digits is: row, Name, nameKind, next give the plain functions' answers. What slices hold in memory: cells in a row; texts; numbers; productions; a grammar. -/
import Derived.Test.YtejjdfmobiegdaaDoorChecked
import Derived.Test.YtejjdfmobiegdaaDoorSpec
import Derived.WalkKit
import Derived.Lib.Hide
import Derived.Lib.Strings
import Derived.Deep.QuietTactic
import Derived.BigQuiet
import Derived.Laws.OwnMore
import Derived.Deep.AppendLies
namespace Go.Proofs.YtejjdfmobiegdaaDoor
open Go.RowKit
open Doc

theorem ret_int {k : IntKind} {a b : Int} (h : a = b) : Ending.returned (.int k a) = .returned (.int k b) := by rw [h]
theorem ret_bool {a b : Bool} (h : a = b) : Ending.returned (.bool a) = .returned (.bool b) := by rw [h]

theorem upper_any (c : UInt8) (w : World) :
    Calls Tryd.prog 142 #[.int .u8 c.toNat] w fun e w' => e = .returned (.bool (up c)) ∧ w' = w := by
  go_enter Tryd.func142, Tryd.ntmps142
  go_wp2
  all_goals
    go_ret
    refine ⟨ret_bool ?_, rfl⟩
    unfold up
    rw [Bool.eq_iff_iff]
    simp
    try omega

theorem digit_any (c : UInt8) (w : World) :
    Calls Tryd.prog 143 #[.int .u8 c.toNat] w fun e w' => e = .returned (.bool (dig c)) ∧ w' = w := by
  go_enter Tryd.func143, Tryd.ntmps143
  go_wp2
  all_goals
    go_ret
    refine ⟨ret_bool ?_, rfl⟩
    unfold dig
    rw [Bool.eq_iff_iff]
    simp
    try omega

theorem letter_any (c : UInt8) (w : World) :
    Calls Tryd.prog 127 #[.int .u8 c.toNat] w fun e w' => e = .returned (.bool (lett c)) ∧ w' = w := by
  cases hU : up c with
  | true =>
    go_enter Tryd.func127, Tryd.ntmps127
    go_wp2_with (go_at_call 142; refine (upper_any c _).mono ?_; rintro e w' ⟨rfl, rfl⟩; simp only [hU])
    go_ret
    exact ⟨ret_bool (by simp [lett, hU]), rfl⟩
  | false =>
    go_enter Tryd.func127, Tryd.ntmps127
    go_wp2_with (go_at_call 142; refine (upper_any c _).mono ?_; rintro e w' ⟨rfl, rfl⟩; simp only [hU])
    all_goals
      go_ret
      refine ⟨ret_bool ?_, rfl⟩
      unfold lett
      rw [hU, Bool.eq_iff_iff]
      unfold low
      simp
      try omega

theorem rletter_any (c : UInt8) (w : World) :
    Calls Tryd.prog 84 #[.int .u8 c.toNat] w fun e w' => e = .returned (.bool (lett c)) ∧ w' = w := by
  go_enter Tryd.func84, Tryd.ntmps84
  go_wp2
  all_goals
    go_ret
    refine ⟨ret_bool ?_, rfl⟩
    unfold lett low up
    rw [Bool.eq_iff_iff]
    simp
    try omega

theorem rdigit_any (c : UInt8) (w : World) :
    Calls Tryd.prog 85 #[.int .u8 c.toNat] w fun e w' => e = .returned (.bool (dig c)) ∧ w' = w := by
  go_enter Tryd.func85, Tryd.ntmps85
  go_wp2
  all_goals
    go_ret
    refine ⟨ret_bool ?_, rfl⟩
    unfold dig
    rw [Bool.eq_iff_iff]
    simp
    try omega

theorem within_any (n m : Int) (hm0 : 1 ≤ m) (hm : m ≤ 1000000) (w : World) :
    Calls Tryd.prog 12 #[.int .i64 n, .int .i64 m] w fun e w' => e = .returned (.int .i64 (n % m)) ∧ w' = w := by
  have h1 := Int.tmod_lt_of_pos n (show 0 < m by omega)
  have h2 : -m < n.tmod m := Int.lt_tmod_of_pos n (show 0 < m by omega)
  have h3 : (m == 0) = false := by simp; omega
  have h5 : n.tmod m = n % m ∨ n.tmod m = n % m - m := by
    rw [Int.tmod_eq_emod]; split
    · exact .inl (by omega)
    · right; omega
  have h6 := Int.emod_nonneg n (show m ≠ 0 by omega)
  have h7 := Int.emod_lt_of_pos n (show 0 < m by omega)
  by_cases hneg : n.tmod m < 0
  · have h8 : n.tmod m + m = n % m := by omega
    have H8 := Lib.hid h8
    clear h5 h6 h7 h8
    go_enter Tryd.func12, Tryd.ntmps12
    go_wp2
    go_ret
    exact ⟨ret_int H8.out, rfl⟩
  · have h8 : n.tmod m = n % m := by omega
    have H8 := Lib.hid h8
    clear h5 h6 h7 h8
    go_enter Tryd.func12, Tryd.ntmps12
    go_wp2
    go_ret
    exact ⟨ret_int H8.out, rfl⟩

end Go.Proofs.YtejjdfmobiegdaaDoor

namespace Go.Proofs.YtejjdfmobiegdaaDoor
open Go.RowKit
open Doc

theorem drop_at (s : ByteArray) (k : Nat) (h : k < s.size) : s.data.toList.drop k = s[k] :: s.data.toList.drop (k + 1) := by
  rw [List.drop_eq_getElem_cons (by simpa using h)]; rfl
theorem at_cons {s : ByteArray} {c : UInt8} {l : List UInt8} (hl : s.data.toList = c :: l) (h : 0 < s.size) : s[0]'h = c := by
  have := drop_at s 0 h
  rw [List.drop_zero, hl] at this
  exact (List.cons.inj this).1.symm
theorem size_cons {s : ByteArray} {c : UInt8} {l : List UInt8} (hl : s.data.toList = c :: l) : s.size = l.length + 1 := by
  rw [Lib.size_eq, hl]; rfl

set_option maxHeartbeats 400000 in
theorem row_any (s : ByteArray) (w : World) (hs : s.size ≤ maxLen) :
    Calls Tryd.prog 128 #[.string s] w fun e w' => e = .returned (.int .i64 (rowLen s.data.toList)) ∧ w' = w := by
  unfold maxLen at hs
  go_enter Tryd.func128, Tryd.ntmps128
  go_wp2
  go_loop [3] (fun n => ∃ k : Nat, k ≤ s.size ∧ n = .int .i64 k ∧ rowLen s.data.toList = k + rowLen (s.data.toList.drop k)) (fun n => s.size - (intOf n).toNat)
  case atStart => exact ⟨0, Nat.zero_le _, rfl, by simp⟩
  case round =>
    obtain ⟨k, hk, rfl, hr⟩ := hrel
    have HR := Lib.hid hr
    clear hr
    by_cases hlt : k < s.size
    · have hd := drop_at s k hlt
      have hrow : rowLen (s.data.toList.drop k) = if word s[k] = true then rowLen (s.data.toList.drop (k + 1)) + 1 else 0 := by rw [hd]; rfl
      have HRW := Lib.hid hrow
      clear hd hrow
      cases hL : lett s[k] with
      | true =>
        have hw : word s[k] = true := by simp [word, hL]
        go_wp2_with (first | (go_at_call 127; refine (letter_any s[k] _).mono ?_; rintro e w' ⟨rfl, rfl⟩; simp only [hL]))
        go_round
        case rel => exact ⟨k + 1, by omega, by go_num, by rw [HR.out, HRW.out, if_pos hw]; omega⟩
        case measure => simp [intOf]; omega
      | false =>
        cases hD : dig s[k] with
        | true =>
          have hw : word s[k] = true := by simp [word, hL, hD]
          go_wp2_with (first | (go_at_call 127; refine (letter_any s[k] _).mono ?_; rintro e w' ⟨rfl, rfl⟩; simp only [hL]) | (go_at_call 143; refine (digit_any s[k] _).mono ?_; rintro e w' ⟨rfl, rfl⟩; simp only [hD]))
          go_round
          case rel => exact ⟨k + 1, by omega, by go_num, by rw [HR.out, HRW.out, if_pos hw]; omega⟩
          case measure => simp [intOf]; omega
        | false =>
          have hw : ¬ word s[k] = true := by simp [word, hL, hD]
          go_wp2_with (first | (go_at_call 127; refine (letter_any s[k] _).mono ?_; rintro e w' ⟨rfl, rfl⟩; simp only [hL]) | (go_at_call 143; refine (digit_any s[k] _).mono ?_; rintro e w' ⟨rfl, rfl⟩; simp only [hD]))
          go_ret
          exact ⟨ret_int (by rw [HR.out, HRW.out, if_neg hw]; simp), rfl⟩
    · have hz : s.data.toList.drop k = [] := List.drop_of_length_le (by rw [← Lib.size_eq]; omega)
      go_wp2
      go_ret
      exact ⟨ret_int (by rw [HR.out, hz]; simp [rowLen]), rfl⟩

set_option maxHeartbeats 400000 in
/-- Name. -/
theorem name_any (s : ByteArray) (w : World) (hs : s.size ≤ maxLen) :
    Calls Tryd.prog 105 #[.string s] w fun e w' => e = .returned (.bool (nameOk s.data.toList)) ∧ w' = w := by
  unfold maxLen at hs
  rcases hl : s.data.toList with _ | ⟨c, l⟩
  · have h0 : s.size = 0 := by rw [Lib.size_eq, hl]; rfl
    have hs0 : s = ⟨#[]⟩ := ByteArray.ext (Array.eq_empty_of_size_eq_zero h0)
    subst hs0
    go_enter Tryd.func105, Tryd.ntmps105
    go_wp2
    go_ret
    exact ⟨rfl, rfl⟩
  · have hsz := size_cons hl
    have hp : 0 < s.size := by omega
    have h0 := at_cons hl hp
    have hT : s.toList = c :: l := by rw [ByteArray.toList_eq, hl]
    have hrow := row_any s
    rw [hl] at hrow
    have HR : Hid (∀ w, s.size ≤ maxLen → Calls Tryd.prog 128 #[.string s] w fun e w' => e = .returned (.int .i64 (rowLen (c :: l))) ∧ w' = w) := Lib.hid hrow
    clear hrow
    have hmx : s.size ≤ maxLen := by unfold maxLen; omega
    by_cases h8 : s.size ≤ 8
    · cases hL : lett c with
      | false =>
        go_enter Tryd.func105, Tryd.ntmps105
        go_wp2_with (first | (go_at_call 127; refine (letter_any c _).mono ?_; rintro e w' ⟨rfl, rfl⟩; simp only [hL]))
        go_ret
        exact ⟨ret_bool (by simp [nameOk, hL]), rfl⟩
      | true =>
        go_enter Tryd.func105, Tryd.ntmps105
        go_wp2_with (first | (go_at_call 127; refine (letter_any c _).mono ?_; rintro e w' ⟨rfl, rfl⟩; simp only [hL]) | (go_at_call 128; refine (HR.out _ hmx).mono ?_; rintro e w' ⟨rfl, rfl⟩))
        go_ret
        exact ⟨ret_bool (by simp only [nameOk, hL]; rw [Bool.eq_iff_iff]; simp; try omega), rfl⟩
    · go_enter Tryd.func105, Tryd.ntmps105
      go_wp2
      go_ret
      exact ⟨ret_bool (by simp [nameOk]; try omega), rfl⟩

/-- A kind as the code has it. -/
def kint (k : Nat) : Int := if k = 9 then -1 else k

theorem take_ext (s : ByteArray) (n : Nat) : (s.extract 0 n).data.toList = s.data.toList.take n := by simp [Lib.extract_eq]

end Go.Proofs.YtejjdfmobiegdaaDoor

namespace Go.Proofs.YtejjdfmobiegdaaDoor
open Go.RowKit
open Doc

/-- The cells xs lie at a, one behind the other. -/
def Cells (w : World) (a : Option Addr) (xs : List Value) : Prop :=
  xs = [] ∨ ∃ b off, a = some ⟨b, off, none⟩ ∧ b < w.heap.size ∧ ∀ j u, xs[j]? = some u → w.cell? ⟨b, off + j, none⟩ = some u

theorem Cells.below {w w' : World} {a : Option Addr} {xs : List Value} (h : Cells w a xs) (hb : Below w.heap.size w w') : Cells w' a xs := by
  rcases h with h | ⟨b, off, ha, hlt, hc⟩
  · exact .inl h
  · exact .inr ⟨b, off, ha, Nat.lt_of_lt_of_le hlt hb.size, fun j u hj => (hb.cell (p := ⟨b, off + j, none⟩) hlt).trans (hc j u hj)⟩

theorem Cells.get {w : World} {a : Option Addr} {xs : List Value} (h : Cells w a xs) (hx : xs ≠ []) : ∃ b off, a = some ⟨b, off, none⟩ ∧ b < w.heap.size ∧ ∀ j u, xs[j]? = some u → w.cell? ⟨b, off + j, none⟩ = some u :=
  h.resolve_left hx

theorem cells_own {w : World} {base : Nat} {e : TypeId} {size : Nat} {v : Value} {n : Nat} {xs : List Value} (h : w.ownsRow base e size v n xs) :
    ∃ a cap, v = .slice a n cap ∧ Cells w a xs := by
  rcases Nat.eq_zero_or_pos n with h0 | h0
  · have hx : xs = [] := List.eq_nil_of_length_eq_zero (by rw [h.1, h0, Nat.zero_mul])
    rcases h.2 with ⟨hv, _⟩ | ⟨g, cap, cur, hv, _⟩
    · exact ⟨none, 0, by rw [h0]; exact hv, .inl hx⟩
    · exact ⟨_, cap, hv, .inl hx⟩
  · obtain ⟨g, cap, rfl, hB, hg⟩ := h.form h0
    refine ⟨_, cap, rfl, .inr ⟨g, 0, rfl, hg, fun j u hj => ?_⟩⟩
    have hlt : j < n * size := by rw [← h.1]; exact (List.getElem?_eq_some_iff.1 hj).1
    rw [Nat.zero_add]
    exact (h.cellAt j hlt).trans hj

/-- A list of texts. -/
def strs (l : List (List UInt8)) : List Value := l.map fun x => .string ⟨x.toArray⟩
theorem strs_at {l : List (List UInt8)} {j : Nat} {x : List UInt8} (h : l[j]? = some x) : (strs l)[j]? = some (.string ⟨x.toArray⟩) := by
  unfold strs; rw [List.getElem?_map, h]; rfl
/-- A list of numbers. -/
def nums (l : List Int) : List Value := l.map fun x => .int .i64 x
theorem nums_at {l : List Int} {j : Nat} {x : Int} (h : l[j]? = some x) : (nums l)[j]? = some (.int .i64 x) := by
  unfold nums; rw [List.getElem?_map, h]; rfl

/-- A production as it lies: its left, and where its right lies. -/
structure Lay where
  left : Int
  right : List Int
  addr : Option Addr
  cap : Nat
def Lay.plain (p : Lay) : Int × List Int := (p.left, p.right)
def lays (l : List Lay) : List Value := l.flatMap fun p => [.int .i64 p.left, .slice p.addr p.right.length p.cap]
theorem lays_at : ∀ (l : List Lay) (j : Nat) (p : Lay), l[j]? = some p → (lays l)[j * 2]? = some (.int .i64 p.left) ∧ (lays l)[j * 2 + 1]? = some (.slice p.addr p.right.length p.cap)
  | [], j, p, h => by simp at h
  | u :: l, 0, p, h => by
    simp at h; subst h
    simp [lays]
  | u :: l, j + 1, p, h => by
    have ih := lays_at l j p (by simpa using h)
    have e : ∀ i, (lays (u :: l))[(j + 1) * 2 + i]? = (lays l)[j * 2 + i]? := fun i => by
      rw [show lays (u :: l) = [.int .i64 u.left, .slice u.addr u.right.length u.cap] ++ lays l from rfl, show (j + 1) * 2 + i = 2 + (j * 2 + i) by omega, List.getElem?_append_right (by simp)]
      congr 1; simp
    exact ⟨(e 0).trans ih.1, (e 1).trans ih.2⟩

/-- A grammar's value, as it lies. -/
def GramAt (w : World) (v : Value) (g : Gr) : Prop :=
  ∃ (at_ an ap : Option Addr) (ct cn cp : Nat) (ls : List Lay), v = .agg #[.slice at_ g.terms.length ct, .slice an g.nons.length cn, .slice ap ls.length cp] ∧
    ls.map Lay.plain = g.prods ∧ Cells w at_ (strs g.terms) ∧ Cells w an (strs g.nons) ∧ Cells w ap (lays ls) ∧ (∀ p ∈ ls, Cells w p.addr (nums p.right)) ∧ g.terms.length ≤ ct ∧ g.nons.length ≤ cn ∧ ls.length ≤ cp

theorem GramAt.below {w w' : World} {v : Value} {g : Gr} (h : GramAt w v g) (hb : Below w.heap.size w w') : GramAt w' v g := by
  obtain ⟨a, b, c, ca, cb, cc, ls, hv, hp, h1, h2, h3, h4, h5⟩ := h
  exact ⟨a, b, c, ca, cb, cc, ls, hv, hp, h1.below hb, h2.below hb, h3.below hb, fun p hp => (h4 p hp).below hb, h5⟩

end Go.Proofs.YtejjdfmobiegdaaDoor
