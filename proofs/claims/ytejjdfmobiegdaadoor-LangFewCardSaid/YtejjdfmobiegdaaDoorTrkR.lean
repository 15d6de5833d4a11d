/- lang: tracks, in plain terms. lang: digits of places; the table of lowest digits; a track's small calls. lang: a track in memory; on, row. lang: row, walked. -/
import Derived.Test.YtejjdfmobiegdaaDoorLeafs
import Derived.Test.YtejjdfmobiegdaaDoorSetO
import Derived.Test.YtejjdfmobiegdaaDoorRaw
import Derived.Lib.LaidTab
import Derived.Lib.TrailingZeros
import Derived.Laws.BitsAllLaws
import Derived.Deep.QuietTactic
import Derived.BigQuiet
import Derived.Test.YtejjdfmobiegdaaDoorAppAll
set_option linter.unusedVariables false
namespace Go.Proofs.YtejjdfmobiegdaaDoor

def orL (l : List Nat) : Nat := l.foldl (fun a b => a ||| b) 0
theorem orL_go (l : List Nat) : ∀ a q, ((l.foldl (fun a b => a ||| b) a).testBit q = true) ↔ (a.testBit q = true ∨ ∃ x ∈ l, x.testBit q = true) := by
  induction l with
  | nil => intro a q; simp
  | cons y l ih => intro a q; rw [List.foldl_cons, ih]; simp [Nat.testBit_or, or_assoc]
theorem orL_bit (l : List Nat) (q : Nat) : (orL l).testBit q = true ↔ ∃ x ∈ l, x.testBit q = true := by
  unfold orL; rw [orL_go]; simp
/-- Where words of a nonterminal lead to from these places. -/
def onT (en : List Nat) (A f : Nat) : Nat := orL ((List.range 13).map fun p => if f.testBit p then en.getD (A * 13 + p) 0 else 0)
theorem onT_bit (en : List Nat) (A f q : Nat) : (onT en A f).testBit q = true ↔ ∃ p, p < 13 ∧ f.testBit p = true ∧ (en.getD (A * 13 + p) 0).testBit q = true := by
  unfold onT
  rw [orL_bit]
  constructor
  · rintro ⟨x, hx, hq⟩
    obtain ⟨p, hp, rfl⟩ := List.mem_map.1 hx
    rw [List.mem_range] at hp
    by_cases h : f.testBit p = true
    · rw [if_pos h] at hq; exact ⟨p, hp, h, hq⟩
    · rw [if_neg h] at hq; simp at hq
  · rintro ⟨p, hp, hf, hq⟩
    exact ⟨_, List.mem_map.2 ⟨p, List.mem_range.2 hp, rfl⟩, by rw [if_pos hf]; exact hq⟩
theorem bits_lt {x n : Nat} (h : ∀ q, x.testBit q = true → q < n) : x < 2 ^ n := by
  apply Nat.lt_pow_two_of_testBit
  intro i hi
  cases hx : x.testBit i with
  | false => rfl
  | true => have := h i hx; omega
theorem bit_lt {x n q : Nat} (h : x < 2 ^ n) (hq : x.testBit q = true) : q < n := by
  by_cases hn : q < n
  · exact hn
  · rw [Nat.testBit_lt_two_pow (Nat.lt_of_lt_of_le h (Nat.pow_le_pow_right (by omega) (by omega)))] at hq; cases hq
theorem onT_lt {n : Nat} {en : List Nat} (he : ∀ x ∈ en, x < 2 ^ n) (A f : Nat) : onT en A f < 2 ^ n := by
  apply bits_lt
  intro q hq
  obtain ⟨p, _, _, h⟩ := (onT_bit ..).1 hq
  by_cases hl : A * 13 + p < en.length
  · rw [List.getD_eq_getElem?_getD, List.getElem?_eq_getElem hl] at h
    exact bit_lt (he _ (List.getElem_mem hl)) h
  · rw [List.getD_eq_getElem?_getD, List.getElem?_eq_none (by omega)] at h; simp at h

/-- The lowest digit out. -/
theorem drop_bit (k m i : Nat) : ((2 ^ k * (2 * m + 1)) &&& (2 ^ k * (2 * m + 1) - 1)).testBit i = ((2 ^ k * (2 * m + 1)).testBit i && decide (i ≠ k)) := by
  have hp : 0 < 2 ^ k := Nat.two_pow_pos k
  have e : 2 ^ k * (2 * m + 1) - 1 = 2 ^ k * (2 * m) + (2 ^ k - 1) := by rw [Nat.mul_add, Nat.mul_one]; omega
  have e0 : 2 ^ k * (2 * m + 1) = 2 ^ k * (2 * m + 1) + 0 := rfl
  rw [e, Nat.testBit_and, Nat.testBit_two_pow_mul_add _ (by omega)]
  have h1 : (2 ^ k * (2 * m + 1)).testBit i = if i < k then false else (2 * m + 1).testBit (i - k) := by
    rw [e0, Nat.testBit_two_pow_mul_add _ hp]; simp
  rw [h1]
  by_cases hi : i < k
  · simp [hi]
  · by_cases hk : i = k
    · subst hk; simp
    · obtain ⟨j, hj⟩ : ∃ j, i - k = j + 1 := ⟨i - k - 1, by omega⟩
      rw [if_neg hi, if_neg hi, hj, Nat.testBit_succ, Nat.testBit_succ, show (2 * m + 1) / 2 = m by omega, show 2 * m / 2 = m by omega]
      simp [hk]
theorem low_bit (k m : Nat) : (2 ^ k * (2 * m + 1)).testBit k = true := by
  have e0 : 2 ^ k * (2 * m + 1) = 2 ^ k * (2 * m + 1) + 0 := rfl
  rw [e0, Nat.testBit_two_pow_mul_add _ (Nat.two_pow_pos k)]
  simp
end Go.Proofs.YtejjdfmobiegdaaDoor

set_option linter.unusedVariables false
namespace Go.Proofs.YtejjdfmobiegdaaDoor
open Go.RowKit

/-! ### The table of 32 -/
theorem gTab32 : Tryd.prog.globalNamed "math/bits.deBruijn32tab" = some 1 := by kernel_rfl
/-- The table of the lowest digits of a number of 32 is as its initialiser lays it. -/
def Tab32 (w : World) : Prop := Lib.TabIs Tryd.prog w "math/bits.deBruijn32tab" .u8 (Lib.deBruijn32tab.map Int.ofNat)
theorem Tab32.cell {w : World} (h : Tab32 w) (i : Nat) (hi : i < 32) : w.cell? ⟨1, i, none⟩ = some (.int .u8 (Lib.deBruijn32tab.getD i 0 : Nat)) := by
  have hl : Lib.deBruijn32tab.length = 32 := by decide
  rw [Lib.TabIs.cell h gTab32 i (by rw [List.length_map, hl]; exact hi)]
  simp [List.getD, hl, hi]
theorem Tab32.below {w w' : World} (h : Tab32 w) (hb : Below w.heap.size w w') : Tab32 w' := by
  have hc : w.cell? ⟨1, 0, none⟩ = some _ := h.cell 0 (by decide)
  have hlt : 1 < w.heap.size := by
    rcases Nat.lt_or_ge 1 w.heap.size with h1 | h1
    · exact h1
    · have : w.heap[1]? = none := Array.getElem?_eq_none h1
      simp [World.cell?, this] at hc
  exact var?_below hb gTab32 hlt h
theorem tab32_of {W : World} (h : laidMet Tryd.prog [("math/bits.deBruijn32tab", Lib.tabData .u8 (Lib.deBruijn32tab.map Int.ofNat))] W) : Tab32 W :=
  Lib.tabIs_of_head gTab32 (by kernel_rfl) Tryd.underlying192 Tryd.underlying5 (by kernel_rfl) (by kernel_rfl) h

theorem tz16_key (x a : Nat) (hx : x < 65536) (hx0 : x ≠ 0) (hlow : x &&& (65536 - x) = a) :
    bits BinOp.and IntKind.u16 (x : Int) (IntKind.u16.wrap (-(x : Int))) = (a : Int) := by
  have e1 : IntKind.u16.wrap (-(x : Int)) = ((65536 - x : Nat) : Int) := by rw [IntKind.wrap_u16]; omega
  rw [e1, u16_and_nat x _ hx (by omega), hlow]
theorem tz16_core (x k a : Nat) (w : World) (hx0 : ((x : Int) == 0) = false)
    (key : bits BinOp.and IntKind.u16 (x : Int) (IntKind.u16.wrap (-(x : Int))) = (a : Int)) (ha : IntKind.u32.wrap (a : Int) = (a : Int))
    (hk : k < 32) (hcell : w.cell? ⟨1, a * 125613361 % 4294967296 / 134217728, none⟩ = some (.int .u8 k)) :
    Calls Tryd.prog 148 #[.int .u16 x] w fun e w' => e = .returned (.int .i64 k) ∧ w' = w := by
  go_enter Tryd.func148, Tryd.ntmps148
  go_wp2_with (simp only [key, ha])
  go_ret
  exact ⟨rfl, rfl⟩
theorem tz16_any (x : Nat) (hx0 : x ≠ 0) (hx : x < 65536) (w : World) (hT : Tab32 w) :
    Calls Tryd.prog 148 #[.int .u16 x] w fun e w' => e = .returned (.int .i64 (Lib.ctz 16 x : Nat)) ∧ w' = w := by
  obtain ⟨hlow, hk⟩ := Lib.lowest_bit 16 x hx0 hx
  obtain ⟨hi, htab⟩ := Lib.deBruijn32_at _ (Nat.lt_trans hk (by decide))
  have hcell := hT.cell _ hi
  rw [htab] at hcell
  have hp : 2 ^ Lib.ctz 16 x < 65536 := Nat.pow_lt_pow_right (by omega) hk
  refine tz16_core x _ _ w (by simp; omega) (tz16_key x _ hx hx0 hlow) ?_ (by omega) hcell
  rw [IntKind.wrap_u32]
  generalize 2 ^ Lib.ctz 16 x = a at *
  omega

theorem pow16 (n : Nat) (h : n < 16) : IntKind.u16.wrap (2 ^ n) = ((2 ^ n : Nat) : Int) := by
  have : 2 ^ n < 65536 := Nat.pow_lt_pow_right (by omega) h
  rw [IntKind.wrap_u16, show ((2 : Int) ^ n) = ((2 ^ n : Nat) : Int) by simp]
  generalize 2 ^ n = m at *
  omega
theorem only_any (n : Nat) (h : n < 16) (w : World) :
    Calls Tryd.prog 82 #[.int .i64 n] w fun e w' => e = .returned (.int .u16 (2 ^ n : Nat)) ∧ w' = w := by
  have hp := pow16 n h
  go_enter Tryd.func82, Tryd.ntmps82
  go_wp2
  go_ret
  exact ⟨ret_int (by simp), rfl⟩
end Go.Proofs.YtejjdfmobiegdaaDoor

set_option linter.unusedVariables false
namespace Go.Proofs.YtejjdfmobiegdaaDoor
open Go.RowKit

/-- A track, in plain terms. -/
structure Trk where
  ap : Option Addr
  cp : Nat
  ls : List Lay
  terms : Nat
  last : Nat
  st : List Nat
  stays : Nat
  en : List Nat
def u16s (l : List Nat) : List Value := l.map fun (x : Nat) => Value.int .u16 (x : Int)
def trkL (X : Trk) : List Value := [.slice X.ap X.ls.length X.cp, .int .i64 X.terms, .int .i64 X.last] ++ u16s X.st ++ [.int .u16 X.stays] ++ u16s X.en
/-- A track as it lies: block B; its rows. -/
structure TrkAt (w : World) (B : Nat) (X : Trk) : Prop where
  q : w.heap[B]? = some (.cells (trkL X).toArray 81)
  rows : Cells w X.ap (lays X.ls)
  row : ∀ p ∈ X.ls, Cells w p.addr (nums p.right)
  s9 : X.st.length = 9
  e104 : X.en.length = 104
theorem trk_en {X : Trk} (h9 : X.st.length = 9) (h104 : X.en.length = 104) {j : Nat} (hj : j < 104) : (trkL X)[13 + j]? = some (.int .u16 ((X.en.getD j 0 : Nat) : Int)) := by
  unfold trkL
  rw [List.getElem?_append_right (by simp [u16s, h9])]
  simp only [u16s, List.length_append, List.length_cons, List.length_nil, List.length_map, h9]
  rw [show 13 + j - (0 + 1 + 1 + 1 + 9 + (0 + 1)) = j by omega, List.getElem?_map, List.getElem?_eq_getElem (by omega), List.getD_eq_getElem?_getD, List.getElem?_eq_getElem (by omega)]
  rfl
theorem trk_st {X : Trk} (h9 : X.st.length = 9) {j : Nat} (hj : j < 9) : (trkL X)[3 + j]? = some (.int .u16 ((X.st.getD j 0 : Nat) : Int)) := by
  unfold trkL
  rw [List.append_assoc, List.append_assoc, List.getElem?_append_right (by simp), List.getElem?_append_left (by simp [u16s, h9]; omega)]
  simp only [u16s, List.length_cons, List.length_nil]
  rw [show 3 + j - (0 + 1 + 1 + 1) = j by omega, List.getElem?_map, List.getElem?_eq_getElem (by omega), List.getD_eq_getElem?_getD, List.getElem?_eq_getElem (by omega)]
  rfl
theorem trk_stays {X : Trk} (h9 : X.st.length = 9) : (trkL X)[12]? = some (.int .u16 (X.stays : Int)) := by
  unfold trkL
  rw [List.append_assoc, List.getElem?_append_right (by simp [u16s, h9])]
  simp [u16s, h9]
theorem TrkAt.drew {w : World} {B : Nat} {X : Trk} (h : TrkAt w B X) (n : Nat) : TrkAt (w.drewN n) B X := ⟨h.q, h.rows, h.row, h.s9, h.e104⟩
theorem TrkAt.below {w w' : World} {B : Nat} {X : Trk} (h : TrkAt w B X) (hb : Below w.heap.size w w') : TrkAt w' B X := ⟨(hb.block _ (heap_lt h.q)).trans h.q, h.rows.below hb, fun p hp => (h.row p hp).below hb, h.s9, h.e104⟩

theorem low16 (r : Nat) (h0 : r ≠ 0) (h : r < 65536) : ∃ k m, k = Lib.ctz 16 r ∧ r = 2 ^ k * (2 * m + 1) ∧ k < 16 := by
  obtain ⟨m, hm, hk⟩ := Lib.ctzFrom_spec 16 r (by omega) h
  exact ⟨_, m, by unfold Lib.ctz; rw [if_neg h0], hm, hk⟩
theorem next16 (r : Nat) (h0 : r ≠ 0) (h : r < 65536) : bits .and .u16 (r : Int) ((r : Int) - 1) = ((r &&& (r - 1) : Nat) : Int) := by
  rw [show ((r : Int) - 1) = ((r - 1 : Nat) : Int) by omega, u16_and_nat r _ h (by omega)]
theorem or16 (a b : Nat) (ha : a < 65536) (hb : b < 65536) : a ||| b < 65536 := Nat.or_lt_two_pow (n := 16) ha hb

theorem on_any (B : Nat) (X : Trk) (A f : Nat) (w : World) (h : TrkAt w B X) (hA : A < 8) (hf : f < 8192) (he : ∀ x ∈ X.en, x < 8192) (hT : Tab32 w) :
    Calls Tryd.prog 146 #[.pointer (some ⟨B, 0, none⟩), .int .i64 A, .int .u16 f] w fun e w' => e = .returned (.int .u16 (onT X.en A f : Nat)) ∧ ∃ n, w' = w.drewN n := by
  have l0 := heap_lt h.q
  have HC := Lib.hid fun (W : World) (p : Nat) (hW : W.heap = w.heap) (hp : p < 13) => (blk_cell (w := W) (i := 13 + (A * 13 + p)) (u := .int .u16 ((X.en.getD (A * 13 + p) 0 : Nat) : Int)) (by rw [hW]; exact h.q) (by simpa using trk_en h.s9 h.e104 (show A * 13 + p < 104 by omega))).1
  have HTZ := Lib.hid fun (W : World) (r n : Nat) (hW : W = w.drewN n) (h0 : r ≠ 0) (h1 : r < 65536) (a : Nat) => ((tz16_any r h0 h1 (W.drewN a) (by rw [hW]; exact hT.below (below_drews (below_drews (Below.refl _ _) n) a))).mono fun e w' ⟨he, hw⟩ => ⟨he, a, hw⟩ : Calls Tryd.prog 148 #[.int .u16 r] (W.drewN a) fun e w' => e = .returned (.int .i64 (Lib.ctz 16 r : Nat)) ∧ ∃ m, w' = W.drewN m)
  have HE := Lib.hid fun p : Nat => (show X.en.getD (A * 13 + p) 0 < 8192 by
    rw [List.getD_eq_getElem?_getD]
    cases hx : X.en[A * 13 + p]? with
    | none => simp
    | some x => exact he x (List.mem_of_getElem? hx))
  have HON := Lib.hid (onT_bit X.en A f)
  have HL := Lib.hid (onT_lt (n := 13) he A f)
  generalize onT X.en A f = R at *
  have hA' : (A : Int) < 8 := by omega
  clear h he hT
  go_enter Tryd.func146, Tryd.ntmps146
  go_wp2_with fail
  go_loopw [7, 8] (fun a l wr => ∃ x r n : Nat, a = .int .u16 (x : Int) ∧ l = .int .u16 (r : Int) ∧ Hid (wr = w.drewN n) ∧ x < 8192 ∧ r < 8192 ∧ Hid (∀ q, R.testBit q = true ↔ (x.testBit q = true ∨ ∃ p, p < 13 ∧ r.testBit p = true ∧ (X.en.getD (A * 13 + p) 0).testBit q = true))) (fun _ i _ => (intOf i).toNat)
  case atStart => exact ⟨0, f, 0, rfl, rfl, Lib.hid rfl, by omega, hf, Lib.hid fun q => by rw [HON.out]; simp⟩
  case round =>
    obtain ⟨x, r, n, rfl, rfl, hwr, hx, hr, hH⟩ := hrel
    by_cases h0 : r = 0
    · subst h0
      have e : x = R := Nat.eq_of_testBit_eq fun q => by
        have := hH.out q
        simp at this
        exact this.symm
      subst e
      go_wp2
      go_ret
      exact ⟨rfl, n, hwr.out⟩
    · obtain ⟨k, m, hk, hrm, hk16⟩ := low16 r h0 (by omega)
      have hkr : r.testBit k = true := by rw [hrm]; exact low_bit k m
      have hk13 : k < 13 := bit_lt (n := 13) hr hkr
      have hck := HC.out wr k (by rw [hwr.out]; rfl) hk13
      have hck2 := hck
      rw [← Nat.add_assoc] at hck2
      have hek := HE.out k
      have hTZ := HTZ.out wr r n hwr.out h0 (by omega)
      rw [← hk] at hTZ
      have hN := next16 r h0 (by omega)
      have hO := u16_or_nat x (X.en.getD (A * 13 + k) 0) (by omega) (by omega)
      have hdrop : ∀ i, (r &&& (r - 1)).testBit i = (r.testBit i && decide (i ≠ k)) := fun i => by
        have := drop_bit k m i
        rwa [← hrm] at this
      have hlt : r &&& (r - 1) < r := Nat.lt_of_le_of_lt Nat.and_le_right (by omega)
      have hxo : x ||| X.en.getD (A * 13 + k) 0 < 8192 := Nat.or_lt_two_pow (n := 13) hx hek
      have HH : Hid (∀ q, R.testBit q = true ↔ ((x ||| X.en.getD (A * 13 + k) 0).testBit q = true ∨ ∃ p, p < 13 ∧ (r &&& (r - 1)).testBit p = true ∧ (X.en.getD (A * 13 + p) 0).testBit q = true)) := Lib.hid fun q => by
        rw [hH.out q, Nat.testBit_or]
        constructor
        · rintro (h | ⟨p, hp, h1, h2⟩)
          · left; rw [h]; rfl
          · by_cases hpk : p = k
            · subst hpk; left; rw [h2]; simp
            · right; exact ⟨p, hp, by rw [hdrop, h1]; simp [hpk], h2⟩
        · intro h
          rcases h with h | ⟨p, hp, h1, h2⟩
          · rcases Bool.or_eq_true_iff.1 h with h | h
            · exact .inl h
            · exact .inr ⟨k, hk13, hkr, h⟩
          · rw [hdrop, Bool.and_eq_true] at h1
            exact .inr ⟨p, hp, h1.1, h2⟩
      have h0' : ((r : Int) != 0) = true := by simp; omega
      have hk' : (k : Int) < 13 := by omega
      clear hdrop hkr hrm hk hH
      have HTZ2 := Lib.hid hTZ
      have HHH := Lib.hid HH
      clear hTZ HH
      generalize X.en.getD (A * 13 + k) 0 = y at *
      go_wp2_with fail
      go_quiet ((go_at_call 148; exact HTZ2.out _))
      go_wp2
      go_roundw
      case rel => exact ⟨x ||| y, r &&& (r - 1), n + nq, rfl, rfl, Lib.hid (by rw [hwr.out, World.drewN_drewN]), hxo, by omega, HHH.out⟩
      case measure => simp [intOf]; omega
end Go.Proofs.YtejjdfmobiegdaaDoor

set_option linter.unusedVariables false
namespace Go.Proofs.YtejjdfmobiegdaaDoor
open Go.RowKit

/-- One symbol more. -/
def symT (X : Trk) (l : Nat) (s : Int) : Nat := if s < 100 then (l &&& X.st.getD s.toNat 0) * 2 ||| l &&& X.stays else onT X.en (s - 100).toNat l
/-- Where words of these symbols lead to. -/
def rowT (X : Trk) (r : List Int) (at_ : Nat) : Nat := r.foldl (symT X) (2 ^ at_)
/-- A track's numbers are small. -/
structure TrkOk (X : Trk) : Prop where
  st : ∀ x ∈ X.st, x < 4096
  sy : X.stays < 8192
  en : ∀ x ∈ X.en, x < 8192
theorem getD_lt {l : List Nat} {b : Nat} (h : ∀ x ∈ l, x < b) (hb : 0 < b) (j : Nat) : l.getD j 0 < b := by
  rw [List.getD_eq_getElem?_getD]
  cases hx : l[j]? with
  | none => simpa using hb
  | some x => exact h x (List.mem_of_getElem? hx)
theorem symT_lt {X : Trk} (h : TrkOk X) (l : Nat) (hl : l < 8192) (s : Int) : symT X l s < 8192 := by
  unfold symT
  split
  · have h1 : l &&& X.st.getD s.toNat 0 < 4096 := Nat.lt_of_le_of_lt Nat.and_le_right (getD_lt h.st (by omega) _)
    have h2 : l &&& X.stays < 8192 := Nat.lt_of_le_of_lt Nat.and_le_right h.sy
    exact Nat.or_lt_two_pow (n := 13) (by omega) h2
  · exact onT_lt (n := 13) h.en _ _
theorem rowT_lt {X : Trk} (h : TrkOk X) (r : List Int) (at_ : Nat) (ha : at_ < 13) : rowT X r at_ < 8192 := by
  unfold rowT
  have key : ∀ (r : List Int) l, l < 8192 → r.foldl (symT X) l < 8192 := by
    intro r
    induction r with
    | nil => intro l hl; exact hl
    | cons s r ih => intro l hl; exact ih _ (symT_lt h l hl s)
  exact key r _ (show 2 ^ at_ < 2 ^ 13 from Nat.pow_lt_pow_right (by omega) ha)

theorem trow_any (B : Nat) (X : Trk) (pa : Option Addr) (pc at_ : Nat) (r : List Int) (w : World) (h : TrkAt w B X) (hk : TrkOk X) (hr : Cells w pa (nums r)) (hs : ∀ s ∈ r, (1 ≤ s ∧ s < 9) ∨ (100 ≤ s ∧ s < 108)) (hl : r.length ≤ 1000000) (ha : at_ < 13) (hT : Tab32 w) :
    Calls Tryd.prog 136 #[.pointer (some ⟨B, 0, none⟩), .slice pa r.length pc, .int .i64 at_] w fun e w' => e = .returned (.int .u16 (rowT X r at_ : Nat)) ∧ ∃ n, w' = w.drewN n := by
  have l0 := heap_lt h.q
  have HC := Lib.hid fun (W : World) (p : Nat) (hW : W.heap = w.heap) (hp : p < 9) => (blk_cell (w := W) (i := 3 + p) (u := .int .u16 ((X.st.getD p 0 : Nat) : Int)) (by rw [hW]; exact h.q) (by simpa using trk_st h.s9 hp)).1
  have HY := Lib.hid fun (W : World) (hW : W.heap = w.heap) => (blk_cell (w := W) (i := 12) (u := .int .u16 (X.stays : Int)) (by rw [hW]; exact h.q) (by simpa using trk_stays h.s9)).1
  have HO := Lib.hid (only_any at_ (by omega) w)
  have HON := Lib.hid fun (W : World) (A f n : Nat) (hW : W = w.drewN n) (hA : A < 8) (hf : f < 8192) => on_any B X A f W (by rw [hW]; exact h.drew n) hA hf hk.en (by rw [hW]; exact hT.below (below_drews (Below.refl _ _) n))
  have HR := Lib.hid fun (W : World) (n : Nat) (hW : W = w.drewN n) => (show Cells W pa (nums r) by rw [hW]; exact hr.below (below_drews (Below.refl _ _) n))
  have hp0 : 2 ^ at_ < 8192 := (show 2 ^ at_ < 2 ^ 13 from Nat.pow_lt_pow_right (by omega) ha)
  have HS := Lib.hid hs
  have HK := Lib.hid hk
  clear h hr hs hk hT
  go_enter Tryd.func136, Tryd.ntmps136
  go_wp2_with (go_at_call 82; refine HO.out.mono ?_; rintro e w2 ⟨rfl, hw2⟩; obtain rfl : w = w2 := hw2.symm)
  go_loopw [7, 14] (fun l i wr => ∃ k n x : Nat, k ≤ r.length ∧ i = .int .i64 k ∧ l = .int .u16 (x : Int) ∧ x < 8192 ∧ Hid (x = (r.take k).foldl (symT X) (2 ^ at_)) ∧ Hid (wr = w.drewN n)) (fun _ i _ => r.length - (intOf i).toNat)
  case atStart => exact ⟨0, 0, 2 ^ at_, by omega, rfl, rfl, hp0, Lib.hid rfl, Lib.hid rfl⟩
  case round =>
    obtain ⟨k, n, x, hk, rfl, rfl, hx, hX, hwr⟩ := hrel
    by_cases hlt : k < r.length
    · obtain ⟨s, hs⟩ : ∃ s, r[k]? = some s := ⟨_, List.getElem?_eq_getElem hlt⟩
      have hrc := HR.out wr n hwr.out
      have hfold : (r.take (k + 1)).foldl (symT X) (2 ^ at_) = symT X x s := by rw [List.take_add_one, hs, List.foldl_append, ← hX.out]; rfl
      have hxl := symT_lt HK.out x hx s
      obtain ⟨b, off, hpa, hb, hcell⟩ := Cells.get hrc (by intro e; have := congrArg List.length e; unfold nums at this; rw [List.length_map, List.length_nil] at this; omega)
      have hck := hcell k (.int .i64 s) (by unfold nums; rw [List.getElem?_map, hs]; rfl)
      subst hpa
      have hlt' : (k : Int) < r.length := by omega
      rcases HS.out s (List.mem_of_getElem? hs) with h1 | h1
      · obtain ⟨t, rfl⟩ := Int.eq_ofNat_of_zero_le (show 0 ≤ s by omega)
        have ht9 : t < 9 := by omega
        have ht9' : (t : Int) < 9 := by omega
        have ht100 : (t : Int) < 100 := by omega
        have hct := HC.out wr t (by rw [hwr.out]; rfl) ht9
        have hcy := HY.out wr (by rw [hwr.out]; rfl)
        have hst := getD_lt HK.out.st (by omega) t
        have hsy := HK.out.sy
        have hsym : symT X x (t : Int) = (x &&& X.st.getD t 0) * 2 ||| x &&& X.stays := by unfold symT; rw [if_pos ht100]; rfl
        rw [hsym] at hxl hfold
        have ha1 := u16_and_nat x (X.st.getD t 0) (by omega) (by omega)
        have ha2 := u16_and_nat x X.stays (by omega) (by omega)
        have hl1 : x &&& X.st.getD t 0 < 4096 := Nat.lt_of_le_of_lt Nat.and_le_right hst
        have hl2 : x &&& X.stays < 8192 := Nat.lt_of_le_of_lt Nat.and_le_right hsy
        have HF := Lib.hid hfold
        clear hsym hfold hX hs hcell HON HR HC HY HO HS HK
        generalize X.st.getD t 0 = y at *
        generalize X.stays = z at *
        have hor : bits BinOp.or IntKind.u16 ((↑(x &&& y) : Int) * 2) ↑(x &&& z) = (((x &&& y) * 2 ||| x &&& z : Nat) : Int) := u16_or_nat ((x &&& y) * 2) (x &&& z) (by omega) (by omega)
        go_wp2_with fail
        go_quiet (fail)
        go_wp2
        go_roundw
        case rel => exact ⟨k + 1, n + nq, (x &&& y) * 2 ||| x &&& z, by omega, by go_num, rfl, hxl, Lib.hid HF.out.symm, Lib.hid (by rw [hwr.out, World.drewN_drewN])⟩
        case measure => simp [intOf]; omega
      · obtain ⟨A, hA⟩ := Int.eq_ofNat_of_zero_le (show 0 ≤ s - 100 by omega)
        have h100 : ¬ s < 100 := by omega
        have hon := HON.out wr A x n hwr.out (by omega) hx
        have hsym : symT X x s = onT X.en A x := by unfold symT; rw [if_neg h100, hA]; rfl
        rw [hsym] at hxl hfold
        have HF := Lib.hid hfold
        have HOO := Lib.hid hon
        clear hsym hfold hX hs hcell HON HR HC HY HO HS HK hon
        generalize onT X.en A x = y at *
        go_wp2_with fail
        go_at_call 146
        refine HOO.out.mono ?_
        rintro e w2 ⟨rfl, m, hm⟩
        go_wp2
        go_roundw
        case rel => exact ⟨k + 1, n + m, y, by omega, by go_num, rfl, hxl, Lib.hid HF.out.symm, Lib.hid (by rw [hwr.out, World.drewN_drewN])⟩
        case measure => simp [intOf]; omega
    · have hkl : k = r.length := by omega
      subst hkl
      have e : x = rowT X r at_ := by rw [hX.out, List.take_length]; rfl
      subst e
      go_wp2
      go_ret
      exact ⟨rfl, n, hwr.out⟩
end Go.Proofs.YtejjdfmobiegdaaDoor
