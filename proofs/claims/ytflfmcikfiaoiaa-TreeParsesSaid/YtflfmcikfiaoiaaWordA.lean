/- word: Less, and the least word of a row: walked. -/
import Derived.Test.YtflfmcikfiaoiaaForm
import Derived.Test.YtflfmcikfiaoiaaWordS
set_option linter.unusedVariables false
namespace Go.Proofs.Ytflfmcikfiaoiaa
open Go.RowKit
open Doc

theorem isNaN_any (x : Int) (w : World) : Calls Try.prog 142 #[.int .i64 x] w fun e w' => e = .returned (.bool false) ∧ w' = w := by
  go_enter Try.func142, Try.ntmps142
  go_wp2
  go_ret
  exact ⟨ret_bool (by simp), rfl⟩
theorem cmp_any (x y : Int) (w : World) : Calls Try.prog 112 #[.int .i64 x, .int .i64 y] w fun e w' => e = .returned (.int .i64 (if x < y then -1 else if y < x then 1 else 0)) ∧ w' = w := by
  by_cases h1 : x < y
  · rw [if_pos h1]
    go_enter Try.func112, Try.ntmps112
    go_wp2_with (go_at_call 142; refine (isNaN_any _ _).mono ?_; rintro e w2 ⟨rfl, rfl⟩)
    go_ret
    exact ⟨rfl, rfl⟩
  · by_cases h2 : y < x
    · rw [if_neg h1, if_pos h2]
      go_enter Try.func112, Try.ntmps112
      go_wp2_with (go_at_call 142; refine (isNaN_any _ _).mono ?_; rintro e w2 ⟨rfl, rfl⟩)
      go_ret
      exact ⟨rfl, rfl⟩
    · rw [if_neg h1, if_neg h2]
      go_enter Try.func112, Try.ntmps112
      go_wp2_with (go_at_call 142; refine (isNaN_any _ _).mono ?_; rintro e w2 ⟨rfl, rfl⟩)
      go_ret
      exact ⟨rfl, rfl⟩

theorem cmp_drop {x y : List Int} {k : Nat} {u v : Int} (hu : x[k]? = some u) (hv : y[k]? = some v) : Wd.cmpI (x.drop k) (y.drop k) = if u < v then -1 else if v < u then 1 else Wd.cmpI (x.drop (k + 1)) (y.drop (k + 1)) := by
  rw [List.drop_eq_getElem_cons (List.getElem?_eq_some_iff.1 hu).1, List.drop_eq_getElem_cons (List.getElem?_eq_some_iff.1 hv).1, (List.getElem?_eq_some_iff.1 hu).2, (List.getElem?_eq_some_iff.1 hv).2]
  rfl
/-- Of rows as long. -/
theorem compare_any (a b : Option Addr) (ca cb : Nat) (x y : List Int) (w : World) (hx : Cells w a (nums x)) (hy : Cells w b (nums y)) (hxl : x.length ≤ 1000000000000) (hl : x.length = y.length) :
    Calls Try.prog 80 #[.slice a x.length ca, .slice b y.length cb] w fun e w' => e = .returned (.int .i64 (Wd.cmpI x y)) ∧ w' = w := by
  have HX := Lib.hid hx
  have HY := Lib.hid hy
  have hlb : ¬ (x.length : Int) < (y.length : Int) := by omega
  clear hx hy
  go_enter Try.func80, Try.ntmps80
  go_wp2
  go_loop [11] (fun i => ∃ k : Nat, k ≤ x.length ∧ i = .int .i64 k ∧ Hid (Wd.cmpI (x.drop k) (y.drop k) = Wd.cmpI x y)) (fun i => x.length - (intOf i).toNat)
  case atStart => exact ⟨0, Nat.zero_le _, rfl, Lib.hid rfl⟩
  case round =>
    obtain ⟨k, hk, rfl, HB⟩ := hrel
    by_cases hlt : k < x.length
    · obtain ⟨u, hu⟩ : ∃ u, x[k]? = some u := ⟨_, List.getElem?_eq_getElem hlt⟩
      obtain ⟨v, hv⟩ : ∃ v, y[k]? = some v := ⟨_, List.getElem?_eq_getElem (by omega)⟩
      obtain ⟨b1, o1, rfl, hb1, hc1⟩ := HX.out.get (by unfold nums; intro e; rw [List.map_eq_nil_iff] at e; rw [e] at hlt; simp at hlt)
      obtain ⟨b2, o2, rfl, hb2, hc2⟩ := HY.out.get (by unfold nums; intro e; rw [List.map_eq_nil_iff] at e; rw [e] at hl; simp only [List.length_nil] at hl; omega)
      have c1 := hc1 k _ (nums_at hu)
      have c2 := hc2 k _ (nums_at hv)
      have e1 : (k : Int) < x.length := by omega
      have e2 : (k : Int) < y.length := by omega
      have e3 : ¬ (y.length : Int) ≤ k := by omega
      have HN := HB.out
      rw [cmp_drop hu hv] at HN
      have HC := Lib.hid (cmp_any u v w)
      clear hc1 hc2 hu hv
      by_cases h1 : u < v
      · rw [if_pos h1] at HN HC
        have HN := Lib.hid HN
        go_wp2_with (go_at_call 112; refine HC.out.mono ?_; rintro e w2 ⟨rfl, rfl⟩)
        go_ret
        exact ⟨by first | rfl | exact ret_int HN.out, rfl⟩
      · by_cases h2 : v < u
        · rw [if_neg h1, if_pos h2] at HN HC
          have HN := Lib.hid HN
          go_wp2_with (go_at_call 112; refine HC.out.mono ?_; rintro e w2 ⟨rfl, rfl⟩)
          go_ret
          exact ⟨by first | rfl | exact ret_int HN.out, rfl⟩
        · rw [if_neg h1, if_neg h2] at HN HC
          have HN := Lib.hid HN
          go_wp2_with (go_at_call 112; refine HC.out.mono ?_; rintro e w2 ⟨rfl, rfl⟩)
          exact ⟨⟨k + 1, by omega, by go_num, HN⟩, by simp [intOf]; omega⟩
    · have HN := HB.out
      rw [List.drop_eq_nil_of_le (by omega), List.drop_eq_nil_of_le (by omega)] at HN
      have e1 : ¬ (k : Int) < x.length := by omega
      have HN := Lib.hid HN
      go_wp2
      go_ret
      exact ⟨ret_int (show (0 : Int) = _ from HN.out), rfl⟩

theorem wless_any (a b : Option Addr) (ca cb : Nat) (x y : List Int) (w : World) (hx : Cells w a (nums x)) (hy : Cells w b (nums y)) (hxl : x.length ≤ 1000000000000) (hyl : y.length ≤ 1000000000000) :
    Calls Try.prog 35 #[.slice a x.length ca, .slice b y.length cb] w fun e w' => e = .returned (.bool (Wd.lessI x y)) ∧ w' = w := by
  by_cases hl : x.length = y.length
  · have hlb : ((x.length : Int) != (y.length : Int)) = false := by simp [hl]
    have HC := Lib.hid (compare_any a b ca cb x y w hx hy hxl hl)
    have HR := Lib.hid (show decide (Wd.cmpI x y < 0) = Wd.lessI x y by
      unfold Wd.lessI; rw [if_pos hl, Bool.eq_iff_iff, decide_eq_true_eq]; exact Wd.cmp_lex x y hl)
    clear hx hy hl
    go_enter Try.func35, Try.ntmps35
    go_wp2_with (go_at_call 80; refine HC.out.mono ?_; rintro e w2 ⟨rfl, rfl⟩)
    go_ret
    exact ⟨ret_bool HR.out, rfl⟩
  · have hlb : ((x.length : Int) != (y.length : Int)) = true := by simp; omega
    have HR := Lib.hid (show decide (x.length < y.length) = Wd.lessI x y by
      unfold Wd.lessI; rw [if_neg hl])
    clear hx hy hl
    go_enter Try.func35, Try.ntmps35
    go_wp2
    go_ret
    exact ⟨ret_bool HR.out, rfl⟩

/-! ### A row's least word -/
/-- A least word as it lies. -/
structure WL where
  word : List Int
  known : Bool
  addr : Option Addr
  cap : Nat
def WL.opt (p : WL) : Option (List Int) := if p.known = true then some p.word else none
def wls (l : List WL) : List Value := l.flatMap fun p => [.slice p.addr p.word.length p.cap, .bool p.known]
theorem wls_at : ∀ (l : List WL) (j : Nat) (p : WL), l[j]? = some p → (wls l)[j * 2]? = some (.slice p.addr p.word.length p.cap) ∧ (wls l)[j * 2 + 1]? = some (.bool p.known)
  | [], _, _, h => by simp at h
  | q :: l, 0, p, h => by
    have : q = p := by simpa using h
    subst this
    exact ⟨rfl, rfl⟩
  | q :: l, j + 1, p, h => by
    have := wls_at l j p (by simpa using h)
    have e : wls (q :: l) = .slice q.addr q.word.length q.cap :: .bool q.known :: wls l := rfl
    rw [e, show (j + 1) * 2 = j * 2 + 1 + 1 by omega]
    exact this
theorem wls_len (l : List WL) : (wls l).length = l.length * 2 := by
  induction l with
  | nil => rfl
  | cons p l ih => show (wls l).length + 2 = _; rw [ih, List.length_cons]; omega
def kn (l : List WL) : Wd.Kn := l.map WL.opt
theorem known_kn {l : List WL} {j : Nat} {p : WL} (h : l[j]? = some p) : Wd.known (kn l) j = p.opt := by
  unfold Wd.known kn
  rw [List.getElem?_map, h]; rfl
/-- Each that is known lies as it is, and is not too long. -/
def WRows (w : World) (ls : List WL) : Prop := ∀ p ∈ ls, p.known = true → Cells w p.addr (nums p.word) ∧ p.word.length ≤ 100000000
theorem WRows.below {w w' : World} {ls : List WL} (h : WRows w ls) (hb : Below w.heap.size w w') : WRows w' ls := fun p hp hk => ⟨(h p hp hk).1.below hb, (h p hp hk).2⟩

theorem wterm_any (s : Int) (w : World) :
    Calls Try.prog 136 #[.int .i64 s] w fun e w' => e = .returned (.bool (decide (s < 100))) ∧ w' = w := by
  go_enter Try.func136, Try.ntmps136
  go_wp2
  go_ret
  exact ⟨rfl, rfl⟩

end Go.Proofs.Ytflfmcikfiaoiaa
