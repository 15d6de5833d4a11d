/- The small functions of the document's own answers that only read. Two grammars alike: the document's own answer, walked. Symbols and their names: the document's own answers, walked. slices' functions at texts and numbers, and gram's small functions that only read: walked. -/
import Derived.Test.YtejjdfmobiegdaaDoorLeafs
import Derived.Deep.QuietTactic
import Derived.BigQuiet
import Derived.Deep.Draws
namespace Go.Proofs.YtejjdfmobiegdaaDoor
open Go.RowKit
open Doc


/-- A place, or -1. -/
def oint : Option Nat → Int
  | some k => k
  | none => -1

theorem bytes_eq (a b : List UInt8) : ((⟨a.toArray⟩ : ByteArray) = ⟨b.toArray⟩) ↔ a = b := by
  constructor
  · intro h
    have h2 := congrArg (fun s : ByteArray => s.data.toList) h
    simpa using h2
  · intro h; rw [h]

theorem idx_first {l : List (List UInt8)} {s : List UInt8} {k : Nat} (h : l[k]? = some s) (hb : ∀ j, j < k → l[j]? ≠ some s) : idx l s = some k := by
  unfold idx
  obtain ⟨hk, e⟩ := List.getElem?_eq_some_iff.1 h
  rw [List.findIdx?_eq_some_iff_getElem]
  refine ⟨hk, by simp [e], fun j hj => ?_⟩
  have := hb j hj
  rw [List.getElem?_eq_getElem (by omega)] at this
  simpa using this
theorem idx_never {l : List (List UInt8)} {s : List UInt8} (hb : ∀ j, j < l.length → l[j]? ≠ some s) : idx l s = none := by
  unfold idx
  rw [List.findIdx?_eq_none_iff]
  intro x hx
  obtain ⟨j, hj, e⟩ := List.getElem_of_mem hx
  have := hb j hj
  rw [List.getElem?_eq_getElem hj, e] at this
  simpa using this

set_option maxHeartbeats 1000000 in
theorem find_any (a : Option Addr) (cap : Nat) (l : List (List UInt8)) (s : List UInt8) (w : World) (h : Cells w a (strs l)) (hl : l.length ≤ 1000000) :
    Calls Tryd.prog 64 #[.slice a l.length cap, .string ⟨s.toArray⟩] w fun e w' => e = .returned (.int .i64 (oint (idx l s))) ∧ w' = w := by
  have HH := Lib.hid h
  clear h
  go_enter Tryd.func64, Tryd.ntmps64
  go_wp2
  go_loop [9] (fun i => ∃ k : Nat, k ≤ l.length ∧ i = .int .i64 k ∧ Hid (∀ j, j < k → l[j]? ≠ some s)) (fun i => l.length - (intOf i).toNat)
  case atStart => exact ⟨0, Nat.zero_le _, rfl, Lib.hid (by intro j hj; omega)⟩
  case round =>
    obtain ⟨k, hk, rfl, HB⟩ := hrel
    by_cases hlt : k < l.length
    · obtain ⟨x, hx⟩ : ∃ x, l[k]? = some x := ⟨_, List.getElem?_eq_getElem hlt⟩
      obtain ⟨b, off, rfl, hb, hc⟩ := HH.out.get (by unfold strs; intro e; rw [List.map_eq_nil_iff] at e; rw [e] at hlt; simp at hlt)
      have c0 := hc k _ (strs_at hx)
      have e1 : (k : Int) < l.length := by omega
      clear hc
      by_cases hxs : x = s
      · subst hxs
        have hres := Lib.hid (idx_first hx HB.out)
        go_wp2
        go_ret
        exact ⟨ret_int (by rw [hres.out]; rfl), rfl⟩
      · have hbs : (x == s) = false := by simpa using hxs
        have HB2 : Hid (∀ j, j < k + 1 → l[j]? ≠ some s) := Lib.hid fun j hj => by
          by_cases hjk : j = k
          · subst hjk; rw [hx]; simpa using hxs
          · exact HB.out j (by omega)
        go_wp2
        exact ⟨⟨k + 1, by omega, by go_num, HB2⟩, by simp [intOf]; omega⟩
    · have hres := Lib.hid (idx_never (l := l) (s := s) fun j hj => HB.out j (by omega))
      go_wp2
      go_ret
      exact ⟨ret_int (by rw [hres.out]; rfl), rfl⟩

/-- Two rows of numbers. -/
theorem sameRow_any (a b : Option Addr) (ca cb : Nat) (x y : List Int) (w : World) (hx : Cells w a (nums x)) (hy : Cells w b (nums y)) (hxl : x.length ≤ 1000000) (hyl : y.length ≤ 1000000) :
    Calls Tryd.prog 51 #[.slice a x.length ca, .slice b y.length cb] w fun e w' => e = .returned (.bool (decide (x = y))) ∧ ∃ n, w' = w.drewN n := by
  have HX := Lib.hid hx
  have HY := Lib.hid hy
  clear hx hy
  have mixed : Tryd.prog.follows Departure.mixedOrders = true := by kernel_rfl
  by_cases hl : x.length = y.length
  · have hlb : ((x.length : Int) != (y.length : Int)) = false := by simp [hl]
    go_enter Tryd.func51, Tryd.ntmps51
    go_wp2
    go_loopw [13] (fun i wr => ∃ k n : Nat, k ≤ x.length ∧ i = .int .i64 k ∧ wr = w.drewN n ∧ Hid (∀ j, j < k → x[j]? = y[j]?)) (fun i _ => x.length - (intOf i).toNat)
    case atStart => exact ⟨0, 0, Nat.zero_le _, rfl, rfl, Lib.hid (by intro j hj; omega)⟩
    case round =>
      obtain ⟨k, n, hk, rfl, rfl, HB⟩ := hrel
      by_cases hlt : k < x.length
      · obtain ⟨u, hu⟩ : ∃ u, x[k]? = some u := ⟨_, List.getElem?_eq_getElem hlt⟩
        obtain ⟨v, hv⟩ : ∃ v, y[k]? = some v := ⟨_, List.getElem?_eq_getElem (by omega)⟩
        obtain ⟨b1, o1, rfl, hb1, hc1⟩ := HX.out.get (by unfold nums; intro e; rw [List.map_eq_nil_iff] at e; rw [e] at hlt; simp at hlt)
        obtain ⟨b2, o2, rfl, hb2, hc2⟩ := HY.out.get (by unfold nums; intro e; rw [List.map_eq_nil_iff] at e; rw [e] at hl; simp only [List.length_nil] at hl; omega)
        have c1 := hc1 k _ (nums_at hu)
        have c2 := hc2 k _ (nums_at hv)
        have e1 : (k : Int) < x.length := by omega
        have e2 : (k : Int) < y.length := by omega
        clear hc1 hc2
        by_cases huv : u = v
        · subst huv
          have HB2 : Hid (∀ j, j < k + 1 → x[j]? = y[j]?) := Lib.hid fun j hj => by
            by_cases hjk : j = k
            · subst hjk; rw [hu, hv]
            · exact HB.out j (by omega)
          go_wp2
          go_region
          go_wp2
          go_roundw
          case rel => exact ⟨k + 1, n + 1, by omega, by go_num, by simp, HB2⟩
          case measure => simp [intOf]; omega
        · have hres : decide (x = y) = false := by
            rw [decide_eq_false_iff_not]
            rintro rfl
            rw [hu] at hv
            exact huv (Option.some.inj hv)
          have hbs : (u == v) = false := by simpa using huv
          have HR := Lib.hid hres
          clear hres
          go_wp2
          go_region
          go_wp2
          go_ret
          exact ⟨ret_bool HR.out.symm, n + 1, by simp⟩
      · have hres : decide (x = y) = true := by
          rw [decide_eq_true_iff]
          apply List.ext_getElem?
          intro j
          by_cases hj : j < k
          · exact HB.out j hj
          · rw [List.getElem?_eq_none (by omega), List.getElem?_eq_none (by omega)]
        have e1 : ¬ (k : Int) < x.length := by omega
        have HR := Lib.hid hres
        clear hres
        go_wp2
        go_ret
        exact ⟨ret_bool HR.out.symm, n, rfl⟩
  · have hlb : ((x.length : Int) != (y.length : Int)) = true := by simp; omega
    have hres : decide (x = y) = false := by
      rw [decide_eq_false_iff_not]
      rintro rfl
      exact hl rfl
    have HR := Lib.hid hres
    clear hres
    go_enter Tryd.func51, Tryd.ntmps51
    go_wp2
    go_ret
    exact ⟨ret_bool HR.out.symm, 0, rfl⟩

end Go.Proofs.YtejjdfmobiegdaaDoor

namespace Go.Proofs.YtejjdfmobiegdaaDoor
open Go.RowKit
open Doc

theorem below_drews {B : Nat} {a w : World} (h : Below B a w) (n : Nat) : Below B a (w.drewN n) := ⟨h.os, h.tape, h.output, h.size, h.block⟩

end Go.Proofs.YtejjdfmobiegdaaDoor

namespace Go.Proofs.YtejjdfmobiegdaaDoor
open Go.RowKit
open Doc

/-- A nonterminal of g; a symbol of g. -/
def nonB (g : Gr) (s : Int) : Bool := decide (100 ≤ s) && decide (s < 100 + (g.nons.length : Int))
def symB (g : Gr) (s : Int) : Bool := (decide (1 ≤ s) && decide (s ≤ (g.terms.length : Int))) || nonB g s

theorem nonIs_any (v : Value) (g : Gr) (s : Int) (w : World) (hg : GramAt w v g) (hl : g.nons.length ≤ 1000000) :
    Calls Tryd.prog 49 #[v, .int .i64 s] w fun e w' => e = .returned (.bool (nonB g s)) ∧ Below w.heap.size w w' := by
  obtain ⟨a1, a2, a3, c1, c2, c3, ls, rfl, hp, h1, h2, h3, h4, _⟩ := hg
  have hS : ∀ x, Below w.heap.size w (w.alloc x) := fun x => (Below.refl _ _).alloc (Nat.le_refl _) _
  have HS := Lib.hid hS
  clear hS h1 h2 h3 h4
  by_cases h100 : 100 ≤ s
  · go_enter Tryd.func49, Tryd.ntmps49
    go_wp2
    go_ret
    exact ⟨ret_bool (by unfold nonB; rw [decide_eq_true h100]; rfl), HS.out _⟩
  · go_enter Tryd.func49, Tryd.ntmps49
    go_wp2
    go_ret
    exact ⟨ret_bool (by unfold nonB; rw [decide_eq_false (by omega)]; rfl), HS.out _⟩

theorem is_any (v : Value) (g : Gr) (s : Int) (w : World) (hg : GramAt w v g) (hl : g.nons.length ≤ 1000000) :
    Calls Tryd.prog 50 #[v, .int .i64 s] w fun e w' => e = .returned (.bool (symB g s)) ∧ Below w.heap.size w w' := by
  have hg' := hg
  obtain ⟨a1, a2, a3, c1, c2, c3, ls, rfl, hp, h1, h2, h3, h4, _⟩ := hg
  have hS : ∀ x, Below w.heap.size w (w.alloc x) := fun x => (Below.refl _ _).alloc (Nat.le_refl _) _
  have HN := Lib.hid fun x => nonIs_any _ g s (w.alloc x) (hg'.below (hS x)) hl
  have HS := Lib.hid hS
  clear hS h1 h2 h3 h4 hg'
  by_cases hb : 1 ≤ s ∧ s ≤ (g.terms.length : Int)
  · obtain ⟨hb1, hb2⟩ := hb
    have hres := Lib.hid (show symB g s = true by unfold symB; rw [decide_eq_true hb1, decide_eq_true hb2]; rfl)
    go_enter Tryd.func50, Tryd.ntmps50
    go_wp2
    go_ret
    exact ⟨ret_bool hres.out.symm, HS.out _⟩
  · have hres := Lib.hid (show symB g s = nonB g s by
      unfold symB
      rcases Decidable.not_and_iff_or_not.1 hb with h | h
      · rw [decide_eq_false h]; simp
      · rw [decide_eq_false h]; simp)
    have hor : s < 1 ∨ (1 ≤ s ∧ (g.terms.length : Int) < s) := by omega
    clear hb
    rcases hor with h | ⟨h, h'⟩
    all_goals
      go_enter Tryd.func50, Tryd.ntmps50
      go_wp2_with (go_at_call 49; refine (HN.out _).mono ?_; rintro e w2 ⟨rfl, hb2⟩)
      go_ret
      exact ⟨ret_bool (by first | exact hres.out.symm | (rw [hres.out, decide_eq_false (by omega)]; rfl)), (HS.out _).trans (hb2.mono (HS.out _).size)⟩

/-- A symbol's name, whatever the number. -/
def nameG (g : Gr) (s : Int) : List UInt8 :=
  if s = 0 then [36] else if 1 ≤ s ∧ s ≤ (g.terms.length : Int) then g.terms.getD (s - 1).toNat [] else if 100 ≤ s ∧ s < 100 + (g.nons.length : Int) then g.nons.getD (s - 100).toNat [] else []

theorem idx_at' {l : List (List UInt8)} {s : List UInt8} {k : Nat} (h : idx l s = some k) : l[k]? = some s := by
  unfold idx at h
  obtain ⟨hk, h1, _⟩ := List.findIdx?_eq_some_iff_getElem.1 h
  rw [List.getElem?_eq_getElem hk]
  simpa using h1

/-- Of a name the symbol. -/
def findG (g : Gr) (n : List UInt8) : Int × Bool :=
  if n = [36] then (0, true) else match idx g.terms n with
  | some k => ((k : Int) + 1, true)
  | none => match idx g.nons n with
    | some k => (100 + (k : Int), true)
    | none => (0, false)

end Go.Proofs.YtejjdfmobiegdaaDoor

namespace Go.Proofs.YtejjdfmobiegdaaDoor
open Go.RowKit
open Doc

set_option maxHeartbeats 1000000 in
theorem index_any (a : Option Addr) (cap : Nat) (l : List (List UInt8)) (s : List UInt8) (w : World) (h : Cells w a (strs l)) (hl : l.length ≤ 1000000) :
    Calls Tryd.prog 129 #[.slice a l.length cap, .string ⟨s.toArray⟩] w fun e w' => e = .returned (.int .i64 (oint (idx l s))) ∧ w' = w := by
  have HH := Lib.hid h
  clear h
  go_enter Tryd.func129, Tryd.ntmps129
  go_wp2
  go_loop [8] (fun i => ∃ k : Nat, k ≤ l.length ∧ i = .int .i64 k ∧ Hid (∀ j, j < k → l[j]? ≠ some s)) (fun i => l.length - (intOf i).toNat)
  case atStart => exact ⟨0, Nat.zero_le _, rfl, Lib.hid (by intro j hj; omega)⟩
  case round =>
    obtain ⟨k, hk, rfl, HB⟩ := hrel
    by_cases hlt : k < l.length
    · obtain ⟨x, hx⟩ : ∃ x, l[k]? = some x := ⟨_, List.getElem?_eq_getElem hlt⟩
      obtain ⟨b, off, rfl, hb, hc⟩ := HH.out.get (by unfold strs; intro e; rw [List.map_eq_nil_iff] at e; rw [e] at hlt; simp at hlt)
      have c0 := hc k _ (strs_at hx)
      have e1 : (k : Int) < l.length := by omega
      clear hc
      by_cases hxs : x = s
      · subst hxs
        have hres := Lib.hid (idx_first hx HB.out)
        go_wp2
        go_ret
        exact ⟨ret_int (by rw [hres.out]; rfl), rfl⟩
      · have hbs : (s == x) = false := by simpa using fun e : s = x => hxs e.symm
        have HB2 : Hid (∀ j, j < k + 1 → l[j]? ≠ some s) := Lib.hid fun j hj => by
          by_cases hjk : j = k
          · subst hjk; rw [hx]; simpa using hxs
          · exact HB.out j (by omega)
        go_wp2
        exact ⟨⟨k + 1, by omega, by go_num, HB2⟩, by simp [intOf]; omega⟩
    · have hres := Lib.hid (idx_never (l := l) (s := s) fun j hj => HB.out j (by omega))
      go_wp2
      go_ret
      exact ⟨ret_int (by rw [hres.out]; rfl), rfl⟩


theorem contains_any (a : Option Addr) (cap : Nat) (l : List (List UInt8)) (s : List UInt8) (w : World) (h : Cells w a (strs l)) (hl : l.length ≤ 1000000) :
    Calls Tryd.prog 106 #[.slice a l.length cap, .string ⟨s.toArray⟩] w fun e w' => e = .returned (.bool (idx l s).isSome) ∧ w' = w := by
  have HI := Lib.hid (index_any a cap l s w h hl)
  cases hi : idx l s with
  | none =>
    go_enter Tryd.func106, Tryd.ntmps106
    go_wp2_with (go_at_call 129; refine HI.out.mono ?_; rintro e w2 ⟨rfl, rfl⟩; rw [hi]; simp only [oint])
    go_ret
    exact ⟨rfl, rfl⟩
  | some k =>
    go_enter Tryd.func106, Tryd.ntmps106
    go_wp2_with (go_at_call 129; refine HI.out.mono ?_; rintro e w2 ⟨rfl, rfl⟩; rw [hi]; simp only [oint])
    go_ret
    exact ⟨ret_bool (by simp), rfl⟩

set_option maxHeartbeats 1000000 in
theorem equalI_any (a b : Option Addr) (ca cb : Nat) (x y : List Int) (w : World) (hx : Cells w a (nums x)) (hy : Cells w b (nums y)) (hxl : x.length ≤ 1000000) (hyl : y.length ≤ 1000000) :
    Calls Tryd.prog 145 #[.slice a x.length ca, .slice b y.length cb] w fun e w' => e = .returned (.bool (decide (x = y))) ∧ ∃ n, w' = w.drewN n := by
  have HX := Lib.hid hx
  have HY := Lib.hid hy
  clear hx hy
  have mixed : Tryd.prog.follows Departure.mixedOrders = true := by kernel_rfl
  by_cases hl : x.length = y.length
  · have hlb : ((x.length : Int) != (y.length : Int)) = false := by simp [hl]
    go_enter Tryd.func145, Tryd.ntmps145
    go_wp2
    go_loopw [13] (fun i wr => ∃ k n : Nat, k ≤ x.length ∧ i = .int .i64 k ∧ wr = w.drewN n ∧ Hid (∀ j, j < k → x[j]? = y[j]?)) (fun i _ => x.length - (intOf i).toNat)
    case atStart => exact ⟨0, 0, Nat.zero_le _, rfl, rfl, Lib.hid (by intro j hj; omega)⟩
    case round =>
      obtain ⟨k, n, hk, rfl, rfl, HB⟩ := hrel
      by_cases hlt : k < x.length
      · obtain ⟨u, hu⟩ : ∃ u, x[k]? = some u := ⟨_, List.getElem?_eq_getElem hlt⟩
        obtain ⟨v, hv⟩ : ∃ v, y[k]? = some v := ⟨_, List.getElem?_eq_getElem (by omega)⟩
        obtain ⟨b1, o1, rfl, hb1, hc1⟩ := HX.out.get (by unfold nums; intro e; rw [List.map_eq_nil_iff] at e; rw [e] at hlt; simp at hlt)
        obtain ⟨b2, o2, rfl, hb2, hc2⟩ := HY.out.get (by unfold nums; intro e; rw [List.map_eq_nil_iff] at e; rw [e] at hl; simp only [List.length_nil] at hl; omega)
        have c1 := hc1 k _ (nums_at hu)
        have c2 := hc2 k _ (nums_at hv)
        have e1 : (k : Int) < x.length := by omega
        have e2 : (k : Int) < y.length := by omega
        clear hc1 hc2
        by_cases huv : u = v
        · subst huv
          have HB2 : Hid (∀ j, j < k + 1 → x[j]? = y[j]?) := Lib.hid fun j hj => by
            by_cases hjk : j = k
            · subst hjk; rw [hu, hv]
            · exact HB.out j (by omega)
          go_wp2
          go_region
          go_wp2
          go_roundw
          case rel => exact ⟨k + 1, n + 1, by omega, by go_num, by simp, HB2⟩
          case measure => simp [intOf]; omega
        · have hres : decide (x = y) = false := by
            rw [decide_eq_false_iff_not]
            rintro rfl
            rw [hu] at hv
            exact huv (Option.some.inj hv)
          have hbs : (u == v) = false := by simpa using huv
          have HR := Lib.hid hres
          clear hres
          go_wp2
          go_region
          go_wp2
          go_ret
          exact ⟨ret_bool HR.out.symm, n + 1, by simp⟩
      · have hres : decide (x = y) = true := by
          rw [decide_eq_true_iff]
          apply List.ext_getElem?
          intro j
          by_cases hj : j < k
          · exact HB.out j hj
          · rw [List.getElem?_eq_none (by omega), List.getElem?_eq_none (by omega)]
        have e1 : ¬ (k : Int) < x.length := by omega
        have HR := Lib.hid hres
        clear hres
        go_wp2
        go_ret
        exact ⟨ret_bool HR.out.symm, n, rfl⟩
  · have hlb : ((x.length : Int) != (y.length : Int)) = true := by simp; omega
    have hres : decide (x = y) = false := by
      rw [decide_eq_false_iff_not]
      rintro rfl
      exact hl rfl
    have HR := Lib.hid hres
    clear hres
    go_enter Tryd.func145, Tryd.ntmps145
    go_wp2
    go_ret
    exact ⟨ret_bool HR.out.symm, 0, rfl⟩

end Go.Proofs.YtejjdfmobiegdaaDoor
