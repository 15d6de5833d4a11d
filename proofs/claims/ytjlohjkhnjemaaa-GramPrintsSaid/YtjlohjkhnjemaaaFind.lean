/- The small functions of the document's own answers that only read. Two grammars alike: the document's own answer, walked. Symbols and their names: the document's own answers, walked. slices' functions at texts and numbers, and gram's small functions that only read: walked. -/
import Derived.Test.YtjlohjkhnjemaaaLeafs
import Derived.Deep.QuietTactic
import Derived.BigQuiet
import Derived.Deep.Draws
namespace Go.Proofs.Ytjlohjkhnjemaaa
open Go.RowKit
open Doc


/-- A place, or -1. -/
def oint : Option Nat → Int
  | some k => k
  | none => -1

theorem bytes_eq (a b : List UInt8) : ((⟨a.toArray⟩ : ByteArray) = ⟨b.toArray⟩) ↔ a = b := by
  constructor
  · intro h
    have h2 := congrArg (fun s : ByteArray => s.data.toList) h
    simpa using h2
  · intro h; rw [h]

theorem idx_first {l : List (List UInt8)} {s : List UInt8} {k : Nat} (h : l[k]? = some s) (hb : ∀ j, j < k → l[j]? ≠ some s) : idx l s = some k := by
  unfold idx
  obtain ⟨hk, e⟩ := List.getElem?_eq_some_iff.1 h
  rw [List.findIdx?_eq_some_iff_getElem]
  refine ⟨hk, by simp [e], fun j hj => ?_⟩
  have := hb j hj
  rw [List.getElem?_eq_getElem (by omega)] at this
  simpa using this
theorem idx_never {l : List (List UInt8)} {s : List UInt8} (hb : ∀ j, j < l.length → l[j]? ≠ some s) : idx l s = none := by
  unfold idx
  rw [List.findIdx?_eq_none_iff]
  intro x hx
  obtain ⟨j, hj, e⟩ := List.getElem_of_mem hx
  have := hb j hj
  rw [List.getElem?_eq_getElem hj, e] at this
  simpa using this

set_option maxHeartbeats 1000000 in
theorem find_any (a : Option Addr) (cap : Nat) (l : List (List UInt8)) (s : List UInt8) (w : World) (h : Cells w a (strs l)) (hl : l.length ≤ 1000000) :
    Calls Try.prog 76 #[.slice a l.length cap, .string ⟨s.toArray⟩] w fun e w' => e = .returned (.int .i64 (oint (idx l s))) ∧ w' = w := by
  have HH := Lib.hid h
  clear h
  go_enter Try.func76, Try.ntmps76
  go_wp2
  go_loop [9] (fun i => ∃ k : Nat, k ≤ l.length ∧ i = .int .i64 k ∧ Hid (∀ j, j < k → l[j]? ≠ some s)) (fun i => l.length - (intOf i).toNat)
  case atStart => exact ⟨0, Nat.zero_le _, rfl, Lib.hid (by intro j hj; omega)⟩
  case round =>
    obtain ⟨k, hk, rfl, HB⟩ := hrel
    by_cases hlt : k < l.length
    · obtain ⟨x, hx⟩ : ∃ x, l[k]? = some x := ⟨_, List.getElem?_eq_getElem hlt⟩
      obtain ⟨b, off, rfl, hb, hc⟩ := HH.out.get (by unfold strs; intro e; rw [List.map_eq_nil_iff] at e; rw [e] at hlt; simp at hlt)
      have c0 := hc k _ (strs_at hx)
      have e1 : (k : Int) < l.length := by omega
      clear hc
      by_cases hxs : x = s
      · subst hxs
        have hres := Lib.hid (idx_first hx HB.out)
        go_wp2
        go_ret
        exact ⟨ret_int (by rw [hres.out]; rfl), rfl⟩
      · have hbs : (x == s) = false := by simpa using hxs
        have HB2 : Hid (∀ j, j < k + 1 → l[j]? ≠ some s) := Lib.hid fun j hj => by
          by_cases hjk : j = k
          · subst hjk; rw [hx]; simpa using hxs
          · exact HB.out j (by omega)
        go_wp2
        exact ⟨⟨k + 1, by omega, by go_num, HB2⟩, by simp [intOf]; omega⟩
    · have hres := Lib.hid (idx_never (l := l) (s := s) fun j hj => HB.out j (by omega))
      go_wp2
      go_ret
      exact ⟨ret_int (by rw [hres.out]; rfl), rfl⟩

/-- Two rows of numbers. -/
theorem sameRow_any (a b : Option Addr) (ca cb : Nat) (x y : List Int) (w : World) (hx : Cells w a (nums x)) (hy : Cells w b (nums y)) (hxl : x.length ≤ 1000000) (hyl : y.length ≤ 1000000) :
    Calls Try.prog 69 #[.slice a x.length ca, .slice b y.length cb] w fun e w' => e = .returned (.bool (decide (x = y))) ∧ ∃ n, w' = w.drewN n := by
  have HX := Lib.hid hx
  have HY := Lib.hid hy
  clear hx hy
  have mixed : Try.prog.follows Departure.mixedOrders = true := by kernel_rfl
  by_cases hl : x.length = y.length
  · have hlb : ((x.length : Int) != (y.length : Int)) = false := by simp [hl]
    go_enter Try.func69, Try.ntmps69
    go_wp2
    go_loopw [13] (fun i wr => ∃ k n : Nat, k ≤ x.length ∧ i = .int .i64 k ∧ wr = w.drewN n ∧ Hid (∀ j, j < k → x[j]? = y[j]?)) (fun i _ => x.length - (intOf i).toNat)
    case atStart => exact ⟨0, 0, Nat.zero_le _, rfl, rfl, Lib.hid (by intro j hj; omega)⟩
    case round =>
      obtain ⟨k, n, hk, rfl, rfl, HB⟩ := hrel
      by_cases hlt : k < x.length
      · obtain ⟨u, hu⟩ : ∃ u, x[k]? = some u := ⟨_, List.getElem?_eq_getElem hlt⟩
        obtain ⟨v, hv⟩ : ∃ v, y[k]? = some v := ⟨_, List.getElem?_eq_getElem (by omega)⟩
        obtain ⟨b1, o1, rfl, hb1, hc1⟩ := HX.out.get (by unfold nums; intro e; rw [List.map_eq_nil_iff] at e; rw [e] at hlt; simp at hlt)
        obtain ⟨b2, o2, rfl, hb2, hc2⟩ := HY.out.get (by unfold nums; intro e; rw [List.map_eq_nil_iff] at e; rw [e] at hl; simp only [List.length_nil] at hl; omega)
        have c1 := hc1 k _ (nums_at hu)
        have c2 := hc2 k _ (nums_at hv)
        have e1 : (k : Int) < x.length := by omega
        have e2 : (k : Int) < y.length := by omega
        clear hc1 hc2
        by_cases huv : u = v
        · subst huv
          have HB2 : Hid (∀ j, j < k + 1 → x[j]? = y[j]?) := Lib.hid fun j hj => by
            by_cases hjk : j = k
            · subst hjk; rw [hu, hv]
            · exact HB.out j (by omega)
          go_wp2
          go_region
          go_wp2
          go_roundw
          case rel => exact ⟨k + 1, n + 1, by omega, by go_num, by simp, HB2⟩
          case measure => simp [intOf]; omega
        · have hres : decide (x = y) = false := by
            rw [decide_eq_false_iff_not]
            rintro rfl
            rw [hu] at hv
            exact huv (Option.some.inj hv)
          have hbs : (u == v) = false := by simpa using huv
          have HR := Lib.hid hres
          clear hres
          go_wp2
          go_region
          go_wp2
          go_ret
          exact ⟨ret_bool HR.out.symm, n + 1, by simp⟩
      · have hres : decide (x = y) = true := by
          rw [decide_eq_true_iff]
          apply List.ext_getElem?
          intro j
          by_cases hj : j < k
          · exact HB.out j hj
          · rw [List.getElem?_eq_none (by omega), List.getElem?_eq_none (by omega)]
        have e1 : ¬ (k : Int) < x.length := by omega
        have HR := Lib.hid hres
        clear hres
        go_wp2
        go_ret
        exact ⟨ret_bool HR.out.symm, n, rfl⟩
  · have hlb : ((x.length : Int) != (y.length : Int)) = true := by simp; omega
    have hres : decide (x = y) = false := by
      rw [decide_eq_false_iff_not]
      rintro rfl
      exact hl rfl
    have HR := Lib.hid hres
    clear hres
    go_enter Try.func69, Try.ntmps69
    go_wp2
    go_ret
    exact ⟨ret_bool HR.out.symm, 0, rfl⟩

end Go.Proofs.Ytjlohjkhnjemaaa

namespace Go.Proofs.Ytjlohjkhnjemaaa
open Go.RowKit
open Doc

theorem below_drews {B : Nat} {a w : World} (h : Below B a w) (n : Nat) : Below B a (w.drewN n) := ⟨h.os, h.tape, h.output, h.size, h.block⟩

set_option maxRecDepth 100000 in
set_option maxHeartbeats 4000000 in
theorem sameG_any (v1 v2 : Value) (g h : Gr) (w : World) (hg : GramAt w v1 g) (hh : GramAt w v2 h) (hl1 : g.terms.length ≤ 1000000 ∧ g.nons.length ≤ 1000000 ∧ g.prods.length ≤ 1000000 ∧ ∀ p ∈ g.prods, p.2.length ≤ 1000000)
    (hl2 : h.terms.length ≤ 1000000 ∧ h.nons.length ≤ 1000000 ∧ h.prods.length ≤ 1000000 ∧ ∀ p ∈ h.prods, p.2.length ≤ 1000000) :
    Calls Try.prog 18 #[v1, v2] w fun e w' => e = .returned (.bool (decide (g = h))) ∧ Below w.heap.size w w' := by
  obtain ⟨a1, a2, a3, c1, c2, c3, ls, rfl, hp, h1, h2, h3, h4, _⟩ := hg
  obtain ⟨b1, b2, b3, d1, d2, d3, ms, rfl, hq, k1, k2, k3, k4, _⟩ := hh
  have mixed : Try.prog.follows Departure.mixedOrders = true := by kernel_rfl
  by_cases e0 : g.terms.length = h.terms.length ∧ g.nons.length = h.nons.length ∧ ls.length = ms.length
  · obtain ⟨e1, e2, e3⟩ := e0
    have f1 : ((g.terms.length : Int) != (h.terms.length : Int)) = false := by simp [e1]
    have f2 : ((g.nons.length : Int) != (h.nons.length : Int)) = false := by simp [e2]
    have f3 : ((ls.length : Int) != (ms.length : Int)) = false := by simp [e3]
    have E1 := Lib.hid e1
    have E2 := Lib.hid e2
    have E3 := Lib.hid e3
    clear e1 e2 e3
    go_enter Try.func18, Try.ntmps18
    have hlsl : ls.length ≤ 1000000 := by have := hl1.2.2.1; rw [← hp, List.length_map] at this; exact this
    go_wp2
    have hS : Below w.heap.size w ((w.alloc (.cells #[.slice a1 g.terms.length c1, .slice a2 g.nons.length c2, .slice a3 ls.length c3] 28)).alloc (.cells #[.slice b1 h.terms.length d1, .slice b2 h.nons.length d2, .slice b3 ms.length d3] 28)) := ((Below.refl _ _).alloc (Nat.le_refl _) _).alloc (by simp) _
    have s10 : ((w.alloc (.cells #[.slice a1 g.terms.length c1, .slice a2 g.nons.length c2, .slice a3 ls.length c3] 28)).alloc (.cells #[.slice b1 h.terms.length d1, .slice b2 h.nons.length d2, .slice b3 ms.length d3] 28)).cell? ⟨w.heap.size, 0, none⟩ = some (.slice a1 g.terms.length c1) := by go_simp
    have s11 : ((w.alloc (.cells #[.slice a1 g.terms.length c1, .slice a2 g.nons.length c2, .slice a3 ls.length c3] 28)).alloc (.cells #[.slice b1 h.terms.length d1, .slice b2 h.nons.length d2, .slice b3 ms.length d3] 28)).cell? ⟨w.heap.size, 1, none⟩ = some (.slice a2 g.nons.length c2) := by go_simp
    have s12 : ((w.alloc (.cells #[.slice a1 g.terms.length c1, .slice a2 g.nons.length c2, .slice a3 ls.length c3] 28)).alloc (.cells #[.slice b1 h.terms.length d1, .slice b2 h.nons.length d2, .slice b3 ms.length d3] 28)).cell? ⟨w.heap.size, 2, none⟩ = some (.slice a3 ls.length c3) := by go_simp
    have s20 : ((w.alloc (.cells #[.slice a1 g.terms.length c1, .slice a2 g.nons.length c2, .slice a3 ls.length c3] 28)).alloc (.cells #[.slice b1 h.terms.length d1, .slice b2 h.nons.length d2, .slice b3 ms.length d3] 28)).cell? ⟨w.heap.size + 1, 0, none⟩ = some (.slice b1 h.terms.length d1) := by go_simp
    have s21 : ((w.alloc (.cells #[.slice a1 g.terms.length c1, .slice a2 g.nons.length c2, .slice a3 ls.length c3] 28)).alloc (.cells #[.slice b1 h.terms.length d1, .slice b2 h.nons.length d2, .slice b3 ms.length d3] 28)).cell? ⟨w.heap.size + 1, 1, none⟩ = some (.slice b2 h.nons.length d2) := by go_simp
    have s22 : ((w.alloc (.cells #[.slice a1 g.terms.length c1, .slice a2 g.nons.length c2, .slice a3 ls.length c3] 28)).alloc (.cells #[.slice b1 h.terms.length d1, .slice b2 h.nons.length d2, .slice b3 ms.length d3] 28)).cell? ⟨w.heap.size + 1, 2, none⟩ = some (.slice b3 ms.length d3) := by go_simp
    have C1 := Lib.hid (h1.below hS)
    have C2 := Lib.hid (h2.below hS)
    have C3 := Lib.hid (h3.below hS)
    have C4 := Lib.hid (fun p (hp : p ∈ ls) => (h4 p hp).below hS)
    have D1 := Lib.hid (k1.below hS)
    have D2 := Lib.hid (k2.below hS)
    have D3 := Lib.hid (k3.below hS)
    have D4 := Lib.hid (fun p (hp : p ∈ ms) => (k4 p hp).below hS)
    clear h1 h2 h3 h4 k1 k2 k3 k4
    generalize ((w.alloc (.cells #[.slice a1 g.terms.length c1, .slice a2 g.nons.length c2, .slice a3 ls.length c3] 28)).alloc (.cells #[.slice b1 h.terms.length d1, .slice b2 h.nons.length d2, .slice b3 ms.length d3] 28)) = S at *
    go_loopw [36] (fun i wr => ∃ k n : Nat, k ≤ g.terms.length ∧ i = .int .i64 k ∧ wr = S.drewN n ∧ Hid (∀ j, j < k → g.terms[j]? = h.terms[j]?)) (fun i _ => g.terms.length - (intOf i).toNat)
    case atStart => exact ⟨0, 0, Nat.zero_le _, rfl, rfl, Lib.hid (by intro j hj; omega)⟩
    case round =>
      obtain ⟨k, n, hk, rfl, rfl, HB⟩ := hrel
      by_cases hlt : k < g.terms.length
      · have hlt2 : k < h.terms.length := by have := E1.out; omega
        obtain ⟨u, hu⟩ : ∃ u, g.terms[k]? = some u := ⟨_, List.getElem?_eq_getElem hlt⟩
        obtain ⟨v, hv⟩ : ∃ v, h.terms[k]? = some v := ⟨_, List.getElem?_eq_getElem hlt2⟩
        obtain ⟨q1, o1, rfl, hq1, hc1⟩ := C1.out.get (by unfold strs; intro e; rw [List.map_eq_nil_iff] at e; rw [e] at hlt; simp at hlt)
        obtain ⟨q2, o2, rfl, hq2, hc2⟩ := D1.out.get (by unfold strs; intro e; rw [List.map_eq_nil_iff] at e; rw [e] at hlt2; simp at hlt2)
        have x1 := hc1 k _ (strs_at hu)
        have x2 := hc2 k _ (strs_at hv)
        have y1 : (k : Int) < g.terms.length := by omega
        have y2 : (k : Int) < h.terms.length := by omega
        clear hc1 hc2
        by_cases huv : u = v
        · subst huv
          have HB2 : Hid (∀ j, j < k + 1 → g.terms[j]? = h.terms[j]?) := Lib.hid fun j hj => by
            by_cases hjk : j = k
            · subst hjk; rw [hu, hv]
            · exact HB.out j (by omega)
          go_wp2
          go_region
          go_wp2
          go_roundw
          case rel => exact ⟨k + 1, n + 1, by omega, by go_num, by simp, HB2⟩
          case measure => simp [intOf]; omega
        · have hres := Lib.hid (show decide (g = h) = false by
            rw [decide_eq_false_iff_not]
            rintro rfl
            rw [hu] at hv
            exact huv (Option.some.inj hv))
          have hbs : (u == v) = false := by simpa using huv
          go_wp2
          go_region
          go_wp2
          go_ret
          exact ⟨ret_bool hres.out.symm, by first | exact below_drews hS _ | exact below_drews (below_drews hS _) _⟩
      · have hsame := Lib.hid (show g.terms = h.terms by
          apply List.ext_getElem?
          intro j
          by_cases hj : j < k
          · exact HB.out j hj
          · rw [List.getElem?_eq_none (by omega), List.getElem?_eq_none (by have := E1.out; omega)])
        have y1 : ¬ (k : Int) < g.terms.length := by omega
        clear HB
        go_wp2
        have T1 := hsame
        clear hsame
        go_loopw [54] (fun i wr => ∃ k n : Nat, k ≤ g.nons.length ∧ i = .int .i64 k ∧ wr = S.drewN n ∧ Hid (∀ j, j < k → g.nons[j]? = h.nons[j]?)) (fun i _ => g.nons.length - (intOf i).toNat)
        case atStart => exact ⟨0, _, Nat.zero_le _, rfl, rfl, Lib.hid (by intro j hj; omega)⟩
        case round =>
          obtain ⟨k, n, hk, rfl, rfl, HB⟩ := hrel
          by_cases hlt : k < g.nons.length
          · have hlt2 : k < h.nons.length := by have := E2.out; omega
            obtain ⟨u, hu⟩ : ∃ u, g.nons[k]? = some u := ⟨_, List.getElem?_eq_getElem hlt⟩
            obtain ⟨v, hv⟩ : ∃ v, h.nons[k]? = some v := ⟨_, List.getElem?_eq_getElem hlt2⟩
            obtain ⟨q1, o1, rfl, hq1, hc1⟩ := C2.out.get (by unfold strs; intro e; rw [List.map_eq_nil_iff] at e; rw [e] at hlt; simp at hlt)
            obtain ⟨q2, o2, rfl, hq2, hc2⟩ := D2.out.get (by unfold strs; intro e; rw [List.map_eq_nil_iff] at e; rw [e] at hlt2; simp at hlt2)
            have x1 := hc1 k _ (strs_at hu)
            have x2 := hc2 k _ (strs_at hv)
            have y1 : (k : Int) < g.nons.length := by omega
            have y2 : (k : Int) < h.nons.length := by omega
            clear hc1 hc2
            by_cases huv : u = v
            · subst huv
              have HB2 : Hid (∀ j, j < k + 1 → g.nons[j]? = h.nons[j]?) := Lib.hid fun j hj => by
                by_cases hjk : j = k
                · subst hjk; rw [hu, hv]
                · exact HB.out j (by omega)
              go_wp2
              go_region
              go_wp2
              go_roundw
              case rel => exact ⟨k + 1, n + 1, by omega, by go_num, by simp, HB2⟩
              case measure => simp [intOf]; omega
            · have hres := Lib.hid (show decide (g = h) = false by
                rw [decide_eq_false_iff_not]
                rintro rfl
                rw [hu] at hv
                exact huv (Option.some.inj hv))
              have hbs : (u == v) = false := by simpa using huv
              go_wp2
              go_region
              go_wp2
              go_ret
              exact ⟨ret_bool hres.out.symm, by first | exact below_drews hS _ | exact below_drews (below_drews hS _) _⟩
          · have hsame := Lib.hid (show g.nons = h.nons by
              apply List.ext_getElem?
              intro j
              by_cases hj : j < k
              · exact HB.out j hj
              · rw [List.getElem?_eq_none (by omega), List.getElem?_eq_none (by have := E2.out; omega)])
            have y1 : ¬ (k : Int) < g.nons.length := by omega
            clear HB
            go_wp2
            have T2 := hsame
            clear hsame
            go_loopw [72] (fun i wr => ∃ k m : Nat, k ≤ ls.length ∧ i = .int .i64 k ∧ wr = S.drewN m ∧ Hid (∀ j, j < k → g.prods[j]? = h.prods[j]?)) (fun i _ => ls.length - (intOf i).toNat)
            case atStart => exact ⟨0, _, Nat.zero_le _, rfl, rfl, Lib.hid (by intro j hj; omega)⟩
            case round =>
              obtain ⟨k, m, hk, rfl, rfl, HB⟩ := hrel
              by_cases hlt : k < ls.length
              · have hlt2 : k < ms.length := by have := E3.out; omega
                obtain ⟨p, hpk⟩ : ∃ p, ls[k]? = some p := ⟨_, List.getElem?_eq_getElem hlt⟩
                obtain ⟨q, hqk⟩ : ∃ q, ms[k]? = some q := ⟨_, List.getElem?_eq_getElem hlt2⟩
                have gp : g.prods[k]? = some p.plain := by rw [← hp, List.getElem?_map, hpk]; rfl
                have hq' : h.prods[k]? = some q.plain := by rw [← hq, List.getElem?_map, hqk]; rfl
                have hpl : p.right.length ≤ 1000000 := hl1.2.2.2 p.plain (List.mem_of_getElem? gp)
                have hql : q.right.length ≤ 1000000 := hl2.2.2.2 q.plain (List.mem_of_getElem? hq')
                obtain ⟨b1', o1, rfl, hb1, hc1⟩ := C3.out.get (by intro e; have := (lays_at ls k p hpk).1; rw [e] at this; simp at this)
                obtain ⟨b2', o2, rfl, hb2, hc2⟩ := D3.out.get (by intro e; have := (lays_at ms k q hqk).1; rw [e] at this; simp at this)
                have x1 := hc1 _ _ (lays_at ls k p hpk).1
                have x2 := hc1 _ _ (lays_at ls k p hpk).2
                have x3 := hc2 _ _ (lays_at ms k q hqk).1
                have x4 := hc2 _ _ (lays_at ms k q hqk).2
                rw [← Nat.add_assoc] at x2 x4
                have RC : ∀ a b, Calls Try.prog 69 #[.slice p.addr p.right.length p.cap, .slice q.addr q.right.length q.cap] (S.drewN (a + b)) fun e w' => e = .returned (.bool (decide (p.right = q.right))) ∧ ∃ n, w' = S.drewN (a + n) := fun a b => (sameRow_any _ _ _ _ _ _ (S.drewN (a + b)) (C4.out p (List.mem_of_getElem? hpk)) (D4.out q (List.mem_of_getElem? hqk)) hpl hql).mono fun e w' ⟨he, n, hw⟩ => ⟨he, b + n, by rw [hw, World.drewN_drewN, Nat.add_assoc]⟩
                have y1 : (k : Int) < ls.length := by omega
                have y2 : (k : Int) < ms.length := by omega
                have HRC := Lib.hid RC
                clear hc1 hc2 RC
                by_cases hall : p.plain = q.plain
                · have hpl2 : p.left = q.left := congrArg Prod.fst hall
                  have hpr2 : decide (p.right = q.right) = true := decide_eq_true (congrArg Prod.snd hall)
                  have hlb : (p.left == q.left) = true := by simp [hpl2]
                  have HB2 : Hid (∀ j, j < k + 1 → g.prods[j]? = h.prods[j]?) := Lib.hid fun j hj => by
                    by_cases hjk : j = k
                    · subst hjk; rw [gp, hq', hall]
                    · exact HB.out j (by omega)
                  have hlb2 : (p.left != q.left) = false := by simp [hpl2]
                  clear hpl2
                  go_wp2_with fail
                  go_quiet ((go_at_call 69; exact HRC.out _ _))
                  go_wp2
                  go_roundw
                  case rel => exact ⟨k + 1, _, by omega, by go_num, rfl, HB2⟩
                  case measure => simp [intOf]; omega
                · have hres := Lib.hid (show decide (g = h) = false by
                    rw [decide_eq_false_iff_not]
                    rintro rfl
                    rw [gp] at hq'
                    exact hall (Option.some.inj hq'))
                  by_cases hleft : p.left = q.left
                  · have hpr2 : decide (p.right = q.right) = false := decide_eq_false fun e => hall (Prod.ext hleft e)
                    have hlb : (p.left == q.left) = true := by simp [hleft]
                    have hlb2 : (p.left != q.left) = false := by simp [hleft]
                    clear hleft
                    go_wp2_with fail
                    go_quiet ((go_at_call 69; exact HRC.out _ _))
                    go_wp2
                    go_ret
                    exact ⟨ret_bool hres.out.symm, by first | exact below_drews hS _ | exact below_drews (below_drews hS _) _⟩
                  · have hlb : (p.left == q.left) = false := by simpa using hleft
                    have hlb2 : (p.left != q.left) = true := by simpa using hleft
                    go_wp2_with fail
                    go_quiet (fail)
                    go_wp2
                    go_ret
                    exact ⟨ret_bool hres.out.symm, by first | exact below_drews hS _ | exact below_drews (below_drews hS _) _⟩
              · have hsame := Lib.hid (show decide (g = h) = true by
                  rw [decide_eq_true_iff]
                  have hps : g.prods = h.prods := by
                    apply List.ext_getElem?
                    intro j
                    by_cases hj : j < k
                    · exact HB.out j hj
                    · rw [← hp, ← hq, List.getElem?_eq_none (by simp; omega), List.getElem?_eq_none (by have := E3.out; simp; omega)]
                  obtain ⟨gt, gn, gp⟩ := g
                  obtain ⟨ht, hn, hp'⟩ := h
                  have e1 := T1.out
                  have e2 := T2.out
                  simp only at e1 e2 hps
                  rw [e1, e2, hps])
                have y1 : ¬ (k : Int) < ls.length := by omega
                clear HB
                go_wp2
                go_ret
                exact ⟨ret_bool hsame.out.symm, below_drews hS _⟩
  · have hres := Lib.hid (show decide (g = h) = false by
      rw [decide_eq_false_iff_not]
      rintro rfl
      refine e0 ⟨rfl, rfl, ?_⟩
      have := congrArg List.length (hp.trans hq.symm)
      simpa using this)
    have hS : ∀ x y, Below w.heap.size w ((w.alloc x).alloc y) := fun x y => ((Below.refl _ _).alloc (Nat.le_refl _) _).alloc (by simp) _
    have HS := Lib.hid hS
    clear hS
    by_cases e1 : g.terms.length = h.terms.length
    · have f1 : ((g.terms.length : Int) != (h.terms.length : Int)) = false := by simp [e1]
      by_cases e2 : g.nons.length = h.nons.length
      · have f2 : ((g.nons.length : Int) != (h.nons.length : Int)) = false := by simp [e2]
        have f3 : ((ls.length : Int) != (ms.length : Int)) = true := by simp; omega
        clear e0 e1 e2
        go_enter Try.func18, Try.ntmps18
        go_wp2
        go_ret
        exact ⟨ret_bool hres.out.symm, HS.out _ _⟩
      · have f2 : ((g.nons.length : Int) != (h.nons.length : Int)) = true := by simp; omega
        clear e0 e1 e2
        go_enter Try.func18, Try.ntmps18
        go_wp2
        go_ret
        exact ⟨ret_bool hres.out.symm, HS.out _ _⟩
    · have f1 : ((g.terms.length : Int) != (h.terms.length : Int)) = true := by simp; omega
      clear e0 e1
      go_enter Try.func18, Try.ntmps18
      go_wp2
      go_ret
      exact ⟨ret_bool hres.out.symm, HS.out _ _⟩

end Go.Proofs.Ytjlohjkhnjemaaa

namespace Go.Proofs.Ytjlohjkhnjemaaa
open Go.RowKit
open Doc

/-- A nonterminal of g; a symbol of g. -/
def nonB (g : Gr) (s : Int) : Bool := decide (100 ≤ s) && decide (s < 100 + (g.nons.length : Int))
def symB (g : Gr) (s : Int) : Bool := (decide (1 ≤ s) && decide (s ≤ (g.terms.length : Int))) || nonB g s

theorem nonIs_any (v : Value) (g : Gr) (s : Int) (w : World) (hg : GramAt w v g) (hl : g.nons.length ≤ 1000000) :
    Calls Try.prog 67 #[v, .int .i64 s] w fun e w' => e = .returned (.bool (nonB g s)) ∧ Below w.heap.size w w' := by
  obtain ⟨a1, a2, a3, c1, c2, c3, ls, rfl, hp, h1, h2, h3, h4, _⟩ := hg
  have hS : ∀ x, Below w.heap.size w (w.alloc x) := fun x => (Below.refl _ _).alloc (Nat.le_refl _) _
  have HS := Lib.hid hS
  clear hS h1 h2 h3 h4
  by_cases h100 : 100 ≤ s
  · go_enter Try.func67, Try.ntmps67
    go_wp2
    go_ret
    exact ⟨ret_bool (by unfold nonB; rw [decide_eq_true h100]; rfl), HS.out _⟩
  · go_enter Try.func67, Try.ntmps67
    go_wp2
    go_ret
    exact ⟨ret_bool (by unfold nonB; rw [decide_eq_false (by omega)]; rfl), HS.out _⟩

theorem is_any (v : Value) (g : Gr) (s : Int) (w : World) (hg : GramAt w v g) (hl : g.nons.length ≤ 1000000) :
    Calls Try.prog 68 #[v, .int .i64 s] w fun e w' => e = .returned (.bool (symB g s)) ∧ Below w.heap.size w w' := by
  have hg' := hg
  obtain ⟨a1, a2, a3, c1, c2, c3, ls, rfl, hp, h1, h2, h3, h4, _⟩ := hg
  have hS : ∀ x, Below w.heap.size w (w.alloc x) := fun x => (Below.refl _ _).alloc (Nat.le_refl _) _
  have HN := Lib.hid fun x => nonIs_any _ g s (w.alloc x) (hg'.below (hS x)) hl
  have HS := Lib.hid hS
  clear hS h1 h2 h3 h4 hg'
  by_cases hb : 1 ≤ s ∧ s ≤ (g.terms.length : Int)
  · obtain ⟨hb1, hb2⟩ := hb
    have hres := Lib.hid (show symB g s = true by unfold symB; rw [decide_eq_true hb1, decide_eq_true hb2]; rfl)
    go_enter Try.func68, Try.ntmps68
    go_wp2
    go_ret
    exact ⟨ret_bool hres.out.symm, HS.out _⟩
  · have hres := Lib.hid (show symB g s = nonB g s by
      unfold symB
      rcases Decidable.not_and_iff_or_not.1 hb with h | h
      · rw [decide_eq_false h]; simp
      · rw [decide_eq_false h]; simp)
    have hor : s < 1 ∨ (1 ≤ s ∧ (g.terms.length : Int) < s) := by omega
    clear hb
    rcases hor with h | ⟨h, h'⟩
    all_goals
      go_enter Try.func68, Try.ntmps68
      go_wp2_with (go_at_call 67; refine (HN.out _).mono ?_; rintro e w2 ⟨rfl, hb2⟩)
      go_ret
      exact ⟨ret_bool (by first | exact hres.out.symm | (rw [hres.out, decide_eq_false (by omega)]; rfl)), (HS.out _).trans (hb2.mono (HS.out _).size)⟩

/-- A symbol's name, whatever the number. -/
def nameG (g : Gr) (s : Int) : List UInt8 :=
  if s = 0 then [36] else if 1 ≤ s ∧ s ≤ (g.terms.length : Int) then g.terms.getD (s - 1).toNat [] else if 100 ≤ s ∧ s < 100 + (g.nons.length : Int) then g.nons.getD (s - 100).toNat [] else []

theorem symName_any (v : Value) (g : Gr) (s : Int) (w : World) (hg : GramAt w v g) (hl : g.nons.length ≤ 1000000) (hl2 : g.terms.length ≤ 1000000) :
    Calls Try.prog 21 #[v, .int .i64 s] w fun e w' => e = .returned (.string ⟨(nameG g s).toArray⟩) ∧ Below w.heap.size w w' := by
  have hg' := hg
  obtain ⟨a1, a2, a3, c1, c2, c3, ls, rfl, hp, h1, h2, h3, h4, _⟩ := hg
  have hS : ∀ x, Below w.heap.size w (w.alloc x) := fun x => (Below.refl _ _).alloc (Nat.le_refl _) _
  have HN := Lib.hid fun x => nonIs_any _ g s (w.alloc x) (hg'.below (hS x)) hl
  have H1 := Lib.hid fun x => h1.below (hS x)
  have H2 := Lib.hid fun x => h2.below (hS x)
  have HS := Lib.hid hS
  by_cases h0 : s = 0
  · subst h0
    clear hS h1 h2 h3 h4 hg'
    go_enter Try.func21, Try.ntmps21
    go_wp2
    go_ret
    exact ⟨rfl, HS.out _⟩
  · have h0b : (s == 0) = false := by simpa using h0
    by_cases ht : 1 ≤ s ∧ s ≤ (g.terms.length : Int)
    · have hk : (s - 1).toNat < g.terms.length := by omega
      have hres := Lib.hid (show nameG g s = g.terms[(s - 1).toNat] by
        unfold nameG; rw [if_neg h0, if_pos ht, List.getD_eq_getElem?_getD, List.getElem?_eq_getElem hk]; rfl)
      obtain ⟨b, off, rfl, hb, hc⟩ := h1.get (by unfold strs; intro e; rw [List.map_eq_nil_iff] at e; rw [e] at hk; simp at hk)
      have hcell : ∀ x, (w.alloc x).cell? ⟨b, off + (s - 1).toNat, none⟩ = some (.string ⟨(g.terms[(s - 1).toNat]).toArray⟩) := fun x => ((hS x).cell (p := ⟨b, off + (s - 1).toNat, none⟩) hb).trans (hc _ _ (strs_at (List.getElem?_eq_getElem hk)))
      obtain ⟨t1, t2⟩ := ht
      have i1 : (0 : Int) ≤ s - 1 := by omega
      have i2 : s - 1 < (g.terms.length : Int) := by omega
      generalize hx : g.terms[(s - 1).toNat] = x at *
      generalize hkk : (s - 1).toNat = kk at *
      clear hS h1 h2 h3 h4 hg' hc
      go_enter Try.func21, Try.ntmps21
      go_wp2
      go_ret
      exact ⟨by rw [hres.out]; rfl, HS.out _⟩
    · have hor : s < 1 ∨ (1 ≤ s ∧ (g.terms.length : Int) < s) := by omega
      by_cases hn : 100 ≤ s ∧ s < 100 + (g.nons.length : Int)
      · have hk : (s - 100).toNat < g.nons.length := by omega
        have hres := Lib.hid (show nameG g s = g.nons[(s - 100).toNat] by
          unfold nameG; rw [if_neg h0, if_neg ht, if_pos hn, List.getD_eq_getElem?_getD, List.getElem?_eq_getElem hk]; rfl)
        obtain ⟨b, off, rfl, hb, hc⟩ := h2.get (by unfold strs; intro e; rw [List.map_eq_nil_iff] at e; rw [e] at hk; simp at hk)
        have hbool : nonB g s = true := by unfold nonB; rw [decide_eq_true hn.1, decide_eq_true hn.2]; rfl
        have hcw : w.cell? ⟨b, off + (s - 100).toNat, none⟩ = some (.string ⟨(g.nons[(s - 100).toNat]).toArray⟩) := hc _ _ (strs_at (List.getElem?_eq_getElem hk))
        obtain ⟨t1, t2⟩ := hn
        have i1 : (0 : Int) ≤ s - 100 := by omega
        have i2 : s - 100 < (g.nons.length : Int) := by omega
        generalize hx : g.nons[(s - 100).toNat] = x at *
        generalize hkk : (s - 100).toNat = kk at *
        clear h1 h2 h3 h4 hg' hc
        rcases hor with h | ⟨h, h'⟩
        · omega
        · clear ht
          go_enter Try.func21, Try.ntmps21
          go_wp2_with (go_at_call 67; refine (HN.out _).mono ?_; rintro e w2 ⟨rfl, hb2⟩; rw [hbool]; have hc2 := ((hS _).trans (hb2.mono (hS _).size) |>.cell (p := ⟨b, off + kk, none⟩) hb).trans hcw; have hbx := (hb2.cell (p := ⟨w.heap.size, 1, none⟩) (by simp)).trans (by go_simp : _ = some (.slice (some ⟨b, off, none⟩) g.nons.length c2)))
          go_ret
          exact ⟨by rw [hres.out]; rfl, (hS _).trans (hb2.mono (hS _).size)⟩
      · have hres := Lib.hid (show nameG g s = [] by unfold nameG; rw [if_neg h0, if_neg ht, if_neg hn])
        have hbool : nonB g s = false := by
          unfold nonB
          rcases Decidable.not_and_iff_or_not.1 hn with h | h
          · rw [decide_eq_false h]; rfl
          · rw [decide_eq_false h]; simp
        clear h1 h2 h3 h4 hg' ht hn
        rcases hor with h | ⟨h, h'⟩
        all_goals
          go_enter Try.func21, Try.ntmps21
          go_wp2_with (go_at_call 67; refine (HN.out _).mono ?_; rintro e w2 ⟨rfl, hb2⟩; rw [hbool])
          go_ret
          exact ⟨by rw [hres.out]; rfl, (hS _).trans (hb2.mono (hS _).size)⟩

theorem idx_at' {l : List (List UInt8)} {s : List UInt8} {k : Nat} (h : idx l s = some k) : l[k]? = some s := by
  unfold idx at h
  obtain ⟨hk, h1, _⟩ := List.findIdx?_eq_some_iff_getElem.1 h
  rw [List.getElem?_eq_getElem hk]
  simpa using h1

/-- Of a name the symbol. -/
def findG (g : Gr) (n : List UInt8) : Int × Bool :=
  if n = [36] then (0, true) else match idx g.terms n with
  | some k => ((k : Int) + 1, true)
  | none => match idx g.nons n with
    | some k => (100 + (k : Int), true)
    | none => (0, false)

theorem findSym_any (v : Value) (g : Gr) (n : List UInt8) (w : World) (hg : GramAt w v g) (hl : g.nons.length ≤ 1000000) (hl2 : g.terms.length ≤ 1000000) :
    Calls Try.prog 23 #[v, .string ⟨n.toArray⟩] w fun e w' => e = .returned (.tuple #[.int .i64 (findG g n).1, .bool (findG g n).2]) ∧ Below w.heap.size w w' := by
  obtain ⟨a1, a2, a3, c1, c2, c3, ls, rfl, hp, h1, h2, h3, h4, _⟩ := hg
  have hS : ∀ x, Below w.heap.size w (w.alloc x) := fun x => (Below.refl _ _).alloc (Nat.le_refl _) _
  have F1 := Lib.hid fun x => find_any a1 c1 g.terms n (w.alloc x) (h1.below (hS x)) hl2
  have F2 := Lib.hid fun x => find_any a2 c2 g.nons n (w.alloc x) (h2.below (hS x)) hl
  clear h1 h2 h3 h4
  by_cases h36 : n = [36]
  · subst h36
    go_enter Try.func23, Try.ntmps23
    go_wp2
    go_ret2
    exact ⟨rfl, hS _⟩
  · have hb : (n == [36]) = false := by simpa using h36
    cases hi : idx g.terms n with
    | some k =>
      have hk := (List.getElem?_eq_some_iff.1 (idx_at' hi)).1
      have hres := Lib.hid (show findG g n = ((k : Int) + 1, true) by unfold findG; rw [if_neg h36, hi])
      rw [hi] at F1
      simp only [oint] at F1
      go_enter Try.func23, Try.ntmps23
      go_wp2_with (go_at_call 76; refine (F1.out _).mono ?_; rintro e w2 ⟨rfl, rfl⟩)
      go_ret2
      exact ⟨by rw [hres.out]; rfl, hS _⟩
    | none =>
      rw [hi] at F1
      simp only [oint] at F1
      cases hj : idx g.nons n with
      | some k =>
        have hk := (List.getElem?_eq_some_iff.1 (idx_at' hj)).1
        have hres := Lib.hid (show findG g n = (100 + (k : Int), true) by unfold findG; rw [if_neg h36, hi, hj])
        rw [hj] at F2
        simp only [oint] at F2
        go_enter Try.func23, Try.ntmps23
        go_wp2_with (first
          | (go_at_call 76; with_reducible refine (F1.out _).mono ?_; rintro e w2 ⟨rfl, rfl⟩)
          | (go_at_call 76; with_reducible refine (F2.out _).mono ?_; rintro e w2 ⟨rfl, rfl⟩))
        go_ret2
        exact ⟨by rw [hres.out]; rfl, hS _⟩
      | none =>
        have hres := Lib.hid (show findG g n = (0, false) by unfold findG; rw [if_neg h36, hi, hj])
        rw [hj] at F2
        simp only [oint] at F2
        go_enter Try.func23, Try.ntmps23
        go_wp2_with (first
          | (go_at_call 76; with_reducible refine (F1.out _).mono ?_; rintro e w2 ⟨rfl, rfl⟩)
          | (go_at_call 76; with_reducible refine (F2.out _).mono ?_; rintro e w2 ⟨rfl, rfl⟩))
        go_ret2
        exact ⟨by rw [hres.out]; rfl, hS _⟩

end Go.Proofs.Ytjlohjkhnjemaaa

namespace Go.Proofs.Ytjlohjkhnjemaaa
open Go.RowKit
open Doc

set_option maxHeartbeats 1000000 in
theorem index_any (a : Option Addr) (cap : Nat) (l : List (List UInt8)) (s : List UInt8) (w : World) (h : Cells w a (strs l)) (hl : l.length ≤ 1000000) :
    Calls Try.prog 75 #[.slice a l.length cap, .string ⟨s.toArray⟩] w fun e w' => e = .returned (.int .i64 (oint (idx l s))) ∧ w' = w := by
  have HH := Lib.hid h
  clear h
  go_enter Try.func75, Try.ntmps75
  go_wp2
  go_loop [8] (fun i => ∃ k : Nat, k ≤ l.length ∧ i = .int .i64 k ∧ Hid (∀ j, j < k → l[j]? ≠ some s)) (fun i => l.length - (intOf i).toNat)
  case atStart => exact ⟨0, Nat.zero_le _, rfl, Lib.hid (by intro j hj; omega)⟩
  case round =>
    obtain ⟨k, hk, rfl, HB⟩ := hrel
    by_cases hlt : k < l.length
    · obtain ⟨x, hx⟩ : ∃ x, l[k]? = some x := ⟨_, List.getElem?_eq_getElem hlt⟩
      obtain ⟨b, off, rfl, hb, hc⟩ := HH.out.get (by unfold strs; intro e; rw [List.map_eq_nil_iff] at e; rw [e] at hlt; simp at hlt)
      have c0 := hc k _ (strs_at hx)
      have e1 : (k : Int) < l.length := by omega
      clear hc
      by_cases hxs : x = s
      · subst hxs
        have hres := Lib.hid (idx_first hx HB.out)
        go_wp2
        go_ret
        exact ⟨ret_int (by rw [hres.out]; rfl), rfl⟩
      · have hbs : (s == x) = false := by simpa using fun e : s = x => hxs e.symm
        have HB2 : Hid (∀ j, j < k + 1 → l[j]? ≠ some s) := Lib.hid fun j hj => by
          by_cases hjk : j = k
          · subst hjk; rw [hx]; simpa using hxs
          · exact HB.out j (by omega)
        go_wp2
        exact ⟨⟨k + 1, by omega, by go_num, HB2⟩, by simp [intOf]; omega⟩
    · have hres := Lib.hid (idx_never (l := l) (s := s) fun j hj => HB.out j (by omega))
      go_wp2
      go_ret
      exact ⟨ret_int (by rw [hres.out]; rfl), rfl⟩


theorem contains_any (a : Option Addr) (cap : Nat) (l : List (List UInt8)) (s : List UInt8) (w : World) (h : Cells w a (strs l)) (hl : l.length ≤ 1000000) :
    Calls Try.prog 115 #[.slice a l.length cap, .string ⟨s.toArray⟩] w fun e w' => e = .returned (.bool (idx l s).isSome) ∧ w' = w := by
  have HI := Lib.hid (index_any a cap l s w h hl)
  cases hi : idx l s with
  | none =>
    go_enter Try.func115, Try.ntmps115
    go_wp2_with (go_at_call 75; refine HI.out.mono ?_; rintro e w2 ⟨rfl, rfl⟩; rw [hi]; simp only [oint])
    go_ret
    exact ⟨rfl, rfl⟩
  | some k =>
    go_enter Try.func115, Try.ntmps115
    go_wp2_with (go_at_call 75; refine HI.out.mono ?_; rintro e w2 ⟨rfl, rfl⟩; rw [hi]; simp only [oint])
    go_ret
    exact ⟨ret_bool (by simp), rfl⟩

set_option maxHeartbeats 1000000 in
theorem equalI_any (a b : Option Addr) (ca cb : Nat) (x y : List Int) (w : World) (hx : Cells w a (nums x)) (hy : Cells w b (nums y)) (hxl : x.length ≤ 1000000) (hyl : y.length ≤ 1000000) :
    Calls Try.prog 119 #[.slice a x.length ca, .slice b y.length cb] w fun e w' => e = .returned (.bool (decide (x = y))) ∧ ∃ n, w' = w.drewN n := by
  have HX := Lib.hid hx
  have HY := Lib.hid hy
  clear hx hy
  have mixed : Try.prog.follows Departure.mixedOrders = true := by kernel_rfl
  by_cases hl : x.length = y.length
  · have hlb : ((x.length : Int) != (y.length : Int)) = false := by simp [hl]
    go_enter Try.func119, Try.ntmps119
    go_wp2
    go_loopw [13] (fun i wr => ∃ k n : Nat, k ≤ x.length ∧ i = .int .i64 k ∧ wr = w.drewN n ∧ Hid (∀ j, j < k → x[j]? = y[j]?)) (fun i _ => x.length - (intOf i).toNat)
    case atStart => exact ⟨0, 0, Nat.zero_le _, rfl, rfl, Lib.hid (by intro j hj; omega)⟩
    case round =>
      obtain ⟨k, n, hk, rfl, rfl, HB⟩ := hrel
      by_cases hlt : k < x.length
      · obtain ⟨u, hu⟩ : ∃ u, x[k]? = some u := ⟨_, List.getElem?_eq_getElem hlt⟩
        obtain ⟨v, hv⟩ : ∃ v, y[k]? = some v := ⟨_, List.getElem?_eq_getElem (by omega)⟩
        obtain ⟨b1, o1, rfl, hb1, hc1⟩ := HX.out.get (by unfold nums; intro e; rw [List.map_eq_nil_iff] at e; rw [e] at hlt; simp at hlt)
        obtain ⟨b2, o2, rfl, hb2, hc2⟩ := HY.out.get (by unfold nums; intro e; rw [List.map_eq_nil_iff] at e; rw [e] at hl; simp only [List.length_nil] at hl; omega)
        have c1 := hc1 k _ (nums_at hu)
        have c2 := hc2 k _ (nums_at hv)
        have e1 : (k : Int) < x.length := by omega
        have e2 : (k : Int) < y.length := by omega
        clear hc1 hc2
        by_cases huv : u = v
        · subst huv
          have HB2 : Hid (∀ j, j < k + 1 → x[j]? = y[j]?) := Lib.hid fun j hj => by
            by_cases hjk : j = k
            · subst hjk; rw [hu, hv]
            · exact HB.out j (by omega)
          go_wp2
          go_region
          go_wp2
          go_roundw
          case rel => exact ⟨k + 1, n + 1, by omega, by go_num, by simp, HB2⟩
          case measure => simp [intOf]; omega
        · have hres : decide (x = y) = false := by
            rw [decide_eq_false_iff_not]
            rintro rfl
            rw [hu] at hv
            exact huv (Option.some.inj hv)
          have hbs : (u == v) = false := by simpa using huv
          have HR := Lib.hid hres
          clear hres
          go_wp2
          go_region
          go_wp2
          go_ret
          exact ⟨ret_bool HR.out.symm, n + 1, by simp⟩
      · have hres : decide (x = y) = true := by
          rw [decide_eq_true_iff]
          apply List.ext_getElem?
          intro j
          by_cases hj : j < k
          · exact HB.out j hj
          · rw [List.getElem?_eq_none (by omega), List.getElem?_eq_none (by omega)]
        have e1 : ¬ (k : Int) < x.length := by omega
        have HR := Lib.hid hres
        clear hres
        go_wp2
        go_ret
        exact ⟨ret_bool HR.out.symm, n, rfl⟩
  · have hlb : ((x.length : Int) != (y.length : Int)) = true := by simp; omega
    have hres : decide (x = y) = false := by
      rw [decide_eq_false_iff_not]
      rintro rfl
      exact hl rfl
    have HR := Lib.hid hres
    clear hres
    go_enter Try.func119, Try.ntmps119
    go_wp2
    go_ret
    exact ⟨ret_bool HR.out.symm, 0, rfl⟩

set_option maxHeartbeats 1000000 in
theorem equalS_any (a b : Option Addr) (ca cb : Nat) (x y : List (List UInt8)) (w : World) (hx : Cells w a (strs x)) (hy : Cells w b (strs y)) (hxl : x.length ≤ 1000000) (hyl : y.length ≤ 1000000) :
    Calls Try.prog 72 #[.slice a x.length ca, .slice b y.length cb] w fun e w' => e = .returned (.bool (decide (x = y))) ∧ ∃ n, w' = w.drewN n := by
  have HX := Lib.hid hx
  have HY := Lib.hid hy
  clear hx hy
  have mixed : Try.prog.follows Departure.mixedOrders = true := by kernel_rfl
  by_cases hl : x.length = y.length
  · have hlb : ((x.length : Int) != (y.length : Int)) = false := by simp [hl]
    go_enter Try.func72, Try.ntmps72
    go_wp2
    go_loopw [13] (fun i wr => ∃ k n : Nat, k ≤ x.length ∧ i = .int .i64 k ∧ wr = w.drewN n ∧ Hid (∀ j, j < k → x[j]? = y[j]?)) (fun i _ => x.length - (intOf i).toNat)
    case atStart => exact ⟨0, 0, Nat.zero_le _, rfl, rfl, Lib.hid (by intro j hj; omega)⟩
    case round =>
      obtain ⟨k, n, hk, rfl, rfl, HB⟩ := hrel
      by_cases hlt : k < x.length
      · obtain ⟨u, hu⟩ : ∃ u, x[k]? = some u := ⟨_, List.getElem?_eq_getElem hlt⟩
        obtain ⟨v, hv⟩ : ∃ v, y[k]? = some v := ⟨_, List.getElem?_eq_getElem (by omega)⟩
        obtain ⟨b1, o1, rfl, hb1, hc1⟩ := HX.out.get (by unfold strs; intro e; rw [List.map_eq_nil_iff] at e; rw [e] at hlt; simp at hlt)
        obtain ⟨b2, o2, rfl, hb2, hc2⟩ := HY.out.get (by unfold strs; intro e; rw [List.map_eq_nil_iff] at e; rw [e] at hl; simp only [List.length_nil] at hl; omega)
        have c1 := hc1 k _ (strs_at hu)
        have c2 := hc2 k _ (strs_at hv)
        have e1 : (k : Int) < x.length := by omega
        have e2 : (k : Int) < y.length := by omega
        clear hc1 hc2
        by_cases huv : u = v
        · subst huv
          have HB2 : Hid (∀ j, j < k + 1 → x[j]? = y[j]?) := Lib.hid fun j hj => by
            by_cases hjk : j = k
            · subst hjk; rw [hu, hv]
            · exact HB.out j (by omega)
          go_wp2
          go_region
          go_wp2
          go_roundw
          case rel => exact ⟨k + 1, n + 1, by omega, by go_num, by simp, HB2⟩
          case measure => simp [intOf]; omega
        · have hres : decide (x = y) = false := by
            rw [decide_eq_false_iff_not]
            rintro rfl
            rw [hu] at hv
            exact huv (Option.some.inj hv)
          have hbs : (u == v) = false := by simpa using huv
          have HR := Lib.hid hres
          clear hres
          go_wp2
          go_region
          go_wp2
          go_ret
          exact ⟨ret_bool HR.out.symm, n + 1, by simp⟩
      · have hres : decide (x = y) = true := by
          rw [decide_eq_true_iff]
          apply List.ext_getElem?
          intro j
          by_cases hj : j < k
          · exact HB.out j hj
          · rw [List.getElem?_eq_none (by omega), List.getElem?_eq_none (by omega)]
        have e1 : ¬ (k : Int) < x.length := by omega
        have HR := Lib.hid hres
        clear hres
        go_wp2
        go_ret
        exact ⟨ret_bool HR.out.symm, n, rfl⟩
  · have hlb : ((x.length : Int) != (y.length : Int)) = true := by simp; omega
    have hres : decide (x = y) = false := by
      rw [decide_eq_false_iff_not]
      rintro rfl
      exact hl rfl
    have HR := Lib.hid hres
    clear hres
    go_enter Try.func72, Try.ntmps72
    go_wp2
    go_ret
    exact ⟨ret_bool HR.out.symm, 0, rfl⟩

end Go.Proofs.Ytjlohjkhnjemaaa
