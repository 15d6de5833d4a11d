/- word: Least: walked. -/
import Derived.Test.YtejjdfmobiegdaaDoorWordT
import Derived.Test.YtejjdfmobiegdaaDoorReach
import Derived.Laws.MakeOwn
set_option linter.unusedVariables false
namespace Go.Proofs.YtejjdfmobiegdaaDoor
open Go.RowKit
open Doc

def isNo : Value → Bool
  | .bool false => true
  | _ => false
/-- How many in a block are no. -/
def noW (b : Nat) (w : World) : Nat := match w.heap[b]? with
  | some (.cells cs _ _) => cs.toList.countP isNo
  | _ => 0
theorem no_wls : ∀ ls : List WL, (wls ls).countP isNo + Wd.howMany (kn ls) = ls.length
  | [] => rfl
  | p :: ls => by
    have ih := no_wls ls
    have e : wls (p :: ls) = .slice p.addr p.word.length p.cap :: .bool p.known :: wls ls := rfl
    have e2 : kn (p :: ls) = p.opt :: kn ls := rfl
    unfold Wd.howMany at *
    rw [e, e2, List.countP_cons, List.countP_cons, List.countP_cons, List.length_cons]
    unfold WL.opt
    cases p.known <;> simp [isNo] <;> omega
def wl0 : WL := ⟨[], false, none, 0⟩
theorem wls0 (n : Nat) : wls (List.replicate n wl0) = (List.replicate n [Value.slice none 0 0, .bool false]).flatten := by
  unfold wls
  induction n with
  | zero => rfl
  | succ n ih => rw [List.replicate_succ, List.replicate_succ, List.flatMap_cons, ih]; rfl
theorem kn0 (n : Nat) : kn (List.replicate n wl0) = Wd.none_ n := by
  unfold kn Wd.none_; rw [List.map_replicate]; rfl
theorem made_two (u v : Value) (n : Nat) : (madeCells #[u, v] (n * 2)).toList = (List.replicate n [u, v]).flatten := by
  induction n with
  | zero => simp [madeCells]
  | succ n ih =>
    rw [List.replicate_succ', List.flatten_append, ← ih]
    apply List.ext_getElem?
    intro j
    rw [List.getElem?_append]
    simp only [madeCells, Array.toList_map, Array.toList_range, List.length_map, List.length_range, List.getElem?_map]
    by_cases h : j < n * 2
    · rw [if_pos h, List.getElem?_range (by omega), List.getElem?_range h]
    · rw [if_neg h]
      by_cases h2 : j < (n + 1) * 2
      · rw [List.getElem?_range h2]
        rcases (show j = n * 2 ∨ j = n * 2 + 1 by omega) with rfl | rfl
        · simp
        · simp [Nat.add_mod]
      · rw [List.getElem?_eq_none (by simp; omega)]
        simp; omega
theorem infoRow7 : (Tryd.prog.info? 25).map (fun i => (i.zero, i.size, i.bytes)) = some (some (.slice none 0 0), 1, 24) := by kernel_rfl
theorem make_rows (n : Nat) (hn : n ≤ 1000) (w : World) : (Instr.makeSlice 22 (.int .i64 n) (.int .i64 n)).run Tryd.prog w = .ok (.slice (some ⟨w.heap.size, 0, none⟩) n n) (w.alloc (.cells (Array.replicate n (Value.slice none 0 0)) 25)) := by
  obtain ⟨i, hi, hz, h1, h2⟩ := info_of infoRow7
  have hr := run_make (P := Tryd.prog) w 22 25 i _ Tryd.underlying22 hi hz .i64 .i64 n n (by omega) (Int.le_refl _) (by rw [h2]; omega) (by omega)
  have e : madeCells (Value.cells (.slice none 0 0)) (n * 1) = Array.replicate n (Value.slice none 0 0) := by
    apply Array.ext'
    rw [show Value.cells (.slice none 0 0) = #[.slice none 0 0] from rfl, Nat.mul_one, toList_madeCells_one, Array.toList_replicate]
  rw [Int.toNat_natCast, h1, e] at hr
  exact hr
def slV (p : WL) : Value := .slice p.addr p.word.length p.cap
/-- Rows of words, as they are handed out. -/
structure OutAt (w : World) (b : Nat) (ls : List WL) : Prop where
  q : w.heap[b]? = some (.cells (ls.map slV).toArray 25)
  r : ∀ p ∈ ls, Cells w p.addr (nums p.word)
  z : ∀ p ∈ ls, p.known = false → p.word = []
theorem OutAt.below {w w' : World} {b : Nat} {ls : List WL} (h : OutAt w b ls) (hb : Below w.heap.size w w') : OutAt w' b ls :=
  ⟨(hb.block b (heap_lt h.q)).trans h.q, fun p hp => (h.r p hp).below hb, h.z⟩
theorem slV_step {ls : List WL} {i : Nat} {p : WL} (hp : ls[i]? = some p) : (((ls.take i).map slV) ++ List.replicate (ls.length - i) (Value.slice none 0 0)).toArray.set! i (.slice p.addr p.word.length p.cap) = (((ls.take (i + 1)).map slV) ++ List.replicate (ls.length - (i + 1)) (Value.slice none 0 0)).toArray := by
  have hi := (List.getElem?_eq_some_iff.1 hp).1
  rw [Array.set!_eq_setIfInBounds, List.setIfInBounds_toArray]
  congr 1
  rw [List.take_add_one, hp, show ls.length - i = (ls.length - (i + 1)) + 1 by omega, List.replicate_succ]
  rw [List.set_append_right _ _ (by simp; omega)]
  have e : i - (List.map slV (List.take i ls)).length = 0 := by simp; omega
  rw [e]
  simp [slV]

theorem sym_in {g : Gr} (h : CheckG g) : ∀ p ∈ g.prods, (100 ≤ p.1 ∧ p.1 < 100 + (g.nons.length : Int)) ∧ ∀ s ∈ p.2, -1000000 ≤ s ∧ s < 100 + (g.nons.length : Int) := fun p hp => by
  have h1 := h.pv p hp
  have ht := h.t8
  refine ⟨h1.1, fun s hs => ?_⟩
  have := h1.2.2 s hs
  unfold symOk at this
  omega
theorem lefts_in {g : Gr} (h : CheckG g) : Wd.LeftsIn g.prods g.nons.length := fun p hp => (sym_in h p hp).1
theorem pow6 {k n : Nat} (h : k ≤ n) (hn : n ≤ 9) : 6 ^ k ≤ 100000000 := Nat.le_trans (Nat.pow_le_pow_right (by decide) (Nat.le_trans h hn)) (by decide)

end Go.Proofs.YtejjdfmobiegdaaDoor
