/- states: what is asked of a machine: walked. -/
import Derived.Test.YtejjdfmobiegdaaDoorStW
set_option linter.unusedVariables false
namespace Go.Proofs.YtejjdfmobiegdaaDoor
open Go.RowKit
open Doc
open Go.MapKept Go.ChangeMaps

def atI (all : List StP) (i : Int) : Option StP := if 0 ≤ i then all[i.toNat]? else none
def itI (all : List StP) (i : Int) : List It := match atI all i with
  | some x => x.items
  | none => []
def byI (all : List StP) (i : Int) : Int := match atI all i with
  | some x => x.by_
  | none => -1
def toI (x : StP) (s : Int) : Int := match x.to s with
  | some t => (t : Int)
  | none => -1
def goI (all : List StP) (i s : Int) : Int := match atI all i with
  | some x => toI x s
  | none => -1
theorem at_in {ss : List StL} {i : Int} (h0 : 0 ≤ i) (h1 : i < (ss.length : Int)) : ∃ (k : Nat) (x : StL), i = (k : Int) ∧ k < ss.length ∧ ss[k]? = some x ∧ atI (plS ss) i = some x.s := by
  obtain ⟨k, rfl⟩ := Int.eq_ofNat_of_zero_le h0
  have hk : k < ss.length := by omega
  refine ⟨k, ss[k], rfl, hk, List.getElem?_eq_getElem hk, ?_⟩
  unfold atI plS
  rw [if_pos h0, Int.toNat_natCast, List.getElem?_map, List.getElem?_eq_getElem hk]; rfl
theorem at_out {ss : List StL} {i : Int} (h : ¬ (0 ≤ i ∧ i < (ss.length : Int))) : atI (plS ss) i = none := by
  unfold atI plS
  split
  · rw [List.getElem?_map, List.getElem?_eq_none (by omega)]; rfl
  · rfl
set_option maxRecDepth 100000 in
set_option maxHeartbeats 4000000 in
theorem mlen_any (B base : Nat) (g : Gr) (G : GrL) (sa : Option Addr) (sc : Nat) (ss : List StL) (w : World) (h : MacAt w B base g G sa sc ss) :
    Calls Tryd.prog 27 #[.pointer (some ⟨B, 0, none⟩)] w fun e w' => e = .returned (.int .i64 ss.length) ∧ w' = w := by
  have x0 := (blk_cell (i := 3) h.q rfl).1
  have x1 := heap_lt h.q
  clear h
  go_enter Tryd.func27, Tryd.ntmps27
  go_wp2
  go_ret
  exact ⟨rfl, rfl⟩
set_option maxRecDepth 100000 in
set_option maxHeartbeats 4000000 in
theorem mhas_any (B base : Nat) (g : Gr) (G : GrL) (sa : Option Addr) (sc : Nat) (ss : List StL) (i : Int) (w : World) (h : MacAt w B base g G sa sc ss) :
    Calls Tryd.prog 68 #[.pointer (some ⟨B, 0, none⟩), .int .i64 i] w fun e w' => e = .returned (.bool (decide (0 ≤ i ∧ i < (ss.length : Int)))) ∧ w' = w := by
  have x0 := (blk_cell (i := 3) h.q rfl).1
  have x1 := heap_lt h.q
  clear h
  by_cases h0 : 0 ≤ i
  · have hg : decide (i ≥ 0) = true := by rw [decide_eq_true_iff]; omega
    have HR := Lib.hid (show decide (0 ≤ i ∧ i < (ss.length : Int)) = decide (i < (ss.length : Int)) by rw [decide_eq_decide]; omega)
    go_enter Tryd.func68, Tryd.ntmps68
    go_wp2
    go_ret
    exact ⟨ret_bool HR.out.symm, rfl⟩
  · have hg : decide (i ≥ 0) = false := by rw [decide_eq_false_iff_not]; omega
    have HR := Lib.hid (show decide (0 ≤ i ∧ i < (ss.length : Int)) = false by rw [decide_eq_false_iff_not]; omega)
    have h2 : i < 0 := by omega
    go_enter Tryd.func68, Tryd.ntmps68
    go_wp2
    go_ret
    exact ⟨by first | exact ret_bool HR.out.symm | rfl, rfl⟩
set_option maxRecDepth 100000 in
set_option maxHeartbeats 4000000 in
theorem mitems_any (B base : Nat) (g : Gr) (G : GrL) (sa : Option Addr) (sc : Nat) (ss : List StL) (i : Int) (w : World) (h : MacAt w B base g G sa sc ss) :
    Calls Tryd.prog 31 #[.pointer (some ⟨B, 0, none⟩), .int .i64 i] w fun e w' => ∃ (a : Option Addr) (c : Nat), e = .returned (.slice a (itI (plS ss) i).length c) ∧ OwnI w' w.heap.size a c (itI (plS ss) i) ∧ (itI (plS ss) i).length ≤ 11200 ∧ Below w.heap.size w w' := by
  have HH := Lib.hid (mhas_any B base g G sa sc ss i w h)
  by_cases hi : 0 ≤ i ∧ i < (ss.length : Int)
  · obtain ⟨k, x, rfl, hk, hx, hat⟩ := at_in hi.1 hi.2
    have HE := Lib.hid (show itI (plS ss) (k : Int) = x.s.items by unfold itI; rw [hat])
    rw [HE.out]
    rw [decide_eq_true hi] at HH
    have hxi := h.all.its x (List.mem_of_getElem? hx)
    have HCL := Lib.hid (cloneI2_any x.ia x.ic x.s.items w hxi.1.its (by have := hxi.2; omega) (by intro e; have := cells_none (show Cells w none (itsV x.s.items) from by rw [← e]; exact hxi.1.its); have h2 := its_len x.s.items; rw [this] at h2; exact List.length_eq_zero_iff.1 (by simp at h2; omega)))
    obtain ⟨b2, o2, rfl, hb2, hc2⟩ := (own_cells h.all.own).1.get (by intro e; have := (st_at hx).1; rw [e] at this; simp at this)
    have c1 := hc2 _ _ (st_at hx).1
    have x0 := (blk_cell (i := 3) h.q rfl).1
    have x1 := heap_lt h.q
    have hk' : (k : Int) < ss.length := hi.2
    have hl := hxi.2
    clear hc2 hx hat h hi hxi
    go_enter Tryd.func31, Tryd.ntmps31
    go_wp2_with (first
      | (go_at_call 68; (with_reducible refine HH.out.mono ?_); rintro e w2 ⟨rfl, hw2⟩; rw [hw2]; clear hw2)
      | (go_at_call 69; (with_reducible refine HCL.out.mono ?_); rintro e w3 ⟨a, c, rfl, ho, hb⟩))
    go_ret
    exact ⟨a, c, rfl, ⟨ho⟩, hl, hb⟩
  · have HE := Lib.hid (show itI (plS ss) i = [] by unfold itI; rw [at_out hi])
    rw [HE.out]
    rw [decide_eq_false hi] at HH
    clear hi h
    go_enter Tryd.func31, Tryd.ntmps31
    go_wp2_with (go_at_call 68; (with_reducible refine HH.out.mono ?_); rintro e w2 ⟨rfl, hw2⟩; rw [hw2]; clear hw2)
    go_ret
    exact ⟨none, 0, rfl, OwnI.nil _ _, by simp, Below.refl _ _⟩
set_option maxRecDepth 100000 in
set_option maxHeartbeats 4000000 in
theorem mby_any (B base : Nat) (g : Gr) (G : GrL) (sa : Option Addr) (sc : Nat) (ss : List StL) (i : Int) (w : World) (h : MacAt w B base g G sa sc ss) :
    Calls Tryd.prog 29 #[.pointer (some ⟨B, 0, none⟩), .int .i64 i] w fun e w' => e = .returned (.int .i64 (byI (plS ss) i)) ∧ w' = w := by
  have HH := Lib.hid (mhas_any B base g G sa sc ss i w h)
  by_cases hi : 0 ≤ i ∧ i < (ss.length : Int)
  · obtain ⟨k, x, rfl, hk, hx, hat⟩ := at_in hi.1 hi.2
    have HE := Lib.hid (show byI (plS ss) (k : Int) = x.s.by_ by unfold byI; rw [hat])
    rw [HE.out]
    rw [decide_eq_true hi] at HH
    obtain ⟨b2, o2, rfl, hb2, hc2⟩ := (own_cells h.all.own).1.get (by intro e; have := (st_at hx).1; rw [e] at this; simp at this)
    have c1 := hc2 _ _ (st_at hx).2.1
    rw [← Nat.add_assoc] at c1
    have x0 := (blk_cell (i := 3) h.q rfl).1
    have x1 := heap_lt h.q
    have hk' : (k : Int) < ss.length := hi.2
    clear hc2 hx hat h hi
    go_enter Tryd.func29, Tryd.ntmps29
    go_wp2_with (go_at_call 68; (with_reducible refine HH.out.mono ?_); rintro e w2 ⟨rfl, hw2⟩; rw [hw2]; clear hw2)
    go_ret
    exact ⟨rfl, rfl⟩
  · have HE := Lib.hid (show byI (plS ss) i = -1 by unfold byI; rw [at_out hi])
    rw [HE.out]
    rw [decide_eq_false hi] at HH
    clear hi h
    go_enter Tryd.func29, Tryd.ntmps29
    go_wp2_with (go_at_call 68; (with_reducible refine HH.out.mono ?_); rintro e w2 ⟨rfl, hw2⟩; rw [hw2]; clear hw2)
    go_ret
    exact ⟨rfl, rfl⟩
theorem zeroIntS (w : World) : (zeroValue 3).run Tryd.prog w = .ok (.int .i64 0) w := by kernel_rfl
set_option maxRecDepth 100000 in
set_option maxHeartbeats 4000000 in
theorem mgo_any (B base : Nat) (g : Gr) (G : GrL) (sa : Option Addr) (sc : Nat) (ss : List StL) (i s : Int) (hs1 : -9223372036854775808 ≤ s) (hs2 : s ≤ 9223372036854775807) (w : World) (h : MacAt w B base g G sa sc ss) :
    Calls Tryd.prog 28 #[.pointer (some ⟨B, 0, none⟩), .int .i64 i, .int .i64 s] w fun e w' => e = .returned (.int .i64 (goI (plS ss) i s)) ∧ w' = w := by
  have HH := Lib.hid (mhas_any B base g G sa sc ss i w h)
  by_cases hi : 0 ≤ i ∧ i < (ss.length : Int)
  · obtain ⟨k, x, rfl, hk, hx, hat⟩ := at_in hi.1 hi.2
    have HE := Lib.hid (show goI (plS ss) (k : Int) s = toI x.s s by unfold goI; rw [hat])
    rw [HE.out]
    rw [decide_eq_true hi] at HH
    obtain ⟨b2, o2, rfl, hb2, hc2⟩ := (own_cells h.all.own).1.get (by intro e; have := (st_at hx).1; rw [e] at this; simp at this)
    have c1 := hc2 _ _ (st_at hx).2.2
    rw [← Nat.add_assoc] at c1
    have x0 := (blk_cell (i := 3) h.q rfl).1
    have x1 := heap_lt h.q
    have hk' : (k : Int) < ss.length := hi.2
    obtain ⟨l, hl⟩ := codeI_key (a := s) hs1 hs2
    have hlk := (h.all.map x (List.mem_of_getElem? hx)).2.look key_int codeI_inj Tryd.underlying115 (zeroIntS w) hl true
    unfold codeI mapF at hlk
    clear hc2 hx hat h hi
    cases hto : x.s.to s with
    | some t =>
      rw [hto] at hlk
      simp only [Option.map_some, Option.getD_some, Option.isSome_some, if_true] at hlk
      have HT := Lib.hid (show toI x.s s = (t : Int) by unfold toI; rw [hto])
      rw [HT.out]
      clear hto
      go_enter Tryd.func28, Tryd.ntmps28
      go_wp2_with (go_at_call 68; (with_reducible refine HH.out.mono ?_); rintro e w2 ⟨rfl, hw2⟩; rw [hw2]; clear hw2)
      go_ret
      exact ⟨rfl, rfl⟩
    | none =>
      rw [hto] at hlk
      simp only [Option.map_none, Option.getD_none, Option.isSome_none, if_true] at hlk
      have HT := Lib.hid (show toI x.s s = -1 by unfold toI; rw [hto])
      rw [HT.out]
      clear hto
      go_enter Tryd.func28, Tryd.ntmps28
      go_wp2_with (go_at_call 68; (with_reducible refine HH.out.mono ?_); rintro e w2 ⟨rfl, hw2⟩; rw [hw2]; clear hw2)
      go_ret
      exact ⟨rfl, rfl⟩
  · have HE := Lib.hid (show goI (plS ss) i s = -1 by unfold goI; rw [at_out hi])
    rw [HE.out]
    rw [decide_eq_false hi] at HH
    clear hi h
    go_enter Tryd.func28, Tryd.ntmps28
    go_wp2_with (go_at_call 68; (with_reducible refine HH.out.mono ?_); rintro e w2 ⟨rfl, hw2⟩; rw [hw2]; clear hw2)
    go_ret
    exact ⟨rfl, rfl⟩
end Go.Proofs.YtejjdfmobiegdaaDoor
