/- item: New: walked. item: the laws' own example; items of numbers: walked. item: items of numbers: walked. -/
import Derived.Test.YtejjdfmobiegdaaDoorItL
import Derived.Test.YtejjdfmobiegdaaDoorFirstN
import Derived.Test.YtejjdfmobiegdaaDoorPlay
import Derived.StillTailTactics
set_option linter.unusedVariables false
namespace Go.Proofs.YtejjdfmobiegdaaDoor
open Go.RowKit
open Doc

/-- A maker that is being made. -/
structure MakQ (w : World) (base BM RB OB : Nat) (M : MakR) : Prop where
  q : w.heap[BM]? = some (.cells #[.int .i64 M.terms, .slice M.ra M.rights.length M.rc, .slice M.oa M.of.length M.oc, .int .u64 M.places, M.tb] 130)
  ra : M.ra = some ⟨RB, 0, none⟩
  oa : M.oa = some ⟨OB, 0, none⟩
  rb : w.heap[RB]? = some (.cells (rowVs M.rights).toArray 25)
  ob : w.heap[OB]? = some (.cells (us M.of).toArray 127)
  row : ∀ r ∈ M.rights, w.ownsRow base 3 1 (.slice r.addr r.row.length r.cap) r.row.length (nums r.row) ∧ r.row.length ≤ 6
theorem obj_ne {w : World} {a b : Nat} {c d : Array Value} {s t : TypeId} (ha : w.heap[a]? = some (.cells c s)) (hb : w.heap[b]? = some (.cells d t)) (hst : s ≠ t) : a ≠ b := fun e => by
  rw [e, hb] at ha
  injection ha with ha
  injection ha with _ ha _
  exact hst ha.symm
theorem MakQ.below {w w' : World} {base BM RB OB : Nat} {M : MakR} (h : MakQ w base BM RB OB M) (hb : Below w.heap.size w w') : MakQ w' base BM RB OB M :=
  ⟨(hb.block _ (heap_lt h.q)).trans h.q, h.ra, h.oa, (hb.block _ (heap_lt h.rb)).trans h.rb, (hb.block _ (heap_lt h.ob)).trans h.ob, fun r hr => ⟨own_same (h.row r hr).1 fun k _ hk => hb.block k hk, (h.row r hr).2⟩⟩
theorem MakQ.rowFar {w : World} {base BM RB OB : Nat} {M : MakR} (h : MakQ w base BM RB OB M) {B m : Nat} {v : Value} {c : Array Value} {t : TypeId} (hB : w.heap[B]? = some (.cells c t)) (ht : 3 ≠ t) (r : RowL) (ho : w.ownsRow base 3 1 (.slice r.addr r.row.length r.cap) r.row.length (nums r.row)) : (w.setCell ⟨B, m, none⟩ v).ownsRow base 3 1 (.slice r.addr r.row.length r.cap) r.row.length (nums r.row) :=
  own_same ho fun k hk _ => by
    obtain ⟨_, _, c', hc⟩ := own_block ho hk
    exact Below.heap_setCell _ _ _ _ (obj_ne hc hB ht)
theorem MakQ.setR {w : World} {base BM RB OB : Nat} {M : MakR} (h : MakQ w base BM RB OB M) {j : Nat} {r : RowL} (hj : j < M.rights.length) (ho : w.ownsRow base 3 1 (.slice r.addr r.row.length r.cap) r.row.length (nums r.row)) (h6 : r.row.length ≤ 6) : MakQ (w.setCell ⟨RB, j, none⟩ (.slice r.addr r.row.length r.cap)) base BM RB OB { M with rights := M.rights.set j r } := by
  refine ⟨?_, h.ra, h.oa, ?_, ?_, fun x hx => ?_⟩
  · rw [Below.heap_setCell _ _ _ _ (obj_ne h.q h.rb (by decide)), h.q]
    simp only [List.length_set]
  · rw [heap_set w RB j _ _ _ h.rb (by simp [rowVs, hj])]
    simp only [Array.set!_eq_setIfInBounds]
    rw [List.setIfInBounds_toArray]
    unfold rowVs
    rw [List.map_set]
  · rw [Below.heap_setCell _ _ _ _ (obj_ne h.ob h.rb (by decide)), h.ob]
  · rcases List.mem_or_eq_of_mem_set hx with h1 | rfl
    · exact ⟨h.rowFar h.rb (by decide) x (h.row x h1).1, (h.row x h1).2⟩
    · exact ⟨h.rowFar h.rb (by decide) x ho, h6⟩
theorem MakQ.setO {w : World} {base BM RB OB : Nat} {M : MakR} (h : MakQ w base BM RB OB M) {j v : Nat} (hj : j < M.of.length) : MakQ (w.setCell ⟨OB, j, none⟩ (.int .u64 (v : Int))) base BM RB OB { M with of := M.of.set j v } := by
  refine ⟨?_, h.ra, h.oa, ?_, ?_, fun x hx => ⟨h.rowFar h.ob (by decide) x (h.row x hx).1, (h.row x hx).2⟩⟩
  · rw [Below.heap_setCell _ _ _ _ (obj_ne h.q h.ob (by decide)), h.q]
    simp only [List.length_set]
  · rw [Below.heap_setCell _ _ _ _ (obj_ne h.rb h.ob (by decide)), h.rb]
  · rw [heap_set w OB j _ _ _ h.ob (by simp [us, hj])]
    simp only [Array.set!_eq_setIfInBounds]
    rw [us_set]
theorem MakQ.at {w : World} {base BM RB OB : Nat} {M : MakR} (h : MakQ w base BM RB OB M) : MakAt w BM M where
  q := h.q
  rr := .inr ⟨RB, 0, h.ra, heap_lt h.rb, fun j u hj => by rw [Nat.zero_add]; exact (blk_cell h.rb (by simpa using hj)).1⟩
  row r hr := by
    have ho := (h.row r hr).1
    refine ⟨(own_cells ho).1, (own_cells ho).2, (h.row r hr).2, ?_⟩
    rcases ho.2 with ⟨h1, _⟩ | ⟨g, cap, cur, hv, _, _, _, hmx, _⟩
    · injection h1 with _ _ h1
      omega
    · injection hv with _ _ hv
      rw [hv]
      unfold maxLen at hmx
      omega
  off := .inr ⟨OB, 0, h.oa, heap_lt h.ob, fun j u hj => by rw [Nat.zero_add]; exact (blk_cell h.ob (by simpa [us] using hj)).1⟩
theorem infoRw : (Tryd.prog.info? 25).map (fun i => (i.zero, i.size, i.bytes)) = some (some (.slice none 0 0), 1, 24) := by kernel_rfl
theorem make_rowsM (n : Nat) (hn : n ≤ 1000) (w : World) : (Instr.makeSlice 22 (.int .i64 n) (.int .i64 n)).run Tryd.prog w = .ok (.slice (some ⟨w.heap.size, 0, none⟩) n n) (w.alloc (.cells (rowVs (List.replicate n ⟨none, 0, []⟩)).toArray 25)) := by
  obtain ⟨i, hi, hz, h1, h2⟩ := info_of infoRw
  have hr := run_make (P := Tryd.prog) w 22 25 i (.slice none 0 0) Tryd.underlying22 hi hz .i64 .i64 n n (by omega) (Int.le_refl _) (by rw [h2]; omega) (by omega)
  have e : madeCells (Value.cells (.slice none 0 0)) (n * 1) = (rowVs (List.replicate n ⟨none, 0, []⟩)).toArray := by
    rw [Nat.mul_one]
    apply Array.ext'
    rw [show Value.cells (.slice none 0 0) = #[.slice none 0 0] from rfl, toList_madeCells_one]
    simp [rowVs]
  rw [Int.toNat_natCast, h1, e] at hr
  exact hr
/-- A maker with the first k places of use laid in. -/
structure NewSt (g : Gr) (T : List Int) (k : Nat) (M : MakR) : Prop where
  t : M.terms = g.terms.length
  pl : M.places = ofL T
  rl : M.rights.length = g.prods.length
  ol : M.of.length = g.nons.length
  lt : ∀ x ∈ M.of, x < 18446744073709551616
  r : ∀ j q, g.prods[j]? = some q → (M.rights.getD j ⟨none, 0, []⟩).row = if (j : Int) ∈ T.take k then q.2 else []
  o : ∀ (n : Nat) p, shas (M.of.getD n 0) p = true ↔ ∃ (j : Nat) (q : Int × List Int), p = (j : Int) ∧ (j : Int) ∈ T.take k ∧ g.prods[j]? = some q ∧ q.1 = 100 + (n : Int)
theorem NewSt.first (g : Gr) (T : List Int) (ra oa : Option Addr) (rc oc : Nat) (tb : Value) : NewSt g T 0 ⟨g.terms.length, ra, rc, List.replicate g.prods.length ⟨none, 0, []⟩, oa, oc, zerosF g.nons.length, ofL T, tb⟩ where
  t := rfl
  pl := rfl
  rl := List.length_replicate
  ol := List.length_replicate
  lt x hx := by rw [List.eq_of_mem_replicate hx]; omega
  r j q hq := by
    rw [if_neg (by simp), List.getD_eq_getElem?_getD, List.getElem?_replicate]
    split <;> rfl
  o n p := by
    rw [show (zerosF g.nons.length).getD n 0 = 0 from rep_getD _ _, shas_zero]
    simp
theorem NewSt.step {g : Gr} {T : List Int} {k : Nat} {M : MakR} (h : NewSt g T k M) {j : Nat} {q : Int × List Int} (hk : T[k]? = some (j : Int)) (hq : g.prods[j]? = some q) (hj64 : j < 64) {nn : Nat} (hn : q.1 = 100 + (nn : Int)) (hnn : nn < g.nons.length) {r : RowL} (hr : r.row = q.2) :
    NewSt g T (k + 1) { M with rights := M.rights.set j r, of := M.of.set nn (M.of.getD nn 0 ||| sdig (j : Int)) } where
  t := h.t
  pl := h.pl
  rl := by simp [h.rl]
  ol := by simp [h.ol]
  lt := set_lt h.lt (or_lt _ _ (getD_lt h.lt (by omega) _) (dig_lt _))
  r i u hu := by
    simp only
    rw [List.take_add_one, hk, List.getD_eq_getElem?_getD, List.getElem?_set]
    have hil := (List.getElem?_eq_some_iff.1 hq).1
    by_cases e : j = i
    · subst e
      rw [if_pos rfl, if_pos (by rw [h.rl]; exact hil), if_pos (by simp)]
      rw [hq] at hu
      cases hu
      exact hr
    · rw [if_neg e, ← List.getD_eq_getElem?_getD, h.r i u hu]
      have e2 : ((i : Int) ∈ T.take k ++ (some (j : Int)).toList) ↔ (i : Int) ∈ T.take k := by
        simp only [Option.toList_some, List.mem_append, List.mem_singleton]
        constructor
        · rintro (h1 | h1)
          · exact h1
          · omega
        · exact .inl
      by_cases h2 : (i : Int) ∈ T.take k
      · rw [if_pos h2, if_pos (e2.2 h2)]
      · rw [if_neg h2, if_neg (fun h3 => h2 (e2.1 h3))]
  o n p := by
    simp only
    rw [List.take_add_one, hk]
    simp only [Option.toList_some, List.mem_append, List.mem_singleton]
    rw [getD_set]
    by_cases e : nn = n
    · subst e
      rw [if_pos ⟨rfl, by rw [h.ol]; exact hnn⟩, shas_or _ _ _ (by omega), h.o]
      constructor
      · rintro (⟨i, u, h1, h2, h3, h4⟩ | rfl)
        · exact ⟨i, u, h1, .inl h2, h3, h4⟩
        · exact ⟨j, q, rfl, .inr rfl, hq, hn⟩
      · rintro ⟨i, u, h1, h2 | h2, h3, h4⟩
        · exact .inl ⟨i, u, h1, h2, h3, h4⟩
        · right; omega
    · rw [if_neg (fun h1 => e h1.1), h.o]
      constructor
      · rintro ⟨i, u, h1, h2, h3, h4⟩
        exact ⟨i, u, h1, .inl h2, h3, h4⟩
      · rintro ⟨i, u, h1, h2 | h2, h3, h4⟩
        · exact ⟨i, u, h1, h2, h3, h4⟩
        · have : i = j := by omega
          subst this
          rw [hq] at h3
          cases h3
          omega
/-- A maker of a grammar. -/
structure MakG (g : Gr) (M : MakR) : Prop where
  t : M.terms = g.terms.length
  rl : M.rights.length = g.prods.length
  ol : M.of.length = g.nons.length
  plt : M.places < 18446744073709551616
  lt : ∀ x ∈ M.of, x < 18446744073709551616
  pl : ∀ p, shas M.places p = true ↔ ∃ (j : Nat) (q : Int × List Int), p = (j : Int) ∧ g.prods[j]? = some q ∧ Usable g q
  rt : ∀ j q, g.prods[j]? = some q → Usable g q → (M.rights.getD j ⟨none, 0, []⟩).row = q.2
  rr : ∀ r ∈ M.rights, r.row = [] ∨ ∃ q ∈ g.prods, r.row = q.2
  o : ∀ (n : Nat) p, shas (M.of.getD n 0) p = true ↔ ∃ (j : Nat) (q : Int × List Int), p = (j : Int) ∧ g.prods[j]? = some q ∧ Usable g q ∧ q.1 = 100 + (n : Int)
theorem NewSt.done {g : Gr} {SF : Nat} {M : MakR} (hc : CheckG g) (hS : SetIs SF (Fru g)) (h : NewSt g (trimF SF g.prods 0) (trimF SF g.prods 0).length M) : MakG g M := by
  have hT : ∀ j : Nat, (j : Int) ∈ (trimF SF g.prods 0).take (trimF SF g.prods 0).length ↔ ∃ q, g.prods[j]? = some q ∧ Usable g q := fun j => by
    rw [List.take_length, trimF_mem]
    constructor
    · rintro ⟨i, q, h1, h2, h3⟩
      have : i = j := by omega
      subst this
      exact ⟨q, h1, (usable_bear (nums_of_check hc) hS (List.mem_of_getElem? h1)).1 h2⟩
    · rintro ⟨q, h1, h2⟩
      exact ⟨j, q, h1, (usable_bear (nums_of_check hc) hS (List.mem_of_getElem? h1)).2 h2, by omega⟩
  refine ⟨h.t, h.rl, h.ol, by rw [h.pl]; exact ofL_lt _, h.lt, fun p => ?_, fun j q hq hu => ?_, fun r hr => ?_, fun n p => ?_⟩
  · rw [h.pl]
    constructor
    · intro hp
      obtain ⟨k, rfl, hk⟩ := shas_mem.1 hp
      have hk' := (mem_bitsN.1 hk).2
      rw [bit_ofL, decide_eq_true_eq] at hk'
      have := hk'.1
      rw [trimF_mem] at this
      obtain ⟨i, q, h1, h2, h3⟩ := this
      have : i = k := by omega
      subst this
      exact ⟨i, q, rfl, h1, (usable_bear (nums_of_check hc) hS (List.mem_of_getElem? h1)).1 h2⟩
    · rintro ⟨j, q, rfl, h1, h2⟩
      rw [trim_has SF g.prods (by have := hc.p24; omega) h1]
      exact (usable_bear (nums_of_check hc) hS (List.mem_of_getElem? h1)).2 h2
  · rw [h.r j q hq, if_pos ((hT j).2 ⟨q, hq, hu⟩)]
  · obtain ⟨i, hi, e⟩ := List.mem_iff_getElem.1 hr
    have hi' : i < g.prods.length := by rw [← h.rl]; exact hi
    have := h.r i (g.prods[i]) (List.getElem?_eq_getElem hi')
    rw [List.getD_eq_getElem?_getD, List.getElem?_eq_getElem hi, Option.getD_some, e] at this
    split at this
    · exact .inr ⟨_, List.getElem_mem hi', this⟩
    · exact .inl this
  · rw [h.o]
    constructor
    · rintro ⟨j, q, h1, h2, h3, h4⟩
      obtain ⟨q', h5, h6⟩ := (hT j).1 h2
      rw [h3] at h5
      cases h5
      exact ⟨j, q, h1, h3, h6, h4⟩
    · rintro ⟨j, q, h1, h2, h3, h4⟩
      exact ⟨j, q, h1, (hT j).2 ⟨q, h2, h3⟩, h2, h4⟩
theorem MakG.ok {g : Gr} {M : MakR} {F : List Nat} (hc : CheckG g) (h : MakG g M) (hF : FirstIs g F) : MakW M F where
  ok := ⟨by rw [h.t]; exact hc.t8, by rw [h.rl]; exact hc.p24, h.plt, fun p hp => by
    obtain ⟨j, q, rfl, h1, _⟩ := (h.pl p).1 hp
    have := (List.getElem?_eq_some_iff.1 h1).1
    rw [h.rl]
    omega, by rw [h.ol]; exact hc.n8, h.lt⟩
  r6 r hr := by
    rcases h.rr r hr with h1 | ⟨q, h1, h2⟩
    · rw [h1]; simp
    · rw [h2]; exact (hc.pv q h1).2.1
  sy r hr s hs := by
    rcases h.rr r hr with h1 | ⟨q, h1, h2⟩
    · rw [h1] at hs; cases hs
    · rw [h2] at hs
      have := (hc.pv q h1).2.2 s hs
      have ht := hc.t8
      have hn := hc.n1
      unfold symOk at this
      rw [h.ol]
      omega
  o1 := by rw [h.ol]; exact hc.n1
  ofp n p hp := by
    obtain ⟨j, q, h1, h2, h3, _⟩ := (h.o n p).1 hp
    exact (h.pl p).2 ⟨j, q, h1, h2, h3⟩
  low := by rw [h.t]; exact hF.low
def mak0 (t np nn pl : Nat) (tb : Value) (RB OB : Nat) : MakR := ⟨t, some ⟨RB, 0, none⟩, np, List.replicate np ⟨none, 0, []⟩, some ⟨OB, 0, none⟩, nn, zerosF nn, pl, tb⟩
theorem mak0_at {w : World} {base BM RB OB t np nn pl : Nat} {tb : Value} (hq : w.heap[BM]? = some (.cells #[.int .i64 t, .slice (some ⟨RB, 0, none⟩) np np, .slice (some ⟨OB, 0, none⟩) nn nn, .int .u64 pl, tb] 130)) (hr : w.heap[RB]? = some (.cells (rowVs (List.replicate np ⟨none, 0, []⟩)).toArray 25)) (ho : w.heap[OB]? = some (.cells (us (zerosF nn)).toArray 127)) : MakQ w base BM RB OB (mak0 t np nn pl tb RB OB) where
  q := by
    rw [hq]
    unfold mak0 zerosF
    simp only [List.length_replicate]
  ra := rfl
  oa := rfl
  rb := hr
  ob := ho
  row r hr := by
    rw [List.eq_of_mem_replicate hr]
    exact ⟨World.ownsRow_nil _ _ _ _, by simp⟩
theorem three_alloc (w : World) (o0 o1 o2 : Obj) : Below w.heap.size w (((w.alloc o0).alloc o1).alloc o2).drew ∧ (((w.alloc o0).alloc o1).alloc o2).drew.heap[w.heap.size]? = some o0 ∧ (((w.alloc o0).alloc o1).alloc o2).drew.heap[w.heap.size + 1]? = some o1 ∧ (((w.alloc o0).alloc o1).alloc o2).drew.heap[w.heap.size + 1 + 1]? = some o2 := by
  refine ⟨((((Below.refl _ _).alloc (Nat.le_refl _) _).alloc (by simp) _).alloc (by simp <;> omega) _).drew, ?_, ?_, ?_⟩
  · exact (Below.heap_alloc _ _ _ (by simp <;> omega)).trans ((Below.heap_alloc _ _ _ (by simp)).trans (heap_alloc_new w o0))
  · have := heap_alloc_new (w.alloc o0) o1
    rw [show (w.alloc o0).heap.size = w.heap.size + 1 by simp] at this
    exact (Below.heap_alloc _ _ _ (by simp)).trans this
  · have := heap_alloc_new ((w.alloc o0).alloc o1) o2
    rw [show ((w.alloc o0).alloc o1).heap.size = w.heap.size + 1 + 1 by simp] at this
    exact this
/-- What New answers, of a grammar that may be. -/
def NewTo (g : Gr) (w : World) (e : Ending) (w' : World) : Prop := Below w.heap.size w w' ∧ ((Fru g 100 ∧ ∃ (BM BT bt : Nat) (M : MakR) (F : List Nat), e = .returned (.tuple #[.pointer (some ⟨BM, 0, none⟩), .int .i64 0]) ∧ MakG g M ∧ FirstIs g F ∧ MakT w' BM M BT bt F) ∨ (¬ Fru g 100 ∧ e = .returned (.tuple #[.pointer none, .int .i64 6])))
set_option maxRecDepth 100000 in
set_option maxHeartbeats 8000000 in
theorem inew_any (v : Value) (g : Gr) (w : World) (hg : GramAt w v g) (hck : CheckG g) :
    Calls Tryd.prog 36 #[v] w (NewTo g w) := by
  have hg0 := hg
  obtain ⟨a1, a2, a3, c1, c2, c3, ls, rfl, hp, k1, k2, k3, k4, k5, k6, k7⟩ := hg
  have hS : Below w.heap.size w (w.alloc (.cells #[.slice a1 g.terms.length c1, .slice a2 g.nons.length c2, .slice a3 ls.length c3] 29)) := (Below.refl _ _).alloc (Nat.le_refl _) _
  have hT := trim_one _ g _ (hg0.below hS) hck
  have hQ := heap_alloc_new w (.cells #[.slice a1 g.terms.length c1, .slice a2 g.nons.length c2, .slice a3 ls.length c3] 29)
  have HNW := Lib.hid fun (W : World) (hW : Below w.heap.size w W) => fnew_any _ g W (hg0.below hW) hck
  unfold NewEnd at HNW
  have x0 := (blk_cell (i := 0) (u := .slice a1 g.terms.length c1) hQ rfl).1
  have x1 := (blk_cell (i := 1) (u := .slice a2 g.nons.length c2) hQ rfl).1
  have x2 := (blk_cell (i := 2) (u := .slice a3 ls.length c3) hQ rfl).1
  have H3 := Lib.hid (k3.below hS)
  have H4 := Lib.hid (fun p hp => (k4 p hp).below hS)
  have HQ := Lib.hid hQ
  have HP := Lib.hid hp
  have HS := Lib.hid hS
  have HT := Lib.hid hT
  have HCK := Lib.hid hck
  have ht8 := hck.t8
  have hn8 := hck.n8
  have hn1 := hck.n1
  have hz1 : w.heap.size < (w.alloc (.cells #[.slice a1 g.terms.length c1, .slice a2 g.nons.length c2, .slice a3 ls.length c3] 29)).heap.size := heap_lt hQ
  clear hg0 hp k1 k2 k3 k4 hS hT hQ hck
  go_enter Tryd.func36, Tryd.ntmps36
  go_upto_region 1 with fail
  generalize w.alloc (.cells #[.slice a1 g.terms.length c1, .slice a2 g.nons.length c2, .slice a3 ls.length c3] 29) = S at *
  generalize hB0 : w.heap.size = B0 at *
  have HB0 := Lib.hid hB0
  clear hB0
  have HX := Lib.hid fun (W : World) (hW : Below S.heap.size S W) => (⟨(hW.block B0 hz1).trans HQ.out, Nat.lt_of_lt_of_le hz1 hW.size⟩ : W.heap[B0]? = some (.cells #[.slice a1 g.terms.length c1, .slice a2 g.nons.length c2, .slice a3 ls.length c3] 29) ∧ B0 < W.heap.size)
  clear HQ
  go_upto_region 2 with (go_at_call 71; refine HT.out.mono ?_; rintro e w2 ⟨hb2, SF, a, c, l, er, rfl, hSF, hTO, hlc, hll2⟩)
  obtain ⟨hq2, hl2⟩ := HX.out _ hb2
  have HBW := Lib.hid (show Below B0 w w2 from HS.out.trans (hb2.mono (by rw [← HB0.out]; exact HS.out.size)))
  have HLC := Lib.hid hlc
  have HSF := Lib.hid hSF
  have HF0 := Lib.hid (show shas SF 0 = true ↔ Fru g 100 from ⟨fun h => ((hSF.has 100).1 (by simpa using h)).2.2, fun h => by simpa using (hSF.has 100).2 ⟨by omega, by omega, h⟩⟩)
  have HQ2 := Lib.hid hq2
  have H32 := Lib.hid (H3.out.below hb2)
  have H42 := Lib.hid (fun p hp => (H4.out p hp).below hb2)
  clear hlc hSF hb2 H3 H4 HT HX x0 x1 x2 hz1
  rcases hTO with ⟨h1, rfl, rfl⟩ | ⟨h1, rfl, rfl⟩
  · have HFR := Lib.hid (HF0.out.1 h1)
    have hrange := fun k (hk : k ∈ trimF SF g.prods 0) => (trimF_mem SF g.prods 0 k).1 hk
    have HRA := Lib.hid hrange
    have d0 := (blk_cell (i := 0) (u := .slice a1 g.terms.length c1) hq2 rfl).1
    have d1 := (blk_cell (i := 1) (u := .slice a2 g.nons.length c2) hq2 rfl).1
    have d2 := (blk_cell (i := 2) (u := .slice a3 ls.length c3) hq2 rfl).1
    have hpl : ls.length = g.prods.length := by rw [← HP.out, List.length_map]
    have HPL := Lib.hid hpl
    have hp24 := HCK.out.p24
    have hll : ls.length ≤ 24 := by omega
    clear hrange h1 hq2 hp24 hpl
    have HDN := Lib.hid fun (M : MakR) (h : NewSt g (trimF SF g.prods 0) (trimF SF g.prods 0).length M) => h.done HCK.out HSF.out
    generalize hTT : trimF SF g.prods 0 = T at *
    clear hTT
    have HN2 := Lib.hid (HNW.out w2 HBW.out)
    go_upto_region 5 with (go_at_call 72; refine HN2.out.mono ?_; rintro e w3 ⟨he, hb3⟩; rcases he with ⟨hfr, BT, bt, F, rfl, hTB, hBT1, hBT2⟩ | ⟨hfr, _⟩; rotate_left; exact absurd HFR.out hfr)
    have HTB := Lib.hid hTB
    have hq3 := (hb3.block B0 hl2).trans HQ2.out
    have HQ3 := Lib.hid hq3
    have hl3 : B0 < w3.heap.size := heap_lt hq3
    have HW3 := Lib.hid (show Below B0 w w3 from HBW.out.trans (hb3.mono (by rw [← HB0.out]; exact HBW.out.size)))
    have HLC3 := Lib.hid (HLC.out.below hb3)
    have H33 := Lib.hid (H32.out.below hb3)
    have H43 := Lib.hid (fun p hp => (H42.out p hp).below hb3)
    have e0 := (blk_cell (i := 0) (u := .slice a1 g.terms.length c1) hq3 rfl).1
    have e1 := (blk_cell (i := 1) (u := .slice a2 g.nons.length c2) hq3 rfl).1
    have e2 := (blk_cell (i := 2) (u := .slice a3 ls.length c3) hq3 rfl).1
    have HOF := Lib.hid fun (W : World) (hW : Below w3.heap.size w3 W) => set_of a c T W (HLC3.out.below hW) (by omega)
    have hmk1 := fun W => make_rowsM ls.length (by omega) W
    have hmk2 := fun W => make_sets g.nons.length (by omega) W
    clear hTB hb3 hq3 d0 d1 d2 hl2 HQ2 H32 H42 HBW HLC HN2 HNW hBT1 hBT2 hfr
    go_cut [8] from 25 to 40 (fun mv wx => ∃ (BM RB OB : Nat) (M : MakR), mv = .pointer (some ⟨BM, 0, none⟩) ∧ Hid (MakQ wx w3.heap.size BM RB OB M) ∧ Hid (M.tb = .pointer (some ⟨BT, 0, none⟩)) ∧ Hid (NewSt g T 0 M) ∧ Hid (Below w3.heap.size w3 wx) ∧ Hid (w3.heap.size ≤ BM ∧ w3.heap.size ≤ RB ∧ w3.heap.size ≤ OB))
    case first =>
      have HCX := Lib.hid fun (W : World) (hW : Below w3.heap.size w3 W) => (⟨⟨(blk_cell (i := 0) (u := .slice a1 g.terms.length c1) ((hW.block B0 hl3).trans HQ3.out) rfl).1, (blk_cell (i := 1) (u := .slice a2 g.nons.length c2) ((hW.block B0 hl3).trans HQ3.out) rfl).1, (blk_cell (i := 2) (u := .slice a3 ls.length c3) ((hW.block B0 hl3).trans HQ3.out) rfl).1⟩, Nat.lt_of_lt_of_le hl3 hW.size⟩ : (W.cell? ⟨B0, 0, none⟩ = some (.slice a1 g.terms.length c1) ∧ W.cell? ⟨B0, 1, none⟩ = some (.slice a2 g.nons.length c2) ∧ W.cell? ⟨B0, 2, none⟩ = some (.slice a3 ls.length c3)) ∧ B0 < W.heap.size)
      have HBS : Hid (Below w3.heap.size w3 w3) := Lib.hid (Below.refl _ _)
      have HKX : Hid (∀ W W' : World, Hid (Below w3.heap.size w3 W) → Below W.heap.size W W' → ((W'.cell? ⟨B0, 0, none⟩ = some (.slice a1 g.terms.length c1) ∧ W'.cell? ⟨B0, 1, none⟩ = some (.slice a2 g.nons.length c2) ∧ W'.cell? ⟨B0, 2, none⟩ = some (.slice a3 ls.length c3)) ∧ B0 < W'.heap.size) ∧ Hid (Below w3.heap.size w3 W')) := Lib.hid fun W W' h k => by
        have hb := h.out.trans (k.mono h.out.size)
        exact ⟨HCX.out W' hb, Lib.hid hb⟩
      have HN0 := Lib.hid (show ∀ RB OB, Hid (NewSt g T 0 (mak0 g.terms.length ls.length g.nons.length (ofL T) (.pointer (some ⟨BT, 0, none⟩)) RB OB)) from fun RB OB => Lib.hid (by rw [HPL.out]; exact NewSt.first g T _ _ _ _ _))
      go_upto_region 5 with fail
      go_region_held3 (fun w' => ((w'.cell? ⟨B0, 0, none⟩ = some (.slice a1 g.terms.length c1) ∧ w'.cell? ⟨B0, 1, none⟩ = some (.slice a2 g.nons.length c2) ∧ w'.cell? ⟨B0, 2, none⟩ = some (.slice a3 ls.length c3)) ∧ B0 < w'.heap.size) ∧ Hid (Below w3.heap.size w3 w'))
        (first | assumption | (exact HKX.out _ _ HBS (Below.refl _ _).drew) | (exact HKX.out _ _ (And.right (show _ ∧ Hid (Below w3.heap.size w3 _) by assumption)) ((Below.refl _ _).alloc (Nat.le_refl _) _)) | (exact HKX.out _ _ (And.right (show _ ∧ Hid (Below w3.heap.size w3 _) by assumption)) (by assumption)) | go_keep)
        (first | (go_at_call 73; (with_reducible refine (HOF.out _ (Hid.out (And.right (show _ ∧ Hid (Below w3.heap.size w3 _) by assumption)))).mono ?_); rintro e w5 ⟨rfl, hw5⟩; obtain rfl := hw5.symm))
      all_goals
        go_wp2
        go_meet
        case rel =>
          first
            | exact ⟨_, _, _, mak0 g.terms.length ls.length g.nons.length (ofL T) (.pointer (some ⟨BT, 0, none⟩)) w3.heap.size (w3.heap.size + 1), rfl, Lib.hid (mak0_at (three_alloc w3 _ _ _).2.2.2 (three_alloc w3 _ _ _).2.1 (three_alloc w3 _ _ _).2.2.1), Lib.hid rfl, HN0.out _ _, Lib.hid (three_alloc w3 _ _ _).1, Lib.hid (by omega)⟩
            | exact ⟨_, _, _, mak0 g.terms.length ls.length g.nons.length (ofL T) (.pointer (some ⟨BT, 0, none⟩)) (w3.heap.size + 1) w3.heap.size, rfl, Lib.hid (mak0_at (three_alloc w3 _ _ _).2.2.2 (three_alloc w3 _ _ _).2.2.1 (three_alloc w3 _ _ _).2.1), Lib.hid rfl, HN0.out _ _, Lib.hid (three_alloc w3 _ _ _).1, Lib.hid (by omega)⟩
    case rest =>
    obtain ⟨BM, RB, OB, M, rfl, HM, HMT, HNS, HB4, HGE⟩ := hcut
    rename World => w4
    have hTl : T.length ≤ 1000000 := hll2
    go_wp2_with fail
    go_loopw [43] (fun i wr => ∃ k : Nat, k ≤ T.length ∧ i = .int .i64 k ∧ ∃ M : MakR, Hid (MakQ wr w3.heap.size BM RB OB M) ∧ Hid (M.tb = .pointer (some ⟨BT, 0, none⟩)) ∧ Hid (NewSt g T k M) ∧ Hid (Below w3.heap.size w3 wr)) (fun i _ => T.length - (intOf i).toNat)
    case atStart => exact ⟨0, by omega, rfl, M, HM, HMT, HNS, HB4⟩
    case round =>
      clear HM HMT HNS HB4 e0 e1 e2 hmk1 hmk2 HOF
      obtain ⟨k, hk, rfl, M1, HM1, HMT1, HNS1, HW1⟩ := hrel
      rename World => w5
      by_cases hlt : k < T.length
      · have hlt' : (k : Int) < T.length := by omega
        obtain ⟨x, hx⟩ : ∃ x, T[k]? = some x := ⟨_, List.getElem?_eq_getElem hlt⟩
        obtain ⟨j, q, hq, _, hxj⟩ := HRA.out x (List.mem_of_getElem? hx)
        obtain rfl : x = (j : Int) := by omega
        clear hxj
        have hjp := (List.getElem?_eq_some_iff.1 hq).1
        have hjl : j < ls.length := by rw [HPL.out]; exact hjp
        obtain ⟨lp, hlp⟩ : ∃ lp, ls[j]? = some lp := ⟨_, List.getElem?_eq_getElem hjl⟩
        have hpq : lp.plain = q := by
          have := HP.out
          rw [← this, List.getElem?_map, hlp] at hq
          exact Option.some.inj hq
        have hpv := HCK.out.pv q (List.mem_of_getElem? hq)
        rw [← hpq] at hpv
        have hpv1 : 100 ≤ lp.left ∧ lp.left < 100 + (g.nons.length : Int) := hpv.1
        have hpv2 : lp.right.length ≤ 6 := hpv.2.1
        obtain ⟨nn, hnn⟩ : ∃ nn : Nat, lp.left = 100 + (nn : Int) := ⟨(lp.left - 100).toNat, by omega⟩
        have hnn2 : nn < g.nons.length := by omega
        have HX := Lib.hid hx
        have HQJ := Lib.hid hq
        have HPQ := Lib.hid hpq
        obtain ⟨b, o, rfl, hb, hc⟩ := (HLC3.out.below HW1.out).get (by unfold nums; intro e; rw [List.map_eq_nil_iff] at e; rw [e] at hlt; simp at hlt)
        have c0 := hc k (.int .i64 (j : Int)) (nums_at hx)
        obtain ⟨b3, o3, rfl, hb3, hc3⟩ := (H33.out.below HW1.out).get (by intro e; have := (lays_at ls j lp hlp).1; rw [e] at this; simp at this)
        have c1 := hc3 _ _ (lays_at ls j lp hlp).1
        have c2 := hc3 _ _ (lays_at ls j lp hlp).2
        rw [← Nat.add_assoc] at c2
        have hq5 := (HW1.out.block B0 hl3).trans HQ3.out
        have c3 := (blk_cell (i := 2) (u := .slice (some ⟨b3, o3, none⟩) ls.length _) hq5 rfl).1
        have c4 := heap_lt hq5
        have hjl' : (j : Int) < ls.length := by omega
        have HCR := Lib.hid (H43.out lp (List.mem_of_getElem? hlp))
        have HNN := Lib.hid (show lp.addr = none → lp.right = [] from fun e => by
          rcases HCR.out with h0 | ⟨b, o, h0, _⟩
          · unfold nums at h0; rwa [List.map_eq_nil_iff] at h0
          · rw [e] at h0; cases h0)
        clear hc hc3 hq5 hx hq hlp hpq hpv
        obtain ⟨left, right, addr, cap⟩ := lp
        simp only at *
        subst hnn
        have HRL := Lib.hid HNS1.out.rl
        have HOL := Lib.hid HNS1.out.ol
        have hA : Below w5.heap.size w5 (w5.alloc (.cells #[.int .i64 (100 + (nn : Int)), .slice addr right.length cap] 68)) := (Below.refl _ _).alloc (Nat.le_refl _) _
        have HWA := Lib.hid (HW1.out.trans (hA.mono HW1.out.size))
        have HMA := Lib.hid (HM1.out.below hA)
        have HQA := Lib.hid (heap_alloc_new w5 (.cells #[.int .i64 (100 + (nn : Int)), .slice addr right.length cap] 68))
        have HBZ := Lib.hid HW1.out.size
        clear hA
        go_upto_region 10 with fail
        clear c0 c1 c2 c3 c4
        generalize w5.alloc (.cells #[.int .i64 (100 + (nn : Int)), .slice addr right.length cap] 68) = A at *
        generalize w5.heap.size = BI at *
        have y0 := (blk_cell (i := 1) HMA.out.q rfl).1
        have y1 := heap_lt HMA.out.q
        rw [HMA.out.ra] at y0
        have y2 := (blk_cell (i := 1) HQA.out rfl).1
        have y3 := heap_lt HQA.out
        have HCL := Lib.hid fun (W : World) (hW : Below A.heap.size A W) => cloneI_any addr cap right W (HCR.out.below (HWA.out.trans (hW.mono HWA.out.size))) (by omega) HNN.out
        have hjr : j < M1.rights.length := by rw [HRL.out]; omega
        have hjr' : (j : Int) < M1.rights.length := by omega
        have HF6 := Lib.hid fun (W : World) (hW : Below A.heap.size A W) => (show (W.cell? ⟨BM, 1, none⟩ = some (.slice (some ⟨RB, 0, none⟩) M1.rights.length M1.rc) ∧ BM < W.heap.size) ∧ (W.cell? ⟨BI, 1, none⟩ = some (.slice addr right.length cap) ∧ BI < W.heap.size) ∧ (∃ u, W.cell? ⟨RB, j, none⟩ = some u) ∧ W.frozen? ⟨RB, j, none⟩ = false ∧ RB < W.heap.size from by
          have hm := HMA.out.below hW
          have hq := (hW.block BI (heap_lt HQA.out)).trans HQA.out
          refine ⟨⟨by rw [← hm.ra]; exact (blk_cell (i := 1) hm.q rfl).1, heap_lt hm.q⟩, ⟨(blk_cell (i := 1) hq rfl).1, heap_lt hq⟩, ?_⟩
          obtain ⟨r, hr⟩ : ∃ r, M1.rights[j]? = some r := ⟨_, List.getElem?_eq_getElem hjr⟩
          have := blk_cell (i := j) hm.rb (by rw [List.getElem?_toArray]; exact rowVs_at hr)
          exact ⟨⟨_, this.1⟩, this.2, heap_lt hm.rb⟩)
        go_cut [60] from 52 to 60 (fun _ wx => ∃ (a6 : Option Addr) (c6 : Nat), Hid (MakQ wx w3.heap.size BM RB OB { M1 with rights := M1.rights.set j ⟨a6, c6, right⟩ }) ∧ Hid (wx.heap[BI]? = some (.cells #[.int .i64 (100 + (nn : Int)), .slice addr right.length cap] 68)) ∧ Hid (Below w3.heap.size w3 wx))
        case first =>
          go_region_with (go_at_call 74; refine (HCL.out _ (by first | exact Below.refl _ _ | exact (Below.refl _ _).drew)).mono ?_; rintro e w6 ⟨a6, c6, rfl, ho6, hb6⟩; obtain ⟨⟨z0, z1⟩, ⟨z2, z3⟩, ⟨zu, z4⟩, z5, z6⟩ := HF6.out w6 (by first | exact hb6 | exact (Below.refl _ _).drew.trans hb6))
          all_goals
            have hb7 : Below A.heap.size A w6 := by first | exact hb6 | exact (Below.refl _ _).drew.trans hb6
            have HM7 := Lib.hid (MakQ.setR (HMA.out.below hb7) (j := j) (r := ⟨a6, c6, right⟩) hjr (own_base ho6 (Nat.le_trans HWA.out.size (by first | exact Nat.le_refl _ | exact (Below.refl A.heap.size A).drew.size))) hpv2)
            have HQ7 := Lib.hid (show (w6.setCell ⟨RB, j, none⟩ (.slice a6 right.length c6)).heap[BI]? = _ from (Below.heap_setCell _ _ _ _ (obj_ne ((hb7.block BI (heap_lt HQA.out)).trans HQA.out) (HMA.out.below hb7).rb (by decide))).trans ((hb7.block BI (heap_lt HQA.out)).trans HQA.out))
            have HW7 := Lib.hid ((HWA.out.trans (hb7.mono HWA.out.size)).setCell (p := ⟨RB, j, none⟩) HGE.out.2.1 (.slice a6 right.length c6))
            clear ho6 hb6 hb7
            go_wp2
            go_meet
            case rel => exact ⟨a6, c6, HM7, HQ7, HW7⟩
        case rest =>
        obtain ⟨a6, c6, HM7, HQ7, HW7⟩ := hcut
        rename World => w7
        clear y0 y1 y2 y3 HF6 HCL HMA HQA HWA
        generalize hM2 : ({ M1 with rights := M1.rights.set j ⟨a6, c6, right⟩ } : MakR) = M2 at *
        have HOF2 := Lib.hid (show M2.of = M1.of by rw [← hM2])
        have hnl : nn < M2.of.length := by rw [HOF2.out, HOL.out]; exact hnn2
        have hnl' : (nn : Int) < M2.of.length := by omega
        have hsv : M2.of.getD nn 0 < 18446744073709551616 := by rw [HOF2.out]; exact getD_lt HNS1.out.lt (by omega) _
        have HWI := Lib.hid fun W => with_any (M2.of.getD nn 0) (j : Int) hsv W
        have HM8 := Lib.hid (HM7.out.setO (v := M2.of.getD nn 0 ||| sdig (j : Int)) hnl)
        have y0 := (blk_cell (i := 2) HM7.out.q rfl).1
        have y1 := heap_lt HM7.out.q
        rw [HM7.out.oa] at y0
        have y2 := (blk_cell (i := 0) HQ7.out rfl).1
        have y3 := heap_lt HQ7.out
        obtain ⟨y4, y5⟩ := blk_cell (i := nn) (u := .int .u64 ((M2.of.getD nn 0 : Nat) : Int)) HM7.out.ob (by rw [List.getElem?_toArray]; unfold us; rw [List.getElem?_map, List.getElem?_eq_getElem hnl, List.getD_eq_getElem?_getD, List.getElem?_eq_getElem hnl]; rfl)
        have y6 := heap_lt HM7.out.ob
        have hwn : IntKind.i64.wrap (100 + (nn : Int) - 100) = (nn : Int) := by rw [show 100 + (nn : Int) - 100 = (nn : Int) by omega]; exact IntWalk.i64_in _ (by omega)
        have HNS2 := Lib.hid (show NewSt g T (k + 1) { M2 with of := M2.of.set nn (M2.of.getD nn 0 ||| sdig (j : Int)) } from by
          rw [← hM2]
          exact HNS1.out.step HX.out HQJ.out (by have := (List.getElem?_eq_some_iff.1 HQJ.out).1; have := HCK.out.p24; omega) (by rw [← HPQ.out]; rfl) hnn2 (by rw [← HPQ.out]; rfl))
        have HMT2 := Lib.hid (show M2.tb = .pointer (some ⟨BT, 0, none⟩) by rw [← hM2]; exact HMT1.out)
        clear hM2 hsv
        generalize M2.of.getD nn 0 = sv at *
        generalize hnv : sv ||| sdig (j : Int) = nv at *
        clear hnv
        go_upto_region 11 with fail
        refine wp_region_still_tail 18 (by kernel_rfl) (by kernel_rfl) ?_
        simp only [List.take_succ_cons, List.take_zero, List.drop_succ_cons, List.drop_zero]
        repeat still_step
        still_call (HWI.out _)
        repeat still_step
        refine wpStill_nil ?_
        change wpList _ _ _ _ _ w7.drew
        have HM9 := Lib.hid (HM7.out.below (Below.refl w7.heap.size w7).drew)
        have HW9 := Lib.hid HW7.out.drew
        clear y0 y1 y2 y3 y4 y5 y6 HM8 HWI
        generalize w7.drew = w9 at *
        have HM10 := Lib.hid (HM9.out.setO (v := nv) hnl)
        have HW10 := Lib.hid (HW9.out.setCell (p := ⟨OB, nn, none⟩) HGE.out.2.2 (.int .u64 (nv : Int)))
        obtain ⟨ov, hov⟩ : ∃ ov, M2.of[nn]? = some ov := ⟨_, List.getElem?_eq_getElem hnl⟩
        obtain ⟨y4, y5⟩ := blk_cell (i := nn) (u := .int .u64 ((ov : Nat) : Int)) HM9.out.ob (by rw [List.getElem?_toArray]; unfold us; rw [List.getElem?_map, hov]; rfl)
        have y6 := heap_lt HM9.out.ob
        clear hov
        go_wp2
        go_roundw
        case rel => exact ⟨k + 1, by omega, by go_num, _, HM10, HMT2, HNS2, HW10⟩
        case measure => simp [intOf]; omega
      · have hkT : k = T.length := by omega
        have hge : ¬ (k : Int) < T.length := by omega
        rw [hkT] at HNS1
        have HMG := Lib.hid (HDN.out M1 HNS1.out)
        have HEND := Lib.hid (show NewTo g w (.returned (.tuple #[.pointer (some ⟨BM, 0, none⟩), .int .i64 0])) w5 from ⟨by rw [HB0.out]; exact HW3.out.trans (HW1.out.mono (by rw [← HB0.out]; exact HW3.out.size)), .inl ⟨HFR.out, BM, BT, bt, M1, F, rfl, HMG.out, HTB.out.is HCK.out, ⟨HM1.out.at, HMT1.out, by rw [HMG.out.t]; exact (HTB.out.below HW1.out).at_, HMG.out.ok HCK.out (HTB.out.is HCK.out), by rw [(HTB.out.is HCK.out).len]; omega⟩⟩⟩)
        clear hkT
        go_wp2
        go_ret2
        exact HEND.out
  · have HFR := Lib.hid (show ¬ Fru g 100 from fun h => by have := HF0.out.2 h; rw [h1] at this; cases this)
    go_wp2
    go_ret2
    exact ⟨by rw [HB0.out]; exact HBW.out, .inr ⟨HFR.out, rfl⟩⟩
end Go.Proofs.YtejjdfmobiegdaaDoor

set_option linter.unusedVariables false
namespace Go.Proofs.YtejjdfmobiegdaaDoor
open Go.RowKit
open Doc

def wg11 : Gr := ⟨[[97]], [[83]], [(100, [1])]⟩
theorem wg11_parse : parse (textsL.getD ((0 : Int) % 17).toNat []) = .ok wg11 := by decide +kernel
theorem wg11_check : CheckG wg11 := (chk_iff wg11).1 (by decide +kernel)
theorem wg11_fru : Fru wg11 100 := Fru.mk (100, [1]) (by simp [wg11]) (by
  intro s hs h
  simp only [List.mem_singleton] at hs
  omega)
theorem wg11_use : Usable wg11 (100, [1]) := by
  intro s hs h
  simp only [List.mem_singleton] at hs
  omega
theorem shas_one (a : Int) : shas 1 a = true ↔ a = 0 := by
  rw [has_eq, one_bit, Bool.and_eq_true, decide_eq_true_iff, decide_eq_true_iff]
  omega
theorem ahd_own (M : MakR) (F : List Nat) : (mkP M F).ahd [] 0 = 1 := by
  show goOnF (ofF M.terms F [] 1) (aheadS M.terms 0) = 1
  rw [show ofF M.terms F [] 1 = 1 by unfold ofF; rfl]
  have : aheadS M.terms 0 = 1 := by
    unfold aheadS
    rw [if_pos (by omega)]; rfl
  rw [this]
  decide
theorem right_own (M : MakR) : rightM M (-1) = some [100] := by unfold rightM; rw [if_pos rfl]
theorem isIt_own (M : MakR) : isIt M ownI = true := by
  unfold isIt
  rw [show ownI.1 = -1 from rfl, right_own]
  unfold followM
  rfl
theorem rest_own (M : MakR) : restM M ownI = [100] := by
  unfold restM
  rw [if_pos (isIt_own M), show ownI.1 = -1 from rfl, right_own]
  rfl
/-- The first items of the example. -/
theorem wg11_begin {M : MakR} {F : List Nat} (hM : MakG wg11 M) {L : List It} (hc : CloseP (mkP M F) [ownI] L) : L = [(-1, 0, 0), (0, 0, 0)] := by
  have hp : shas M.places 0 = true := (hM.pl 0).2 ⟨0, (100, [1]), rfl, rfl, wg11_use⟩
  have hr0 : rightM M 0 = some [1] := by
    unfold rightM
    rw [if_neg (by decide), if_pos hp, show (0 : Int).toNat = 0 from rfl, hM.rt 0 (100, [1]) rfl wg11_use]
  have hi0 : isIt M (0, 0, 0) = true := by
    unfold isIt
    rw [hr0]
    unfold followM
    rfl
  have hs0 : restM M (0, 0, 0) = [1] := by
    unfold restM
    rw [if_pos hi0, hr0]
    rfl
  have key : ∀ y, Clo (mkP M F) [ownI] y → y = ownI ∨ y = (0, 0, 0) := fun y hy => by
    induction hy with
    | base h1 _ => left; simpa using h1
    | step h0 h1 h2 h3 h4 ih =>
      right
      rcases ih with rfl | rfl
      · have h1 : restM M ownI = _ := h1
        rw [rest_own] at h1
        cases h1
        have h4 : shas ((mkP M F).ahd [] 0) _ = true := h4
        rw [ahd_own, shas_one] at h4
        obtain ⟨j, q, e1, e2, _⟩ := (hM.o 0 _).1 h3
        have : j < 1 := (List.getElem?_eq_some_iff.1 e2).1
        obtain rfl : j = 0 := by omega
        rw [h4, e1]; rfl
      · have h1 : restM M (0, 0, 0) = _ := h1
        rw [hs0] at h1
        cases h1
        omega
  refine hc.uniq ⟨by unfold SortI; decide, fun x => ?_⟩
  constructor
  · intro hx
    have e : x = ownI ∨ x = (0, 0, 0) := by simpa [ownI] using hx
    have ho : Clo (mkP M F) [ownI] ownI := .base (List.mem_singleton.2 rfl) (isIt_own M)
    rcases e with rfl | rfl
    · exact ho
    · exact .step ho (rest_own M) (by omega) ((hM.o 0 0).2 ⟨0, (100, [1]), rfl, rfl, wg11_use, rfl⟩) (by rw [show (mkP M F).ahd [] ownI.2.2 = 1 from ahd_own M F]; decide)
  · intro hx
    rcases key x hx with rfl | rfl <;> simp [ownI]
end Go.Proofs.YtejjdfmobiegdaaDoor
