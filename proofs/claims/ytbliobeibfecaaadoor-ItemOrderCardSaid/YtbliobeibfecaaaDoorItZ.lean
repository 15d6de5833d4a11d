/- ItemOrder, walked. -/
import Derived.Test.YtbliobeibfecaaaDoorItU
import Derived.Test.YtbliobeibfecaaaDoorPlayH
import Derived.Test.YtbliobeibfecaaaDoorRowC
set_option linter.unusedVariables false
namespace Go.Proofs.YtbliobeibfecaaaDoor
open Go.RowKit
open Doc

/-- Of two items one is less, or they are one. -/
def threeB (a b : It) : List Bool := [lessIt a b, lessIt b a, decide (a = b)]
def ons (l : List Bool) : Nat := (l.filter id).length
theorem three_one (a b : It) : ons (threeB a b) = 1 := by
  unfold threeB ons
  obtain ⟨a1, a2, a3⟩ := a
  obtain ⟨b1, b2, b3⟩ := b
  by_cases h1 : lessIt (a1, a2, a3) (b1, b2, b3) = true
  · have h2 := less_asy h1
    have h3 : ¬ ((a1, a2, a3) : It) = (b1, b2, b3) := by
      rintro h; rw [h] at h1; exact less_irr _ h1
    simp [h1, h2, h3]
  · by_cases h2 : lessIt (b1, b2, b3) (a1, a2, a3) = true
    · have h3 : ¬ ((a1, a2, a3) : It) = (b1, b2, b3) := by
        rintro h; rw [h] at h2; exact less_irr _ h2
      simp [h1, h2, h3]
    · have h3 : ((a1, a2, a3) : It) = (b1, b2, b3) := by
        unfold lessIt at h1 h2
        rw [decide_eq_true_iff] at h1 h2
        simp only at h1 h2
        exact Prod.ext (by simp only; omega) (Prod.ext (by simp only; omega) (by simp only; omega))
      rw [h3]; simp [less_irr]
theorem ons_succ {l : List Bool} {j : Nat} {t : Bool} (h : l[j]? = some t) : ons (l.take (j + 1)) = ons (l.take j) + if t = true then 1 else 0 := by
  unfold ons
  rw [List.take_add_one, h, List.filter_append, List.length_append]
  cases t <;> simp
theorem set7_ne {l : List It} {k : Nat} {x : It} (hx : l[k]? = some x) (hd : x.2.1 < 7) : ¬ l.set k (x.1, 7, x.2.2) = l := fun e => by
  have hk := (List.getElem?_eq_some_iff.1 hx).1
  have h1 : (l.set k (x.1, 7, x.2.2))[k]? = some (x.1, 7, x.2.2) := by rw [List.getElem?_set, if_pos rfl, if_pos hk]
  rw [e, hx] at h1
  have := congrArg (fun y : It => y.2.1) (Option.some.inj h1)
  simp only at this
  omega
def goodB (t : List UInt8) : Bool := match parse t with
  | .ok g => decide (ChkP g) && shas (iterS (leftsF g.prods bearI) 0 8) 0 && decide (iterS (leftsF g.prods bearI) 0 8 ||| leftsF g.prods bearI (iterS (leftsF g.prods bearI) 0 8) = iterS (leftsF g.prods bearI) 0 8)
  | .bad _ _ _ => false
theorem goods_ok : ∀ d, d < 17 → goodB (textsL.getD d []) = true := by decide +kernel
theorem good_is {t : List UInt8} {g : Gr} (h : goodB t = true) (hp : parse t = .ok g) : CheckG g ∧ Fru g 100 := by
  unfold goodB at h
  rw [hp] at h
  simp only [Bool.and_eq_true, decide_eq_true_eq] at h
  have hc := (chk_iff g).1 h.1.1
  have hS := fru_is (nums_of_check hc) ⟨⟨8, rfl⟩, h.2⟩
  exact ⟨hc, ((hS.has 100).1 (by simpa using h.1.2)).2.2⟩
theorem its_new (W : World) (l : List It) : ItsAt (W.alloc (.cells (itsV l).toArray 48)) (some ⟨W.heap.size, 0, none⟩) l := by
  have := cells_new W (itsV l).toArray 48
  exact this
theorem its_set7 : ∀ {l : List It} {k : Nat} {x : It}, l[k]? = some x → itsV (l.set k (x.1, 7, x.2.2)) = (itsV l).set (k * 3 + 1) (.int .i64 7)
  | [], k, x, h => by simp at h
  | y :: l, 0, x, h => by
    cases h
    rfl
  | y :: l, k + 1, x, h => by
    have ih := its_set7 (l := l) (k := k) (x := x) (by simpa using h)
    rw [List.set_cons_succ]
    have e : ∀ (z : It) (m : List It), itsV (z :: m) = itC z ++ itsV m := fun _ _ => rfl
    rw [e, e, ih, List.set_append_right _ _ (by show (itC y).length ≤ _; rw [show (itC y).length = 3 from rfl]; omega)]
    congr 2
    rw [show (itC y).length = 3 from rfl]
    omega
theorem OwnI.set7 {w : World} {base c : Nat} {a : Option Addr} {l : List It} (h : OwnI w base a c l) {k : Nat} {x : It} (hx : l[k]? = some x) :
    ∃ (g : Nat) (u : Value), a = some ⟨g, 0, none⟩ ∧ base ≤ g ∧ g < w.heap.size ∧ w.cell? ⟨g, k * 3 + 1, none⟩ = some u ∧ w.frozen? ⟨g, k * 3 + 1, none⟩ = false ∧ OwnI (w.setCell ⟨g, k * 3 + 1, none⟩ (.int .i64 7)) base a c (l.set k (x.1, 7, x.2.2)) := by
  have hk := (List.getElem?_eq_some_iff.1 hx).1
  rcases h.own.2 with ⟨_, h0⟩ | ⟨g, cap, cur, hv, hB, hgc, hle, hmx, hcs, htk⟩
  · omega
  · injection hv with hv1 _ hv2
    subst hv1
    subst hv2
    have hlt : k * 3 + 1 < cur.size := by rw [hcs]; omega
    obtain ⟨b1, b2⟩ := blk_cell (w := w) (b := g) (i := k * 3 + 1) hgc (Array.getElem?_eq_getElem hlt)
    refine ⟨g, _, rfl, hB, heap_lt hgc, b1, b2, ⟨by rw [its_len, List.length_set], .inr ⟨g, c, cur.set! (k * 3 + 1) (.int .i64 7), by rw [List.length_set], hB, heap_set w g (k * 3 + 1) _ _ _ hgc hlt, by rw [List.length_set]; exact hle, hmx, by simp only [Array.set!_eq_setIfInBounds, Array.size_setIfInBounds]; exact hcs, ?_⟩⟩⟩
    rw [List.length_set, its_set7 hx, ← htk]
    simp only [Array.set!_eq_setIfInBounds, Array.toList_setIfInBounds]
    rw [List.take_set]
theorem sameAB (a1 a2 a3 b1 b2 b3 c1 c2 c3 : Int) (W : World) : Calls Tryd.prog 25 #[.slice (some ⟨W.heap.size, 0, none⟩) 2 2, .slice (some ⟨W.heap.size + 1, 0, none⟩) 2 2] ((W.alloc (.cells #[.int .i64 a1, .int .i64 a2, .int .i64 a3, .int .i64 b1, .int .i64 b2, .int .i64 b3] 48)).alloc (.cells #[.int .i64 a1, .int .i64 a2, .int .i64 a3, .int .i64 c1, .int .i64 c2, .int .i64 c3] 48)) fun e w' => e = .returned (.bool (decide (((b1, b2, b3) : It) = (c1, c2, c3)))) ∧ Below ((W.alloc (.cells #[.int .i64 a1, .int .i64 a2, .int .i64 a3, .int .i64 b1, .int .i64 b2, .int .i64 b3] 48)).alloc (.cells #[.int .i64 a1, .int .i64 a2, .int .i64 a3, .int .i64 c1, .int .i64 c2, .int .i64 c3] 48)).heap.size ((W.alloc (.cells #[.int .i64 a1, .int .i64 a2, .int .i64 a3, .int .i64 b1, .int .i64 b2, .int .i64 b3] 48)).alloc (.cells #[.int .i64 a1, .int .i64 a2, .int .i64 a3, .int .i64 c1, .int .i64 c2, .int .i64 c3] 48)) w' := by
  have h1 : ItsAt ((W.alloc (.cells #[.int .i64 a1, .int .i64 a2, .int .i64 a3, .int .i64 b1, .int .i64 b2, .int .i64 b3] 48)).alloc (.cells #[.int .i64 a1, .int .i64 a2, .int .i64 a3, .int .i64 c1, .int .i64 c2, .int .i64 c3] 48)) (some ⟨W.heap.size, 0, none⟩) [(a1, a2, a3), (b1, b2, b3)] := Cells.below (its_new W [(a1, a2, a3), (b1, b2, b3)]) ((Below.refl _ _).alloc (Nat.le_refl _) _)
  have h2 : ItsAt ((W.alloc (.cells #[.int .i64 a1, .int .i64 a2, .int .i64 a3, .int .i64 b1, .int .i64 b2, .int .i64 b3] 48)).alloc (.cells #[.int .i64 a1, .int .i64 a2, .int .i64 a3, .int .i64 c1, .int .i64 c2, .int .i64 c3] 48)) (some ⟨W.heap.size + 1, 0, none⟩) [(a1, a2, a3), (c1, c2, c3)] := by
    have := its_new (W.alloc (.cells #[.int .i64 a1, .int .i64 a2, .int .i64 a3, .int .i64 b1, .int .i64 b2, .int .i64 b3] 48)) [(a1, a2, a3), (c1, c2, c3)]
    rw [show (W.alloc (.cells #[.int .i64 a1, .int .i64 a2, .int .i64 a3, .int .i64 b1, .int .i64 b2, .int .i64 b3] 48)).heap.size = W.heap.size + 1 by simp] at this
    exact this
  refine (isame_any _ _ 2 2 [(a1, a2, a3), (b1, b2, b3)] [(a1, a2, a3), (c1, c2, c3)] _ h1 h2 (by simp) (by simp)).mono ?_
  rintro e w' ⟨he, n, rfl⟩
  exact ⟨he.trans (by congr 2; rw [decide_eq_decide]; simp), below_drews (Below.refl _ _) n⟩
theorem sameBA (a1 a2 a3 b1 b2 b3 c1 c2 c3 : Int) (W : World) : Calls Tryd.prog 25 #[.slice (some ⟨W.heap.size + 1, 0, none⟩) 2 2, .slice (some ⟨W.heap.size, 0, none⟩) 2 2] ((W.alloc (.cells #[.int .i64 a1, .int .i64 a2, .int .i64 a3, .int .i64 c1, .int .i64 c2, .int .i64 c3] 48)).alloc (.cells #[.int .i64 a1, .int .i64 a2, .int .i64 a3, .int .i64 b1, .int .i64 b2, .int .i64 b3] 48)) fun e w' => e = .returned (.bool (decide (((b1, b2, b3) : It) = (c1, c2, c3)))) ∧ Below ((W.alloc (.cells #[.int .i64 a1, .int .i64 a2, .int .i64 a3, .int .i64 c1, .int .i64 c2, .int .i64 c3] 48)).alloc (.cells #[.int .i64 a1, .int .i64 a2, .int .i64 a3, .int .i64 b1, .int .i64 b2, .int .i64 b3] 48)).heap.size ((W.alloc (.cells #[.int .i64 a1, .int .i64 a2, .int .i64 a3, .int .i64 c1, .int .i64 c2, .int .i64 c3] 48)).alloc (.cells #[.int .i64 a1, .int .i64 a2, .int .i64 a3, .int .i64 b1, .int .i64 b2, .int .i64 b3] 48)) w' := by
  have h1 : ItsAt ((W.alloc (.cells #[.int .i64 a1, .int .i64 a2, .int .i64 a3, .int .i64 c1, .int .i64 c2, .int .i64 c3] 48)).alloc (.cells #[.int .i64 a1, .int .i64 a2, .int .i64 a3, .int .i64 b1, .int .i64 b2, .int .i64 b3] 48)) (some ⟨W.heap.size, 0, none⟩) [(a1, a2, a3), (c1, c2, c3)] := Cells.below (its_new W [(a1, a2, a3), (c1, c2, c3)]) ((Below.refl _ _).alloc (Nat.le_refl _) _)
  have h2 : ItsAt ((W.alloc (.cells #[.int .i64 a1, .int .i64 a2, .int .i64 a3, .int .i64 c1, .int .i64 c2, .int .i64 c3] 48)).alloc (.cells #[.int .i64 a1, .int .i64 a2, .int .i64 a3, .int .i64 b1, .int .i64 b2, .int .i64 b3] 48)) (some ⟨W.heap.size + 1, 0, none⟩) [(a1, a2, a3), (b1, b2, b3)] := by
    have := its_new (W.alloc (.cells #[.int .i64 a1, .int .i64 a2, .int .i64 a3, .int .i64 c1, .int .i64 c2, .int .i64 c3] 48)) [(a1, a2, a3), (b1, b2, b3)]
    rw [show (W.alloc (.cells #[.int .i64 a1, .int .i64 a2, .int .i64 a3, .int .i64 c1, .int .i64 c2, .int .i64 c3] 48)).heap.size = W.heap.size + 1 by simp] at this
    exact this
  refine (isame_any _ _ 2 2 [(a1, a2, a3), (b1, b2, b3)] [(a1, a2, a3), (c1, c2, c3)] _ h2 h1 (by simp) (by simp)).mono ?_
  rintro e w' ⟨he, n, rfl⟩
  exact ⟨he.trans (by congr 2; rw [decide_eq_decide]; simp), below_drews (Below.refl _ _) n⟩
theorem same1n (a1 a2 a3 : Int) (W : World) : Calls Tryd.prog 25 #[.slice (some ⟨W.heap.size, 0, none⟩) 1 1, .slice none 0 0] (W.alloc (.cells #[.int .i64 a1, .int .i64 a2, .int .i64 a3] 48)) fun e w' => e = .returned (.bool false) ∧ Below (W.alloc (.cells #[.int .i64 a1, .int .i64 a2, .int .i64 a3] 48)).heap.size (W.alloc (.cells #[.int .i64 a1, .int .i64 a2, .int .i64 a3] 48)) w' := by
  refine (isame_any _ none 1 0 [(a1, a2, a3)] [] _ (its_new W [(a1, a2, a3)]) (.inl rfl) (by simp) (by simp)).mono ?_
  rintro e w' ⟨he, n, rfl⟩
  exact ⟨he.trans (by simp), below_drews (Below.refl _ _) n⟩
theorem same0 (x : Option Addr) (c : Nat) (W : World) : Calls Tryd.prog 25 #[.slice none 0 0, .slice x 0 c] W fun e w' => e = .returned (.bool true) ∧ Below W.heap.size W w' := by
  refine (isame_any none x 0 c [] [] _ (.inl rfl) (.inl rfl) (by simp) (by simp)).mono ?_
  rintro e w' ⟨he, n, rfl⟩
  exact ⟨he.trans (by simp), below_drews (Below.refl _ _) n⟩
theorem three_alloc0 (w : World) (o0 o1 o2 : Obj) : Below w.heap.size w (((w.alloc o0).alloc o1).alloc o2) ∧ (((w.alloc o0).alloc o1).alloc o2).heap[w.heap.size]? = some o0 ∧ (((w.alloc o0).alloc o1).alloc o2).heap[w.heap.size + 1]? = some o1 ∧ (((w.alloc o0).alloc o1).alloc o2).heap[w.heap.size + 1 + 1]? = some o2 :=
  ⟨((((Below.refl _ _).alloc (Nat.le_refl _) _).alloc (by simp) _).alloc (by simp <;> omega) _), (three_alloc w o0 o1 o2).2.1, (three_alloc w o0 o1 o2).2.2.1, (three_alloc w o0 o1 o2).2.2.2⟩
set_option maxRecDepth 100000 in
set_option maxHeartbeats 16000000 in
theorem itemOrder_walk (a b c : It) (n at_ : Int) (w : World) (HT : Sl.Tab w) :
    Calls Tryd.prog 8 #[itV a, itV b, itV c, .int .i64 n, .int .i64 at_] w fun e w' => e = .returned (.bool true) ∧ Below w.heap.size w w' := by
  have HTT := Lib.hid HT
  have HON := Lib.hid (three_one a b)
  have HTR := Lib.hid fun (h1 : lessIt a b = true) (h2 : lessIt b c = true) => less_trI h1 h2
  have HLab := Lib.hid fun W => iless_any a b W
  have HLba := Lib.hid fun W => iless_any b a W
  have HLbc := Lib.hid fun W => iless_any b c W
  have HLac := Lib.hid fun W => iless_any a c W
  have heab := ieql_run a b
  have hebc := ieql_run b c
  have hiab := fun W => ieq_in a.1 a.2.1 a.2.2 b.1 b.2.1 b.2.2 W
  have hibc := fun W => ieq_in b.1 b.2.1 b.2.2 c.1 c.2.1 c.2.2 W
  unfold threeB at HON
  generalize lessIt a b = l1 at *
  generalize lessIt b a = l2 at *
  generalize lessIt b c = m2 at *
  generalize lessIt a c = m3 at *
  obtain ⟨a1, a2, a3⟩ := a
  obtain ⟨b1, b2, b3⟩ := b
  obtain ⟨c1, c2, c3⟩ := c
  unfold itV at *
  simp only at *
  have HSA := Lib.hid fun W => sameAB a1 a2 a3 b1 b2 b3 c1 c2 c3 W
  have HSB := Lib.hid fun W => sameBA a1 a2 a3 b1 b2 b3 c1 c2 c3 W
  have HS1 := Lib.hid fun W => same1n a1 a2 a3 W
  generalize decide (((a1, a2, a3) : It) = (b1, b2, b3)) = e1 at *
  generalize decide (((b1, b2, b3) : It) = (c1, c2, c3)) = e2 at *
  have q3 := three_alloc0 w (.cells #[.int .i64 a1, .int .i64 a2, .int .i64 a3] 48) (.cells #[.int .i64 b1, .int .i64 b2, .int .i64 b3] 48) (.cells #[.int .i64 c1, .int .i64 c2, .int .i64 c3] 48)
  have Q3 := Lib.hid q3
  clear HT q3
  go_enter Tryd.func8, Tryd.ntmps8
  go_upto_region 2 with fail
  generalize ((w.alloc (.cells #[.int .i64 a1, .int .i64 a2, .int .i64 a3] 48)).alloc (.cells #[.int .i64 b1, .int .i64 b2, .int .i64 b3] 48)).alloc (.cells #[.int .i64 c1, .int .i64 c2, .int .i64 c3] 48) = S at *
  have HWS := Lib.hid Q3.out.1
  have HTS := Lib.hid (HTT.out.below Q3.out.1)
  generalize hBA : w.heap.size = BA at *
  have HBA := Lib.hid hBA
  clear hBA
  have HCX := Lib.hid fun (W' : World) (hW : Below S.heap.size S W') => (by
    have qa := (hW.block BA (heap_lt Q3.out.2.1)).trans Q3.out.2.1
    have qb := (hW.block (BA + 1) (heap_lt Q3.out.2.2.1)).trans Q3.out.2.2.1
    have qc := (hW.block (BA + 1 + 1) (heap_lt Q3.out.2.2.2)).trans Q3.out.2.2.2
    exact ⟨⟨(blk_cell (i := 0) qa rfl).1, (blk_cell (i := 1) qa rfl).1, (blk_cell (i := 2) qa rfl).1⟩, ⟨(blk_cell (i := 0) qb rfl).1, (blk_cell (i := 1) qb rfl).1, (blk_cell (i := 2) qb rfl).1⟩, ⟨(blk_cell (i := 0) qc rfl).1, (blk_cell (i := 1) qc rfl).1, (blk_cell (i := 2) qc rfl).1⟩, heap_lt qa, heap_lt qb, heap_lt qc⟩ : ((W'.cell? ⟨BA, 0, none⟩ = some (.int .i64 a1) ∧ W'.cell? ⟨BA, 1, none⟩ = some (.int .i64 a2) ∧ W'.cell? ⟨BA, 2, none⟩ = some (.int .i64 a3)) ∧ (W'.cell? ⟨BA + 1, 0, none⟩ = some (.int .i64 b1) ∧ W'.cell? ⟨BA + 1, 1, none⟩ = some (.int .i64 b2) ∧ W'.cell? ⟨BA + 1, 2, none⟩ = some (.int .i64 b3)) ∧ (W'.cell? ⟨BA + 1 + 1, 0, none⟩ = some (.int .i64 c1) ∧ W'.cell? ⟨BA + 1 + 1, 1, none⟩ = some (.int .i64 c2) ∧ W'.cell? ⟨BA + 1 + 1, 2, none⟩ = some (.int .i64 c3)) ∧ (BA < W'.heap.size ∧ BA + 1 < W'.heap.size ∧ BA + 1 + 1 < W'.heap.size)))
  go_cut [27, 28, 29] from 18 to 29 (fun sv lv iv wx => ∃ Bk : Nat, sv = .slice (some ⟨Bk, 0, none⟩) 3 3 ∧ lv = .int .i64 3 ∧ iv = .int .i64 0 ∧ Hid (wx.heap[Bk]? = some (.cells #[.bool l1, .bool l2, .bool e1] 4)) ∧ Hid (Below S.heap.size S wx))
  case first =>
    have HKX : ∀ W' : World, Below S.heap.size S W' → (((W'.cell? ⟨BA, 0, none⟩ = some (.int .i64 a1) ∧ W'.cell? ⟨BA, 1, none⟩ = some (.int .i64 a2) ∧ W'.cell? ⟨BA, 2, none⟩ = some (.int .i64 a3)) ∧ (W'.cell? ⟨BA + 1, 0, none⟩ = some (.int .i64 b1) ∧ W'.cell? ⟨BA + 1, 1, none⟩ = some (.int .i64 b2) ∧ W'.cell? ⟨BA + 1, 2, none⟩ = some (.int .i64 b3)) ∧ (W'.cell? ⟨BA + 1 + 1, 0, none⟩ = some (.int .i64 c1) ∧ W'.cell? ⟨BA + 1 + 1, 1, none⟩ = some (.int .i64 c2) ∧ W'.cell? ⟨BA + 1 + 1, 2, none⟩ = some (.int .i64 c3)) ∧ (BA < W'.heap.size ∧ BA + 1 < W'.heap.size ∧ BA + 1 + 1 < W'.heap.size)) ∧ Hid (Below S.heap.size S W')) := fun W' hb => ⟨HCX.out W' (hb), Lib.hid hb⟩
    have K0 := Lib.hid (HKX _ (Below.refl S.heap.size S).drew)
    have K1 := Lib.hid fun (W W' : World) (k : Below W.heap.size W W') (h : (((W.cell? ⟨BA, 0, none⟩ = some (.int .i64 a1) ∧ W.cell? ⟨BA, 1, none⟩ = some (.int .i64 a2) ∧ W.cell? ⟨BA, 2, none⟩ = some (.int .i64 a3)) ∧ (W.cell? ⟨BA + 1, 0, none⟩ = some (.int .i64 b1) ∧ W.cell? ⟨BA + 1, 1, none⟩ = some (.int .i64 b2) ∧ W.cell? ⟨BA + 1, 2, none⟩ = some (.int .i64 b3)) ∧ (W.cell? ⟨BA + 1 + 1, 0, none⟩ = some (.int .i64 c1) ∧ W.cell? ⟨BA + 1 + 1, 1, none⟩ = some (.int .i64 c2) ∧ W.cell? ⟨BA + 1 + 1, 2, none⟩ = some (.int .i64 c3)) ∧ (BA < W.heap.size ∧ BA + 1 < W.heap.size ∧ BA + 1 + 1 < W.heap.size)) ∧ Hid (Below S.heap.size S W))) => HKX W' (h.2.out.trans (k.mono h.2.out.size))
    have K2 := Lib.hid fun (W : World) (o : Obj) (h : (((W.cell? ⟨BA, 0, none⟩ = some (.int .i64 a1) ∧ W.cell? ⟨BA, 1, none⟩ = some (.int .i64 a2) ∧ W.cell? ⟨BA, 2, none⟩ = some (.int .i64 a3)) ∧ (W.cell? ⟨BA + 1, 0, none⟩ = some (.int .i64 b1) ∧ W.cell? ⟨BA + 1, 1, none⟩ = some (.int .i64 b2) ∧ W.cell? ⟨BA + 1, 2, none⟩ = some (.int .i64 b3)) ∧ (W.cell? ⟨BA + 1 + 1, 0, none⟩ = some (.int .i64 c1) ∧ W.cell? ⟨BA + 1 + 1, 1, none⟩ = some (.int .i64 c2) ∧ W.cell? ⟨BA + 1 + 1, 2, none⟩ = some (.int .i64 c3)) ∧ (BA < W.heap.size ∧ BA + 1 < W.heap.size ∧ BA + 1 + 1 < W.heap.size)) ∧ Hid (Below S.heap.size S W))) => HKX (W.alloc o) (h.2.out.alloc h.2.out.size o)
    clear HKX
    refine wp_region_noPanic ?_
    refine wp_region_held_drew (S := (fun w' => (((w'.cell? ⟨BA, 0, none⟩ = some (.int .i64 a1) ∧ w'.cell? ⟨BA, 1, none⟩ = some (.int .i64 a2) ∧ w'.cell? ⟨BA, 2, none⟩ = some (.int .i64 a3)) ∧ (w'.cell? ⟨BA + 1, 0, none⟩ = some (.int .i64 b1) ∧ w'.cell? ⟨BA + 1, 1, none⟩ = some (.int .i64 b2) ∧ w'.cell? ⟨BA + 1, 2, none⟩ = some (.int .i64 b3)) ∧ (w'.cell? ⟨BA + 1 + 1, 0, none⟩ = some (.int .i64 c1) ∧ w'.cell? ⟨BA + 1 + 1, 1, none⟩ = some (.int .i64 c2) ∧ w'.cell? ⟨BA + 1 + 1, 2, none⟩ = some (.int .i64 c3)) ∧ (BA < w'.heap.size ∧ BA + 1 < w'.heap.size ∧ BA + 1 + 1 < w'.heap.size)) ∧ Hid (Below S.heap.size S w')))) (by kernel_rfl) ?_ (fun hHeld => ?_)
    · (first | assumption | exact K0.out | exact K1.out _ _ (by assumption) (by assumption) | exact K2.out _ _ (by assumption))
    refine wpAnyH_take (i := 0) (v := ?_) (by simp only [List.getElem?_toArray, List.getElem?_cons_zero]; rfl) (by kernel_rfl) (by kernel_rfl) (by kernel_rfl) (fun _ _ _ h => h) (Or.inl ⟨by rfl, ?_⟩) (by assumption) ?_
    rotate_left
    · (intro w hSw; (try dsimp only at hSw); go_simp; (try with_reducible rfl))
    (try simp only [Act.put, List.setIfInBounds_toArray, List.set_cons_zero, List.set_cons_succ])
    refine wpAnyH_take (i := 1) (v := ?_) (by simp only [List.getElem?_toArray, List.getElem?_cons_succ, List.getElem?_cons_zero]; rfl) (by kernel_rfl) (by kernel_rfl) (by kernel_rfl) (fun _ _ _ h => h) (Or.inl ⟨by rfl, ?_⟩) (by assumption) ?_
    rotate_left
    · (intro w hSw; (try dsimp only at hSw); go_simp; (try with_reducible rfl))
    (try simp only [Act.put, List.setIfInBounds_toArray, List.set_cons_zero, List.set_cons_succ])
    refine wpAnyH_take (i := 3) (v := ?_) (by simp only [List.getElem?_toArray, List.getElem?_cons_succ, List.getElem?_cons_zero]; rfl) (by kernel_rfl) (by kernel_rfl) (by kernel_rfl) (fun _ _ _ h => h) (Or.inl ⟨by rfl, ?_⟩) (by assumption) ?_
    rotate_left
    · (intro w hSw; (try dsimp only at hSw); go_simp; (try with_reducible rfl))
    (try simp only [Act.put, List.setIfInBounds_toArray, List.set_cons_zero, List.set_cons_succ])
    refine wpAnyH_take (i := 4) (v := ?_) (by simp only [List.getElem?_toArray, List.getElem?_cons_succ, List.getElem?_cons_zero]; rfl) (by kernel_rfl) (by kernel_rfl) (by kernel_rfl) (fun _ _ _ h => h) (Or.inl ⟨by rfl, ?_⟩) (by assumption) ?_
    rotate_left
    · (intro w hSw; (try dsimp only at hSw); go_simp; (try with_reducible rfl))
    (try simp only [Act.put, List.setIfInBounds_toArray, List.set_cons_zero, List.set_cons_succ])
    refine wpAnyH_take (i := 6) (v := ?_) (by simp only [List.getElem?_toArray, List.getElem?_cons_succ, List.getElem?_cons_zero]; rfl) (by kernel_rfl) (by kernel_rfl) (by kernel_rfl) (fun _ _ _ h => h) (Or.inl ⟨by rfl, ?_⟩) (by assumption) ?_
    rotate_left
    · (intro w hSw; (try dsimp only at hSw); go_simp; (try with_reducible rfl))
    (try simp only [Act.put, List.setIfInBounds_toArray, List.set_cons_zero, List.set_cons_succ])
    refine wpAnyH_take (i := 7) (v := ?_) (by simp only [List.getElem?_toArray, List.getElem?_cons_succ, List.getElem?_cons_zero]; rfl) (by kernel_rfl) (by kernel_rfl) (by kernel_rfl) (fun _ _ _ h => h) (Or.inl ⟨by rfl, ?_⟩) (by assumption) ?_
    rotate_left
    · (intro w hSw; (try dsimp only at hSw); go_simp; (try with_reducible rfl))
    (try simp only [Act.put, List.setIfInBounds_toArray, List.set_cons_zero, List.set_cons_succ])
    refine wpAnyH_take (i := 8) (v := ?_) (by simp only [List.getElem?_toArray, List.getElem?_cons_succ, List.getElem?_cons_zero]; rfl) (by kernel_rfl) (by kernel_rfl) (by kernel_rfl) (fun _ _ _ h => h) (Or.inl ⟨by rfl, ?_⟩) (by assumption) ?_
    rotate_left
    · (intro w hSw; (try dsimp only at hSw); go_simp; (try with_reducible rfl))
    (try simp only [Act.put, List.setIfInBounds_toArray, List.set_cons_zero, List.set_cons_succ])
    refine wpAnyH_take (i := 11) (v := ?_) (by simp only [List.getElem?_toArray, List.getElem?_cons_succ, List.getElem?_cons_zero]; rfl) (by kernel_rfl) (by kernel_rfl) (by kernel_rfl) (fun _ _ _ h => h) (Or.inl ⟨by rfl, ?_⟩) (by assumption) ?_
    rotate_left
    · (intro w hSw; (try dsimp only at hSw); go_simp; (try with_reducible rfl))
    (try simp only [Act.put, List.setIfInBounds_toArray, List.set_cons_zero, List.set_cons_succ])
    refine wpAnyH_ready (rs := [2]) (by kernel_rfl) (by simp) ?_
    refine AllReadyH.cons (by simp only [List.getElem?_toArray, List.getElem?_cons_succ, List.getElem?_cons_zero]; rfl) (fun K hK => ?_) ?_
    · (go_simp; go_at_call 33; (with_reducible refine (HLab.out _).mono ?_); rintro e w1 ⟨rfl, hbw1⟩)
      refine hK.out _ _ ?_ (fun hHeld => ?_)
      · (first | assumption | exact K0.out | exact K1.out _ _ (by assumption) (by assumption) | exact K2.out _ _ (by assumption))
      clear hK K
      (try simp only [Act.put, List.setIfInBounds_toArray, List.set_cons_zero, List.set_cons_succ])
      refine wpAnyH_ready (rs := [5]) (by kernel_rfl) (by simp) ?_
      refine AllReadyH.cons (by simp only [List.getElem?_toArray, List.getElem?_cons_succ, List.getElem?_cons_zero]; rfl) (fun K hK => ?_) ?_
      · (go_simp; go_at_call 33; (with_reducible refine (HLba.out _).mono ?_); rintro e w2 ⟨rfl, hbw2⟩)
        refine hK.out _ _ ?_ (fun hHeld => ?_)
        · (first | assumption | exact K0.out | exact K1.out _ _ (by assumption) (by assumption) | exact K2.out _ _ (by assumption))
        clear hK K
        (try simp only [Act.put, List.setIfInBounds_toArray, List.set_cons_zero, List.set_cons_succ])
        refine wpAnyH_ready (rs := [9]) (by kernel_rfl) (by simp) ?_
        refine AllReadyH.cons (by simp only [List.getElem?_toArray, List.getElem?_cons_succ, List.getElem?_cons_zero]; rfl) (fun K hK => ?_) ?_
        · go_simp
          refine hK.out _ _ ?_ (fun hHeld => ?_)
          · (first | assumption | exact K0.out | exact K1.out _ _ (by assumption) (by assumption) | exact K2.out _ _ (by assumption))
          clear hK K
          (try simp only [Act.put, List.setIfInBounds_toArray, List.set_cons_zero, List.set_cons_succ])
          refine wpAnyH_take (i := 10) (v := ?_) (by simp only [List.getElem?_toArray, List.getElem?_cons_succ, List.getElem?_cons_zero]; rfl) (by kernel_rfl) (by kernel_rfl) (by kernel_rfl) (fun _ _ _ h => h) (Or.inl ⟨by rfl, ?_⟩) (by assumption) ?_
          rotate_left
          · (intro w hSw; (try dsimp only at hSw); go_simp; (try with_reducible rfl))
          (try simp only [Act.put, List.setIfInBounds_toArray, List.set_cons_zero, List.set_cons_succ])
          refine wpAnyH_done (by kernel_rfl) ?_ _
          refine NoPanic.normal ?_
          have hbl := heap_alloc_new w2 (.cells #[.bool l1, .bool l2, .bool e1] 4)
          go_wp2
          go_meet
          case rel => exact ⟨_, rfl, rfl, rfl, Lib.hid hbl, And.right (show _ ∧ Hid (Below S.heap.size S _) by assumption)⟩
        exact AllReadyH.nil
      exact AllReadyH.nil
    exact AllReadyH.nil
  case rest =>
  obtain ⟨Bk, rfl, rfl, rfl, HQK, HB4⟩ := hcut
  rename World => S4
  go_wp2_with fail
  go_loopw [11, 29] (fun kv iv wr => ∃ i : Nat, i ≤ 3 ∧ iv = .int .i64 i ∧ kv = .int .i64 (ons ([l1, l2, e1].take i)) ∧ wr = S4) (fun _ i _ => 3 - (intOf i).toNat)
  case atStart => exact ⟨0, by omega, rfl, rfl, rfl⟩
  case round =>
    obtain ⟨i, hi, rfl, rfl, hwr⟩ := hrel
    obtain rfl := hwr.symm
    clear hwr
    by_cases hlt : i < 3
    · have hlt' : (i : Int) < 3 := by omega
      obtain ⟨t, ht⟩ : ∃ t, [l1, l2, e1][i]? = some t := ⟨_, List.getElem?_eq_getElem (by simpa using hlt)⟩
      have hcl := (blk_cell (i := i) (u := .bool t) HQK.out (by rw [List.getElem?_toArray]; match i, hlt, ht with | 0, _, ht => (cases ht; rfl) | 1, _, ht => (cases ht; rfl) | 2, _, ht => (cases ht; rfl))).1
      have hcz := heap_lt HQK.out
      have hos := ons_succ ht
      have hol : ons ([l1, l2, e1].take i) ≤ 3 := by
        have := List.length_filter_le id ([l1, l2, e1].take i)
        rw [List.length_take] at this
        unfold ons
        simp at this ⊢
        omega
      have HOS := Lib.hid hos
      clear ht hos
      generalize ons ([l1, l2, e1].take i) = m at *
      cases t with
      | true =>
        have HO2 := Lib.hid (show ons ([l1, l2, e1].take (i + 1)) = m + 1 by rw [HOS.out]; rfl)
        go_wp2
        go_roundw
        case rel => exact ⟨i + 1, by omega, by go_num, by rw [HO2.out]; go_num, by first | rfl | trivial⟩
        case measure => simp [intOf]; omega
      | false =>
        have HO2 := Lib.hid (show ons ([l1, l2, e1].take (i + 1)) = m by rw [HOS.out]; rfl)
        go_wp2
        go_roundw
        case rel => exact ⟨i + 1, by omega, by go_num, by rw [HO2.out], by first | rfl | trivial⟩
        case measure => simp [intOf]; omega
    · have hi3 : i = 3 := by omega
      have HO3 := Lib.hid (show ons ([l1, l2, e1].take i) = 1 by rw [hi3]; exact HON.out)
      have hge : ¬ (i : Int) < 3 := by omega
      rw [HO3.out]
      clear hi3 hlt
      go_upto_region 8 with fail
      have HS0 := Lib.hid fun (W : World) => same0 (some ⟨W.heap.size, 0, none⟩) 0 (W.alloc (.cells #[] 48))
      go_cut [77] from 37 to 77 (fun v wx => v = .bool false ∧ Hid (Below S4.heap.size S4 wx))
      case first =>
        have HKX : ∀ W' : World, Below S4.heap.size S4 W' → (((W'.cell? ⟨BA, 0, none⟩ = some (.int .i64 a1) ∧ W'.cell? ⟨BA, 1, none⟩ = some (.int .i64 a2) ∧ W'.cell? ⟨BA, 2, none⟩ = some (.int .i64 a3)) ∧ (W'.cell? ⟨BA + 1, 0, none⟩ = some (.int .i64 b1) ∧ W'.cell? ⟨BA + 1, 1, none⟩ = some (.int .i64 b2) ∧ W'.cell? ⟨BA + 1, 2, none⟩ = some (.int .i64 b3)) ∧ (W'.cell? ⟨BA + 1 + 1, 0, none⟩ = some (.int .i64 c1) ∧ W'.cell? ⟨BA + 1 + 1, 1, none⟩ = some (.int .i64 c2) ∧ W'.cell? ⟨BA + 1 + 1, 2, none⟩ = some (.int .i64 c3)) ∧ (BA < W'.heap.size ∧ BA + 1 < W'.heap.size ∧ BA + 1 + 1 < W'.heap.size)) ∧ Hid (Below S4.heap.size S4 W')) := fun W' hb => ⟨HCX.out W' (HB4.out.trans (hb.mono HB4.out.size)), Lib.hid hb⟩
        have K0 := Lib.hid (HKX _ (Below.refl S4.heap.size S4).drew)
        have K1 := Lib.hid fun (W W' : World) (k : Below W.heap.size W W') (h : (((W.cell? ⟨BA, 0, none⟩ = some (.int .i64 a1) ∧ W.cell? ⟨BA, 1, none⟩ = some (.int .i64 a2) ∧ W.cell? ⟨BA, 2, none⟩ = some (.int .i64 a3)) ∧ (W.cell? ⟨BA + 1, 0, none⟩ = some (.int .i64 b1) ∧ W.cell? ⟨BA + 1, 1, none⟩ = some (.int .i64 b2) ∧ W.cell? ⟨BA + 1, 2, none⟩ = some (.int .i64 b3)) ∧ (W.cell? ⟨BA + 1 + 1, 0, none⟩ = some (.int .i64 c1) ∧ W.cell? ⟨BA + 1 + 1, 1, none⟩ = some (.int .i64 c2) ∧ W.cell? ⟨BA + 1 + 1, 2, none⟩ = some (.int .i64 c3)) ∧ (BA < W.heap.size ∧ BA + 1 < W.heap.size ∧ BA + 1 + 1 < W.heap.size)) ∧ Hid (Below S4.heap.size S4 W))) => HKX W' (h.2.out.trans (k.mono h.2.out.size))
        have K2 := Lib.hid fun (W : World) (o : Obj) (h : (((W.cell? ⟨BA, 0, none⟩ = some (.int .i64 a1) ∧ W.cell? ⟨BA, 1, none⟩ = some (.int .i64 a2) ∧ W.cell? ⟨BA, 2, none⟩ = some (.int .i64 a3)) ∧ (W.cell? ⟨BA + 1, 0, none⟩ = some (.int .i64 b1) ∧ W.cell? ⟨BA + 1, 1, none⟩ = some (.int .i64 b2) ∧ W.cell? ⟨BA + 1, 2, none⟩ = some (.int .i64 b3)) ∧ (W.cell? ⟨BA + 1 + 1, 0, none⟩ = some (.int .i64 c1) ∧ W.cell? ⟨BA + 1 + 1, 1, none⟩ = some (.int .i64 c2) ∧ W.cell? ⟨BA + 1 + 1, 2, none⟩ = some (.int .i64 c3)) ∧ (BA < W.heap.size ∧ BA + 1 < W.heap.size ∧ BA + 1 + 1 < W.heap.size)) ∧ Hid (Below S4.heap.size S4 W))) => HKX (W.alloc o) (h.2.out.alloc h.2.out.size o)
        clear HKX
        have hee : (e2 != e2) = false := by simp
        cases l1 with
        | false =>
          refine wp_region_noPanic ?_
          refine wp_region_held_drew (S := (fun w' => (((w'.cell? ⟨BA, 0, none⟩ = some (.int .i64 a1) ∧ w'.cell? ⟨BA, 1, none⟩ = some (.int .i64 a2) ∧ w'.cell? ⟨BA, 2, none⟩ = some (.int .i64 a3)) ∧ (w'.cell? ⟨BA + 1, 0, none⟩ = some (.int .i64 b1) ∧ w'.cell? ⟨BA + 1, 1, none⟩ = some (.int .i64 b2) ∧ w'.cell? ⟨BA + 1, 2, none⟩ = some (.int .i64 b3)) ∧ (w'.cell? ⟨BA + 1 + 1, 0, none⟩ = some (.int .i64 c1) ∧ w'.cell? ⟨BA + 1 + 1, 1, none⟩ = some (.int .i64 c2) ∧ w'.cell? ⟨BA + 1 + 1, 2, none⟩ = some (.int .i64 c3)) ∧ (BA < w'.heap.size ∧ BA + 1 < w'.heap.size ∧ BA + 1 + 1 < w'.heap.size)) ∧ Hid (Below S4.heap.size S4 w')))) (by kernel_rfl) ?_ (fun hHeld => ?_)
          · (first | assumption | exact K0.out | exact K1.out _ _ (by assumption) (by assumption) | exact K2.out _ _ (by assumption))
          refine wpAnyH_take (i := 0) (v := ?_) (by simp only [List.getElem?_toArray, List.getElem?_cons_zero]; rfl) (by kernel_rfl) (by kernel_rfl) (by kernel_rfl) (fun _ _ _ h => h) (Or.inl ⟨by rfl, ?_⟩) (by assumption) ?_
          rotate_left
          · (intro w hSw; (try dsimp only at hSw); go_simp; (try with_reducible rfl))
          (try simp only [Act.put, List.setIfInBounds_toArray, List.set_cons_zero, List.set_cons_succ])
          refine wpAnyH_take (i := 1) (v := ?_) (by simp only [List.getElem?_toArray, List.getElem?_cons_succ, List.getElem?_cons_zero]; rfl) (by kernel_rfl) (by kernel_rfl) (by kernel_rfl) (fun _ _ _ h => h) (Or.inl ⟨by rfl, ?_⟩) (by assumption) ?_
          rotate_left
          · (intro w hSw; (try dsimp only at hSw); go_simp; (try with_reducible rfl))
          (try simp only [Act.put, List.setIfInBounds_toArray, List.set_cons_zero, List.set_cons_succ])
          refine wpAnyH_take (i := 2) (v := ?_) (by simp only [List.getElem?_toArray, List.getElem?_cons_succ, List.getElem?_cons_zero]; rfl) (by kernel_rfl) (by kernel_rfl) (by kernel_rfl) (fun _ _ _ h => h) (Or.inl ⟨by rfl, ?_⟩) (by assumption) ?_
          rotate_left
          · (intro w hSw; (try dsimp only at hSw); go_simp; (try with_reducible rfl))
          (try simp only [Act.put, List.setIfInBounds_toArray, List.set_cons_zero, List.set_cons_succ])
          refine wpAnyH_take (i := 3) (v := ?_) (by simp only [List.getElem?_toArray, List.getElem?_cons_succ, List.getElem?_cons_zero]; rfl) (by kernel_rfl) (by kernel_rfl) (by kernel_rfl) (fun _ _ _ h => h) (Or.inl ⟨by rfl, ?_⟩) (by assumption) ?_
          rotate_left
          · (intro w hSw; (try dsimp only at hSw); go_simp; (try with_reducible rfl))
          (try simp only [Act.put, List.setIfInBounds_toArray, List.set_cons_zero, List.set_cons_succ])
          refine wpAnyH_take (i := 4) (v := ?_) (by simp only [List.getElem?_toArray, List.getElem?_cons_succ, List.getElem?_cons_zero]; rfl) (by kernel_rfl) (by kernel_rfl) (by kernel_rfl) (fun _ _ _ h => h) (Or.inl ⟨by rfl, ?_⟩) (by assumption) ?_
          rotate_left
          · (intro w hSw; (try dsimp only at hSw); go_simp; (try with_reducible rfl))
          (try simp only [Act.put, List.setIfInBounds_toArray, List.set_cons_zero, List.set_cons_succ])
          refine wpAnyH_ready (rs := [5]) (by kernel_rfl) (by simp) ?_
          refine AllReadyH.cons (by simp only [List.getElem?_toArray, List.getElem?_cons_succ, List.getElem?_cons_zero]; rfl) (fun K hK => ?_) ?_
          · (go_simp; go_at_call 33; (with_reducible refine (HLab.out _).mono ?_); rintro e w5 ⟨rfl, hbw5⟩)
            refine hK.out _ _ ?_ (fun hHeld => ?_)
            · (first | assumption | exact K0.out | exact K1.out _ _ (by assumption) (by assumption) | exact K2.out _ _ (by assumption))
            clear hK K
            (try simp only [Act.put, List.setIfInBounds_toArray, List.set_cons_zero, List.set_cons_succ])
            refine wpAnyH_take (i := 6) (v := ?_) (by simp only [List.getElem?_toArray, List.getElem?_cons_succ, List.getElem?_cons_zero]; rfl) (by kernel_rfl) (by kernel_rfl) (by kernel_rfl) (fun _ _ _ h => h) (Or.inl ⟨by rfl, ?_⟩) (by assumption) ?_
            rotate_left
            · (intro w hSw; (try dsimp only at hSw); go_simp; (try with_reducible rfl))
            (try simp only [Act.put, List.setIfInBounds_toArray, List.set_cons_zero, List.set_cons_succ])
            refine wpAnyH_take (i := 7) (v := undef) (by simp only [List.getElem?_toArray, List.getElem?_cons_succ, List.getElem?_cons_zero]; rfl) (by kernel_rfl) (by kernel_rfl) (by kernel_rfl) (fun _ _ _ h => h) (Or.inr ⟨by rfl, rfl⟩) (by assumption) ?_
            (try simp only [Act.put, List.setIfInBounds_toArray, List.set_cons_zero, List.set_cons_succ])
            refine wpAnyH_take (i := 8) (v := undef) (by simp only [List.getElem?_toArray, List.getElem?_cons_succ, List.getElem?_cons_zero]; rfl) (by kernel_rfl) (by kernel_rfl) (by kernel_rfl) (fun _ _ _ h => h) (Or.inr ⟨by rfl, rfl⟩) (by assumption) ?_
            (try simp only [Act.put, List.setIfInBounds_toArray, List.set_cons_zero, List.set_cons_succ])
            refine wpAnyH_take (i := 9) (v := undef) (by simp only [List.getElem?_toArray, List.getElem?_cons_succ, List.getElem?_cons_zero]; rfl) (by kernel_rfl) (by kernel_rfl) (by kernel_rfl) (fun _ _ _ h => h) (Or.inr ⟨by rfl, rfl⟩) (by assumption) ?_
            (try simp only [Act.put, List.setIfInBounds_toArray, List.set_cons_zero, List.set_cons_succ])
            refine wpAnyH_take (i := 10) (v := ?_) (by simp only [List.getElem?_toArray, List.getElem?_cons_succ, List.getElem?_cons_zero]; rfl) (by kernel_rfl) (by kernel_rfl) (by kernel_rfl) (fun _ _ _ h => h) (Or.inl ⟨by rfl, ?_⟩) (by assumption) ?_
            rotate_left
            · (intro w hSw; (try dsimp only at hSw); go_simp; (try with_reducible rfl))
            (try simp only [Act.put, List.setIfInBounds_toArray, List.set_cons_zero, List.set_cons_succ])
            refine wpAnyH_take (i := 11) (v := ?_) (by simp only [List.getElem?_toArray, List.getElem?_cons_succ, List.getElem?_cons_zero]; rfl) (by kernel_rfl) (by kernel_rfl) (by kernel_rfl) (fun _ _ _ h => h) (Or.inl ⟨by rfl, ?_⟩) (by assumption) ?_
            rotate_left
            · (intro w hSw; (try dsimp only at hSw); go_simp; (try with_reducible rfl))
            (try simp only [Act.put, List.setIfInBounds_toArray, List.set_cons_zero, List.set_cons_succ])
            refine wpAnyH_take (i := 12) (v := undef) (by simp only [List.getElem?_toArray, List.getElem?_cons_succ, List.getElem?_cons_zero]; rfl) (by kernel_rfl) (by kernel_rfl) (by kernel_rfl) (fun _ _ _ h => h) (Or.inr ⟨by rfl, rfl⟩) (by assumption) ?_
            (try simp only [Act.put, List.setIfInBounds_toArray, List.set_cons_zero, List.set_cons_succ])
            refine wpAnyH_take (i := 13) (v := undef) (by simp only [List.getElem?_toArray, List.getElem?_cons_succ, List.getElem?_cons_zero]; rfl) (by kernel_rfl) (by kernel_rfl) (by kernel_rfl) (fun _ _ _ h => h) (Or.inr ⟨by rfl, rfl⟩) (by assumption) ?_
            (try simp only [Act.put, List.setIfInBounds_toArray, List.set_cons_zero, List.set_cons_succ])
            refine wpAnyH_take (i := 14) (v := undef) (by simp only [List.getElem?_toArray, List.getElem?_cons_succ, List.getElem?_cons_zero]; rfl) (by kernel_rfl) (by kernel_rfl) (by kernel_rfl) (fun _ _ _ h => h) (Or.inr ⟨by rfl, rfl⟩) (by assumption) ?_
            (try simp only [Act.put, List.setIfInBounds_toArray, List.set_cons_zero, List.set_cons_succ])
            refine wpAnyH_take (i := 15) (v := undef) (by simp only [List.getElem?_toArray, List.getElem?_cons_succ, List.getElem?_cons_zero]; rfl) (by kernel_rfl) (by kernel_rfl) (by kernel_rfl) (fun _ _ _ h => h) (Or.inr ⟨by rfl, rfl⟩) (by assumption) ?_
            (try simp only [Act.put, List.setIfInBounds_toArray, List.set_cons_zero, List.set_cons_succ])
            refine wpAnyH_take (i := 16) (v := ?_) (by simp only [List.getElem?_toArray, List.getElem?_cons_succ, List.getElem?_cons_zero]; rfl) (by kernel_rfl) (by kernel_rfl) (by kernel_rfl) (fun _ _ _ h => h) (Or.inl ⟨by rfl, ?_⟩) (by assumption) ?_
            rotate_left
            · (intro w hSw; (try dsimp only at hSw); go_simp; (try with_reducible rfl))
            (try simp only [Act.put, List.setIfInBounds_toArray, List.set_cons_zero, List.set_cons_succ])
            refine wpAnyH_take (i := 17) (v := ?_) (by simp only [List.getElem?_toArray, List.getElem?_cons_succ, List.getElem?_cons_zero]; rfl) (by kernel_rfl) (by kernel_rfl) (by kernel_rfl) (fun _ _ _ h => h) (Or.inl ⟨by rfl, ?_⟩) (by assumption) ?_
            rotate_left
            · (intro w hSw; (try dsimp only at hSw); go_simp; (try with_reducible rfl))
            (try simp only [Act.put, List.setIfInBounds_toArray, List.set_cons_zero, List.set_cons_succ])
            refine wpAnyH_take (i := 18) (v := ?_) (by simp only [List.getElem?_toArray, List.getElem?_cons_succ, List.getElem?_cons_zero]; rfl) (by kernel_rfl) (by kernel_rfl) (by kernel_rfl) (fun _ _ _ h => h) (Or.inl ⟨by rfl, ?_⟩) (by assumption) ?_
            rotate_left
            · (intro w hSw; (try dsimp only at hSw); go_simp; (try with_reducible rfl))
            (try simp only [Act.put, List.setIfInBounds_toArray, List.set_cons_zero, List.set_cons_succ])
            refine wpAnyH_take (i := 19) (v := ?_) (by simp only [List.getElem?_toArray, List.getElem?_cons_succ, List.getElem?_cons_zero]; rfl) (by kernel_rfl) (by kernel_rfl) (by kernel_rfl) (fun _ _ _ h => h) (Or.inl ⟨by rfl, ?_⟩) (by assumption) ?_
            rotate_left
            · (intro w hSw; (try dsimp only at hSw); go_simp; (try with_reducible rfl))
            (try simp only [Act.put, List.setIfInBounds_toArray, List.set_cons_zero, List.set_cons_succ])
            refine wpAnyH_take (i := 20) (v := ?_) (by simp only [List.getElem?_toArray, List.getElem?_cons_succ, List.getElem?_cons_zero]; rfl) (by kernel_rfl) (by kernel_rfl) (by kernel_rfl) (fun _ _ _ h => h) (Or.inl ⟨by rfl, ?_⟩) (by assumption) ?_
            rotate_left
            · (intro w hSw; (try dsimp only at hSw); go_simp; (try with_reducible rfl))
            (try simp only [Act.put, List.setIfInBounds_toArray, List.set_cons_zero, List.set_cons_succ])
            refine wpAnyH_take (i := 22) (v := ?_) (by simp only [List.getElem?_toArray, List.getElem?_cons_succ, List.getElem?_cons_zero]; rfl) (by kernel_rfl) (by kernel_rfl) (by kernel_rfl) (fun _ _ _ h => h) (Or.inl ⟨by rfl, ?_⟩) (by assumption) ?_
            rotate_left
            · (intro w hSw; (try dsimp only at hSw); go_simp; (try with_reducible rfl))
            (try simp only [Act.put, List.setIfInBounds_toArray, List.set_cons_zero, List.set_cons_succ])
            refine wpAnyH_take (i := 23) (v := ?_) (by simp only [List.getElem?_toArray, List.getElem?_cons_succ, List.getElem?_cons_zero]; rfl) (by kernel_rfl) (by kernel_rfl) (by kernel_rfl) (fun _ _ _ h => h) (Or.inl ⟨by rfl, ?_⟩) (by assumption) ?_
            rotate_left
            · (intro w hSw; (try dsimp only at hSw); go_simp; (try with_reducible rfl))
            (try simp only [Act.put, List.setIfInBounds_toArray, List.set_cons_zero, List.set_cons_succ])
            refine wpAnyH_take (i := 26) (v := ?_) (by simp only [List.getElem?_toArray, List.getElem?_cons_succ, List.getElem?_cons_zero]; rfl) (by kernel_rfl) (by kernel_rfl) (by kernel_rfl) (fun _ _ _ h => h) (Or.inl ⟨by rfl, ?_⟩) (by assumption) ?_
            rotate_left
            · (intro w hSw; (try dsimp only at hSw); go_simp; (try with_reducible rfl))
            (try simp only [Act.put, List.setIfInBounds_toArray, List.set_cons_zero, List.set_cons_succ])
            refine wpAnyH_take (i := 27) (v := ?_) (by simp only [List.getElem?_toArray, List.getElem?_cons_succ, List.getElem?_cons_zero]; rfl) (by kernel_rfl) (by kernel_rfl) (by kernel_rfl) (fun _ _ _ h => h) (Or.inl ⟨by rfl, ?_⟩) (by assumption) ?_
            rotate_left
            · (intro w hSw; (try dsimp only at hSw); go_simp; (try with_reducible rfl))
            (try simp only [Act.put, List.setIfInBounds_toArray, List.set_cons_zero, List.set_cons_succ])
            refine wpAnyH_take (i := 28) (v := ?_) (by simp only [List.getElem?_toArray, List.getElem?_cons_succ, List.getElem?_cons_zero]; rfl) (by kernel_rfl) (by kernel_rfl) (by kernel_rfl) (fun _ _ _ h => h) (Or.inl ⟨by rfl, ?_⟩) (by assumption) ?_
            rotate_left
            · (intro w hSw; (try dsimp only at hSw); go_simp; (try with_reducible rfl))
            (try simp only [Act.put, List.setIfInBounds_toArray, List.set_cons_zero, List.set_cons_succ])
            refine wpAnyH_ready (rs := [21, 24]) (by kernel_rfl) (by simp) ?_
            refine AllReadyH.cons (by simp only [List.getElem?_toArray, List.getElem?_cons_succ, List.getElem?_cons_zero]; rfl) (fun K hK => ?_) ?_
            · go_simp
              refine hK.out _ _ ?_ (fun hHeld => ?_)
              · (first | assumption | exact K0.out | exact K1.out _ _ (by assumption) (by assumption) | exact K2.out _ _ (by assumption))
              clear hK K
              (try simp only [Act.put, List.setIfInBounds_toArray, List.set_cons_zero, List.set_cons_succ])
              refine wpAnyH_ready (rs := [24]) (by kernel_rfl) (by simp) ?_
              refine AllReadyH.cons (by simp only [List.getElem?_toArray, List.getElem?_cons_succ, List.getElem?_cons_zero]; rfl) (fun K hK => ?_) ?_
              · go_simp
                refine hK.out _ _ ?_ (fun hHeld => ?_)
                · (first | assumption | exact K0.out | exact K1.out _ _ (by assumption) (by assumption) | exact K2.out _ _ (by assumption))
                clear hK K
                (try simp only [Act.put, List.setIfInBounds_toArray, List.set_cons_zero, List.set_cons_succ])
                refine wpAnyH_ready (rs := [25]) (by kernel_rfl) (by simp) ?_
                refine AllReadyH.cons (by simp only [List.getElem?_toArray, List.getElem?_cons_succ, List.getElem?_cons_zero]; rfl) (fun K hK => ?_) ?_
                · (go_simp; go_at_call 25; first | ((with_reducible refine (HSA.out _).mono ?_); rintro e w8 ⟨rfl, hbw8⟩) | ((with_reducible refine (HSB.out _).mono ?_); rintro e w8 ⟨rfl, hbw8⟩))
                  refine hK.out _ _ ?_ (fun hHeld => ?_)
                  · (first | assumption | exact K0.out | exact K1.out _ _ (by assumption) (by assumption) | exact K2.out _ _ (by assumption))
                  clear hK K
                  (try simp only [Act.put, List.setIfInBounds_toArray, List.set_cons_zero, List.set_cons_succ])
                  refine wpAnyH_take (i := 29) (v := ?_) (by simp only [List.getElem?_toArray, List.getElem?_cons_succ, List.getElem?_cons_zero]; rfl) (by kernel_rfl) (by kernel_rfl) (by kernel_rfl) (fun _ _ _ h => h) (Or.inl ⟨by rfl, ?_⟩) (by assumption) ?_
                  rotate_left
                  · (intro w hSw; (try dsimp only at hSw); go_simp; (try with_reducible rfl))
                  (try simp only [Act.put, List.setIfInBounds_toArray, List.set_cons_zero, List.set_cons_succ])
                  refine wpAnyH_take (i := 30) (v := ?_) (by simp only [List.getElem?_toArray, List.getElem?_cons_succ, List.getElem?_cons_zero]; rfl) (by kernel_rfl) (by kernel_rfl) (by kernel_rfl) (fun _ _ _ h => h) (Or.inl ⟨by rfl, ?_⟩) (by assumption) ?_
                  rotate_left
                  · (intro w hSw; (try dsimp only at hSw); go_simp; (try with_reducible rfl))
                  (try simp only [Act.put, List.setIfInBounds_toArray, List.set_cons_zero, List.set_cons_succ])
                  refine wpAnyH_take (i := 31) (v := ?_) (by simp only [List.getElem?_toArray, List.getElem?_cons_succ, List.getElem?_cons_zero]; rfl) (by kernel_rfl) (by kernel_rfl) (by kernel_rfl) (fun _ _ _ h => h) (Or.inl ⟨by rfl, ?_⟩) (by assumption) ?_
                  rotate_left
                  · (intro w hSw; (try dsimp only at hSw); go_simp; (try with_reducible rfl))
                  (try simp only [Act.put, List.setIfInBounds_toArray, List.set_cons_zero, List.set_cons_succ])
                  refine wpAnyH_take (i := 32) (v := ?_) (by simp only [List.getElem?_toArray, List.getElem?_cons_succ, List.getElem?_cons_zero]; rfl) (by kernel_rfl) (by kernel_rfl) (by kernel_rfl) (fun _ _ _ h => h) (Or.inl ⟨by rfl, ?_⟩) (by assumption) ?_
                  rotate_left
                  · (intro w hSw; (try dsimp only at hSw); go_simp; (try with_reducible rfl))
                  (try simp only [Act.put, List.setIfInBounds_toArray, List.set_cons_zero, List.set_cons_succ])
                  refine wpAnyH_ready (rs := [33]) (by kernel_rfl) (by simp) ?_
                  refine AllReadyH.cons (by simp only [List.getElem?_toArray, List.getElem?_cons_succ, List.getElem?_cons_zero]; rfl) (fun K hK => ?_) ?_
                  · go_simp
                    refine hK.out _ _ ?_ (fun hHeld => ?_)
                    · (first | assumption | exact K0.out | exact K1.out _ _ (by assumption) (by assumption) | exact K2.out _ _ (by assumption))
                    clear hK K
                    (try simp only [Act.put, List.setIfInBounds_toArray, List.set_cons_zero, List.set_cons_succ])
                    refine wpAnyH_ready (rs := [34]) (by kernel_rfl) (by simp) ?_
                    refine AllReadyH.cons (by simp only [List.getElem?_toArray, List.getElem?_cons_succ, List.getElem?_cons_zero]; rfl) (fun K hK => ?_) ?_
                    · (go_simp; go_at_call 25; first | ((with_reducible refine (HS1.out _).mono ?_); rintro e w9 ⟨rfl, hbw9⟩))
                      refine hK.out _ _ ?_ (fun hHeld => ?_)
                      · (first | assumption | exact K0.out | exact K1.out _ _ (by assumption) (by assumption) | exact K2.out _ _ (by assumption))
                      clear hK K
                      (try simp only [Act.put, List.setIfInBounds_toArray, List.set_cons_zero, List.set_cons_succ])
                      refine wpAnyH_take (i := 35) (v := ?_) (by simp only [List.getElem?_toArray, List.getElem?_cons_succ, List.getElem?_cons_zero]; rfl) (by kernel_rfl) (by kernel_rfl) (by kernel_rfl) (fun _ _ _ h => h) (Or.inl ⟨by rfl, ?_⟩) (by assumption) ?_
                      rotate_left
                      · (intro w hSw; (try dsimp only at hSw); go_simp; (try with_reducible rfl))
                      (try simp only [Act.put, List.setIfInBounds_toArray, List.set_cons_zero, List.set_cons_succ])
                      refine wpAnyH_take (i := 36) (v := ?_) (by simp only [List.getElem?_toArray, List.getElem?_cons_succ, List.getElem?_cons_zero]; rfl) (by kernel_rfl) (by kernel_rfl) (by kernel_rfl) (fun _ _ _ h => h) (Or.inl ⟨by rfl, ?_⟩) (by assumption) ?_
                      rotate_left
                      · (intro w hSw; (try dsimp only at hSw); go_simp; (try with_reducible rfl))
                      (try simp only [Act.put, List.setIfInBounds_toArray, List.set_cons_zero, List.set_cons_succ])
                      refine wpAnyH_ready (rs := [37]) (by kernel_rfl) (by simp) ?_
                      refine AllReadyH.cons (by simp only [List.getElem?_toArray, List.getElem?_cons_succ, List.getElem?_cons_zero]; rfl) (fun K hK => ?_) ?_
                      · go_simp
                        refine hK.out _ _ ?_ (fun hHeld => ?_)
                        · (first | assumption | exact K0.out | exact K1.out _ _ (by assumption) (by assumption) | exact K2.out _ _ (by assumption))
                        clear hK K
                        (try simp only [Act.put, List.setIfInBounds_toArray, List.set_cons_zero, List.set_cons_succ])
                        refine wpAnyH_ready (rs := [38]) (by kernel_rfl) (by simp) ?_
                        refine AllReadyH.cons (by simp only [List.getElem?_toArray, List.getElem?_cons_succ, List.getElem?_cons_zero]; rfl) (fun K hK => ?_) ?_
                        · (go_simp; go_at_call 25; first | ((with_reducible refine (HS0.out _).mono ?_); rintro e wx ⟨rfl, hbwx⟩))
                          refine hK.out _ _ ?_ (fun hHeld => ?_)
                          · (first | assumption | exact K0.out | exact K1.out _ _ (by assumption) (by assumption) | exact K2.out _ _ (by assumption))
                          clear hK K
                          (try simp only [Act.put, List.setIfInBounds_toArray, List.set_cons_zero, List.set_cons_succ])
                          refine wpAnyH_take (i := 39) (v := ?_) (by simp only [List.getElem?_toArray, List.getElem?_cons_succ, List.getElem?_cons_zero]; rfl) (by kernel_rfl) (by kernel_rfl) (by kernel_rfl) (fun _ _ _ h => h) (Or.inl ⟨by rfl, ?_⟩) (by assumption) ?_
                          rotate_left
                          · (intro w hSw; (try dsimp only at hSw); go_simp; (try with_reducible rfl))
                          (try simp only [Act.put, List.setIfInBounds_toArray, List.set_cons_zero, List.set_cons_succ])
                          refine wpAnyH_take (i := 40) (v := ?_) (by simp only [List.getElem?_toArray, List.getElem?_cons_succ, List.getElem?_cons_zero]; rfl) (by kernel_rfl) (by kernel_rfl) (by kernel_rfl) (fun _ _ _ h => h) (Or.inl ⟨by rfl, ?_⟩) (by assumption) ?_
                          rotate_left
                          · (intro w hSw; (try dsimp only at hSw); go_simp; (try with_reducible rfl))
                          (try simp only [Act.put, List.setIfInBounds_toArray, List.set_cons_zero, List.set_cons_succ])
                          refine wpAnyH_done (by kernel_rfl) ?_ _
                          refine NoPanic.normal ?_
                          go_wp2
                          go_meet
                          case rel => exact ⟨rfl, And.right (show _ ∧ Hid (Below S4.heap.size S4 _) by assumption)⟩
                        exact AllReadyH.nil
                      exact AllReadyH.nil
                    exact AllReadyH.nil
                  exact AllReadyH.nil
                exact AllReadyH.nil
              exact AllReadyH.nil
            refine AllReadyH.cons (by simp only [List.getElem?_toArray, List.getElem?_cons_succ, List.getElem?_cons_zero]; rfl) (fun K hK => ?_) ?_
            · go_simp
              refine hK.out _ _ ?_ (fun hHeld => ?_)
              · (first | assumption | exact K0.out | exact K1.out _ _ (by assumption) (by assumption) | exact K2.out _ _ (by assumption))
              clear hK K
              (try simp only [Act.put, List.setIfInBounds_toArray, List.set_cons_zero, List.set_cons_succ])
              refine wpAnyH_ready (rs := [21]) (by kernel_rfl) (by simp) ?_
              refine AllReadyH.cons (by simp only [List.getElem?_toArray, List.getElem?_cons_succ, List.getElem?_cons_zero]; rfl) (fun K hK => ?_) ?_
              · go_simp
                refine hK.out _ _ ?_ (fun hHeld => ?_)
                · (first | assumption | exact K0.out | exact K1.out _ _ (by assumption) (by assumption) | exact K2.out _ _ (by assumption))
                clear hK K
                (try simp only [Act.put, List.setIfInBounds_toArray, List.set_cons_zero, List.set_cons_succ])
                refine wpAnyH_ready (rs := [25]) (by kernel_rfl) (by simp) ?_
                refine AllReadyH.cons (by simp only [List.getElem?_toArray, List.getElem?_cons_succ, List.getElem?_cons_zero]; rfl) (fun K hK => ?_) ?_
                · (go_simp; go_at_call 25; first | ((with_reducible refine (HSA.out _).mono ?_); rintro e w8 ⟨rfl, hbw8⟩) | ((with_reducible refine (HSB.out _).mono ?_); rintro e w8 ⟨rfl, hbw8⟩))
                  refine hK.out _ _ ?_ (fun hHeld => ?_)
                  · (first | assumption | exact K0.out | exact K1.out _ _ (by assumption) (by assumption) | exact K2.out _ _ (by assumption))
                  clear hK K
                  (try simp only [Act.put, List.setIfInBounds_toArray, List.set_cons_zero, List.set_cons_succ])
                  refine wpAnyH_take (i := 29) (v := ?_) (by simp only [List.getElem?_toArray, List.getElem?_cons_succ, List.getElem?_cons_zero]; rfl) (by kernel_rfl) (by kernel_rfl) (by kernel_rfl) (fun _ _ _ h => h) (Or.inl ⟨by rfl, ?_⟩) (by assumption) ?_
                  rotate_left
                  · (intro w hSw; (try dsimp only at hSw); go_simp; (try with_reducible rfl))
                  (try simp only [Act.put, List.setIfInBounds_toArray, List.set_cons_zero, List.set_cons_succ])
                  refine wpAnyH_take (i := 30) (v := ?_) (by simp only [List.getElem?_toArray, List.getElem?_cons_succ, List.getElem?_cons_zero]; rfl) (by kernel_rfl) (by kernel_rfl) (by kernel_rfl) (fun _ _ _ h => h) (Or.inl ⟨by rfl, ?_⟩) (by assumption) ?_
                  rotate_left
                  · (intro w hSw; (try dsimp only at hSw); go_simp; (try with_reducible rfl))
                  (try simp only [Act.put, List.setIfInBounds_toArray, List.set_cons_zero, List.set_cons_succ])
                  refine wpAnyH_take (i := 31) (v := ?_) (by simp only [List.getElem?_toArray, List.getElem?_cons_succ, List.getElem?_cons_zero]; rfl) (by kernel_rfl) (by kernel_rfl) (by kernel_rfl) (fun _ _ _ h => h) (Or.inl ⟨by rfl, ?_⟩) (by assumption) ?_
                  rotate_left
                  · (intro w hSw; (try dsimp only at hSw); go_simp; (try with_reducible rfl))
                  (try simp only [Act.put, List.setIfInBounds_toArray, List.set_cons_zero, List.set_cons_succ])
                  refine wpAnyH_take (i := 32) (v := ?_) (by simp only [List.getElem?_toArray, List.getElem?_cons_succ, List.getElem?_cons_zero]; rfl) (by kernel_rfl) (by kernel_rfl) (by kernel_rfl) (fun _ _ _ h => h) (Or.inl ⟨by rfl, ?_⟩) (by assumption) ?_
                  rotate_left
                  · (intro w hSw; (try dsimp only at hSw); go_simp; (try with_reducible rfl))
                  (try simp only [Act.put, List.setIfInBounds_toArray, List.set_cons_zero, List.set_cons_succ])
                  refine wpAnyH_ready (rs := [33]) (by kernel_rfl) (by simp) ?_
                  refine AllReadyH.cons (by simp only [List.getElem?_toArray, List.getElem?_cons_succ, List.getElem?_cons_zero]; rfl) (fun K hK => ?_) ?_
                  · go_simp
                    refine hK.out _ _ ?_ (fun hHeld => ?_)
                    · (first | assumption | exact K0.out | exact K1.out _ _ (by assumption) (by assumption) | exact K2.out _ _ (by assumption))
                    clear hK K
                    (try simp only [Act.put, List.setIfInBounds_toArray, List.set_cons_zero, List.set_cons_succ])
                    refine wpAnyH_ready (rs := [34]) (by kernel_rfl) (by simp) ?_
                    refine AllReadyH.cons (by simp only [List.getElem?_toArray, List.getElem?_cons_succ, List.getElem?_cons_zero]; rfl) (fun K hK => ?_) ?_
                    · (go_simp; go_at_call 25; first | ((with_reducible refine (HS1.out _).mono ?_); rintro e w9 ⟨rfl, hbw9⟩))
                      refine hK.out _ _ ?_ (fun hHeld => ?_)
                      · (first | assumption | exact K0.out | exact K1.out _ _ (by assumption) (by assumption) | exact K2.out _ _ (by assumption))
                      clear hK K
                      (try simp only [Act.put, List.setIfInBounds_toArray, List.set_cons_zero, List.set_cons_succ])
                      refine wpAnyH_take (i := 35) (v := ?_) (by simp only [List.getElem?_toArray, List.getElem?_cons_succ, List.getElem?_cons_zero]; rfl) (by kernel_rfl) (by kernel_rfl) (by kernel_rfl) (fun _ _ _ h => h) (Or.inl ⟨by rfl, ?_⟩) (by assumption) ?_
                      rotate_left
                      · (intro w hSw; (try dsimp only at hSw); go_simp; (try with_reducible rfl))
                      (try simp only [Act.put, List.setIfInBounds_toArray, List.set_cons_zero, List.set_cons_succ])
                      refine wpAnyH_take (i := 36) (v := ?_) (by simp only [List.getElem?_toArray, List.getElem?_cons_succ, List.getElem?_cons_zero]; rfl) (by kernel_rfl) (by kernel_rfl) (by kernel_rfl) (fun _ _ _ h => h) (Or.inl ⟨by rfl, ?_⟩) (by assumption) ?_
                      rotate_left
                      · (intro w hSw; (try dsimp only at hSw); go_simp; (try with_reducible rfl))
                      (try simp only [Act.put, List.setIfInBounds_toArray, List.set_cons_zero, List.set_cons_succ])
                      refine wpAnyH_ready (rs := [37]) (by kernel_rfl) (by simp) ?_
                      refine AllReadyH.cons (by simp only [List.getElem?_toArray, List.getElem?_cons_succ, List.getElem?_cons_zero]; rfl) (fun K hK => ?_) ?_
                      · go_simp
                        refine hK.out _ _ ?_ (fun hHeld => ?_)
                        · (first | assumption | exact K0.out | exact K1.out _ _ (by assumption) (by assumption) | exact K2.out _ _ (by assumption))
                        clear hK K
                        (try simp only [Act.put, List.setIfInBounds_toArray, List.set_cons_zero, List.set_cons_succ])
                        refine wpAnyH_ready (rs := [38]) (by kernel_rfl) (by simp) ?_
                        refine AllReadyH.cons (by simp only [List.getElem?_toArray, List.getElem?_cons_succ, List.getElem?_cons_zero]; rfl) (fun K hK => ?_) ?_
                        · (go_simp; go_at_call 25; first | ((with_reducible refine (HS0.out _).mono ?_); rintro e wx ⟨rfl, hbwx⟩))
                          refine hK.out _ _ ?_ (fun hHeld => ?_)
                          · (first | assumption | exact K0.out | exact K1.out _ _ (by assumption) (by assumption) | exact K2.out _ _ (by assumption))
                          clear hK K
                          (try simp only [Act.put, List.setIfInBounds_toArray, List.set_cons_zero, List.set_cons_succ])
                          refine wpAnyH_take (i := 39) (v := ?_) (by simp only [List.getElem?_toArray, List.getElem?_cons_succ, List.getElem?_cons_zero]; rfl) (by kernel_rfl) (by kernel_rfl) (by kernel_rfl) (fun _ _ _ h => h) (Or.inl ⟨by rfl, ?_⟩) (by assumption) ?_
                          rotate_left
                          · (intro w hSw; (try dsimp only at hSw); go_simp; (try with_reducible rfl))
                          (try simp only [Act.put, List.setIfInBounds_toArray, List.set_cons_zero, List.set_cons_succ])
                          refine wpAnyH_take (i := 40) (v := ?_) (by simp only [List.getElem?_toArray, List.getElem?_cons_succ, List.getElem?_cons_zero]; rfl) (by kernel_rfl) (by kernel_rfl) (by kernel_rfl) (fun _ _ _ h => h) (Or.inl ⟨by rfl, ?_⟩) (by assumption) ?_
                          rotate_left
                          · (intro w hSw; (try dsimp only at hSw); go_simp; (try with_reducible rfl))
                          (try simp only [Act.put, List.setIfInBounds_toArray, List.set_cons_zero, List.set_cons_succ])
                          refine wpAnyH_done (by kernel_rfl) ?_ _
                          refine NoPanic.normal ?_
                          go_wp2
                          go_meet
                          case rel => exact ⟨rfl, And.right (show _ ∧ Hid (Below S4.heap.size S4 _) by assumption)⟩
                        exact AllReadyH.nil
                      exact AllReadyH.nil
                    exact AllReadyH.nil
                  exact AllReadyH.nil
                exact AllReadyH.nil
              exact AllReadyH.nil
            exact AllReadyH.nil
          exact AllReadyH.nil
        | true =>
          cases m2 with
          | false =>
            refine wp_region_noPanic ?_
            refine wp_region_held_drew (S := (fun w' => (((w'.cell? ⟨BA, 0, none⟩ = some (.int .i64 a1) ∧ w'.cell? ⟨BA, 1, none⟩ = some (.int .i64 a2) ∧ w'.cell? ⟨BA, 2, none⟩ = some (.int .i64 a3)) ∧ (w'.cell? ⟨BA + 1, 0, none⟩ = some (.int .i64 b1) ∧ w'.cell? ⟨BA + 1, 1, none⟩ = some (.int .i64 b2) ∧ w'.cell? ⟨BA + 1, 2, none⟩ = some (.int .i64 b3)) ∧ (w'.cell? ⟨BA + 1 + 1, 0, none⟩ = some (.int .i64 c1) ∧ w'.cell? ⟨BA + 1 + 1, 1, none⟩ = some (.int .i64 c2) ∧ w'.cell? ⟨BA + 1 + 1, 2, none⟩ = some (.int .i64 c3)) ∧ (BA < w'.heap.size ∧ BA + 1 < w'.heap.size ∧ BA + 1 + 1 < w'.heap.size)) ∧ Hid (Below S4.heap.size S4 w')))) (by kernel_rfl) ?_ (fun hHeld => ?_)
            · (first | assumption | exact K0.out | exact K1.out _ _ (by assumption) (by assumption) | exact K2.out _ _ (by assumption))
            refine wpAnyH_take (i := 0) (v := ?_) (by simp only [List.getElem?_toArray, List.getElem?_cons_zero]; rfl) (by kernel_rfl) (by kernel_rfl) (by kernel_rfl) (fun _ _ _ h => h) (Or.inl ⟨by rfl, ?_⟩) (by assumption) ?_
            rotate_left
            · (intro w hSw; (try dsimp only at hSw); go_simp; (try with_reducible rfl))
            (try simp only [Act.put, List.setIfInBounds_toArray, List.set_cons_zero, List.set_cons_succ])
            refine wpAnyH_take (i := 1) (v := ?_) (by simp only [List.getElem?_toArray, List.getElem?_cons_succ, List.getElem?_cons_zero]; rfl) (by kernel_rfl) (by kernel_rfl) (by kernel_rfl) (fun _ _ _ h => h) (Or.inl ⟨by rfl, ?_⟩) (by assumption) ?_
            rotate_left
            · (intro w hSw; (try dsimp only at hSw); go_simp; (try with_reducible rfl))
            (try simp only [Act.put, List.setIfInBounds_toArray, List.set_cons_zero, List.set_cons_succ])
            refine wpAnyH_take (i := 2) (v := ?_) (by simp only [List.getElem?_toArray, List.getElem?_cons_succ, List.getElem?_cons_zero]; rfl) (by kernel_rfl) (by kernel_rfl) (by kernel_rfl) (fun _ _ _ h => h) (Or.inl ⟨by rfl, ?_⟩) (by assumption) ?_
            rotate_left
            · (intro w hSw; (try dsimp only at hSw); go_simp; (try with_reducible rfl))
            (try simp only [Act.put, List.setIfInBounds_toArray, List.set_cons_zero, List.set_cons_succ])
            refine wpAnyH_take (i := 3) (v := ?_) (by simp only [List.getElem?_toArray, List.getElem?_cons_succ, List.getElem?_cons_zero]; rfl) (by kernel_rfl) (by kernel_rfl) (by kernel_rfl) (fun _ _ _ h => h) (Or.inl ⟨by rfl, ?_⟩) (by assumption) ?_
            rotate_left
            · (intro w hSw; (try dsimp only at hSw); go_simp; (try with_reducible rfl))
            (try simp only [Act.put, List.setIfInBounds_toArray, List.set_cons_zero, List.set_cons_succ])
            refine wpAnyH_take (i := 4) (v := ?_) (by simp only [List.getElem?_toArray, List.getElem?_cons_succ, List.getElem?_cons_zero]; rfl) (by kernel_rfl) (by kernel_rfl) (by kernel_rfl) (fun _ _ _ h => h) (Or.inl ⟨by rfl, ?_⟩) (by assumption) ?_
            rotate_left
            · (intro w hSw; (try dsimp only at hSw); go_simp; (try with_reducible rfl))
            (try simp only [Act.put, List.setIfInBounds_toArray, List.set_cons_zero, List.set_cons_succ])
            refine wpAnyH_ready (rs := [5]) (by kernel_rfl) (by simp) ?_
            refine AllReadyH.cons (by simp only [List.getElem?_toArray, List.getElem?_cons_succ, List.getElem?_cons_zero]; rfl) (fun K hK => ?_) ?_
            · (go_simp; go_at_call 33; (with_reducible refine (HLab.out _).mono ?_); rintro e w5 ⟨rfl, hbw5⟩)
              refine hK.out _ _ ?_ (fun hHeld => ?_)
              · (first | assumption | exact K0.out | exact K1.out _ _ (by assumption) (by assumption) | exact K2.out _ _ (by assumption))
              clear hK K
              (try simp only [Act.put, List.setIfInBounds_toArray, List.set_cons_zero, List.set_cons_succ])
              refine wpAnyH_take (i := 6) (v := ?_) (by simp only [List.getElem?_toArray, List.getElem?_cons_succ, List.getElem?_cons_zero]; rfl) (by kernel_rfl) (by kernel_rfl) (by kernel_rfl) (fun _ _ _ h => h) (Or.inl ⟨by rfl, ?_⟩) (by assumption) ?_
              rotate_left
              · (intro w hSw; (try dsimp only at hSw); go_simp; (try with_reducible rfl))
              (try simp only [Act.put, List.setIfInBounds_toArray, List.set_cons_zero, List.set_cons_succ])
              refine wpAnyH_take (i := 7) (v := ?_) (by simp only [List.getElem?_toArray, List.getElem?_cons_succ, List.getElem?_cons_zero]; rfl) (by kernel_rfl) (by kernel_rfl) (by kernel_rfl) (fun _ _ _ h => h) (Or.inl ⟨by rfl, ?_⟩) (by assumption) ?_
              rotate_left
              · (intro w hSw; (try dsimp only at hSw); go_simp; (try with_reducible rfl))
              (try simp only [Act.put, List.setIfInBounds_toArray, List.set_cons_zero, List.set_cons_succ])
              refine wpAnyH_take (i := 8) (v := ?_) (by simp only [List.getElem?_toArray, List.getElem?_cons_succ, List.getElem?_cons_zero]; rfl) (by kernel_rfl) (by kernel_rfl) (by kernel_rfl) (fun _ _ _ h => h) (Or.inl ⟨by rfl, ?_⟩) (by assumption) ?_
              rotate_left
              · (intro w hSw; (try dsimp only at hSw); go_simp; (try with_reducible rfl))
              (try simp only [Act.put, List.setIfInBounds_toArray, List.set_cons_zero, List.set_cons_succ])
              refine wpAnyH_ready (rs := [9]) (by kernel_rfl) (by simp) ?_
              refine AllReadyH.cons (by simp only [List.getElem?_toArray, List.getElem?_cons_succ, List.getElem?_cons_zero]; rfl) (fun K hK => ?_) ?_
              · (go_simp; go_at_call 33; (with_reducible refine (HLbc.out _).mono ?_); rintro e w6 ⟨rfl, hbw6⟩)
                refine hK.out _ _ ?_ (fun hHeld => ?_)
                · (first | assumption | exact K0.out | exact K1.out _ _ (by assumption) (by assumption) | exact K2.out _ _ (by assumption))
                clear hK K
                (try simp only [Act.put, List.setIfInBounds_toArray, List.set_cons_zero, List.set_cons_succ])
                refine wpAnyH_take (i := 10) (v := ?_) (by simp only [List.getElem?_toArray, List.getElem?_cons_succ, List.getElem?_cons_zero]; rfl) (by kernel_rfl) (by kernel_rfl) (by kernel_rfl) (fun _ _ _ h => h) (Or.inl ⟨by rfl, ?_⟩) (by assumption) ?_
                rotate_left
                · (intro w hSw; (try dsimp only at hSw); go_simp; (try with_reducible rfl))
                (try simp only [Act.put, List.setIfInBounds_toArray, List.set_cons_zero, List.set_cons_succ])
                refine wpAnyH_take (i := 11) (v := ?_) (by simp only [List.getElem?_toArray, List.getElem?_cons_succ, List.getElem?_cons_zero]; rfl) (by kernel_rfl) (by kernel_rfl) (by kernel_rfl) (fun _ _ _ h => h) (Or.inl ⟨by rfl, ?_⟩) (by assumption) ?_
                rotate_left
                · (intro w hSw; (try dsimp only at hSw); go_simp; (try with_reducible rfl))
                (try simp only [Act.put, List.setIfInBounds_toArray, List.set_cons_zero, List.set_cons_succ])
                refine wpAnyH_take (i := 12) (v := undef) (by simp only [List.getElem?_toArray, List.getElem?_cons_succ, List.getElem?_cons_zero]; rfl) (by kernel_rfl) (by kernel_rfl) (by kernel_rfl) (fun _ _ _ h => h) (Or.inr ⟨by rfl, rfl⟩) (by assumption) ?_
                (try simp only [Act.put, List.setIfInBounds_toArray, List.set_cons_zero, List.set_cons_succ])
                refine wpAnyH_take (i := 13) (v := undef) (by simp only [List.getElem?_toArray, List.getElem?_cons_succ, List.getElem?_cons_zero]; rfl) (by kernel_rfl) (by kernel_rfl) (by kernel_rfl) (fun _ _ _ h => h) (Or.inr ⟨by rfl, rfl⟩) (by assumption) ?_
                (try simp only [Act.put, List.setIfInBounds_toArray, List.set_cons_zero, List.set_cons_succ])
                refine wpAnyH_take (i := 14) (v := undef) (by simp only [List.getElem?_toArray, List.getElem?_cons_succ, List.getElem?_cons_zero]; rfl) (by kernel_rfl) (by kernel_rfl) (by kernel_rfl) (fun _ _ _ h => h) (Or.inr ⟨by rfl, rfl⟩) (by assumption) ?_
                (try simp only [Act.put, List.setIfInBounds_toArray, List.set_cons_zero, List.set_cons_succ])
                refine wpAnyH_take (i := 15) (v := undef) (by simp only [List.getElem?_toArray, List.getElem?_cons_succ, List.getElem?_cons_zero]; rfl) (by kernel_rfl) (by kernel_rfl) (by kernel_rfl) (fun _ _ _ h => h) (Or.inr ⟨by rfl, rfl⟩) (by assumption) ?_
                (try simp only [Act.put, List.setIfInBounds_toArray, List.set_cons_zero, List.set_cons_succ])
                refine wpAnyH_take (i := 16) (v := ?_) (by simp only [List.getElem?_toArray, List.getElem?_cons_succ, List.getElem?_cons_zero]; rfl) (by kernel_rfl) (by kernel_rfl) (by kernel_rfl) (fun _ _ _ h => h) (Or.inl ⟨by rfl, ?_⟩) (by assumption) ?_
                rotate_left
                · (intro w hSw; (try dsimp only at hSw); go_simp; (try with_reducible rfl))
                (try simp only [Act.put, List.setIfInBounds_toArray, List.set_cons_zero, List.set_cons_succ])
                refine wpAnyH_take (i := 17) (v := ?_) (by simp only [List.getElem?_toArray, List.getElem?_cons_succ, List.getElem?_cons_zero]; rfl) (by kernel_rfl) (by kernel_rfl) (by kernel_rfl) (fun _ _ _ h => h) (Or.inl ⟨by rfl, ?_⟩) (by assumption) ?_
                rotate_left
                · (intro w hSw; (try dsimp only at hSw); go_simp; (try with_reducible rfl))
                (try simp only [Act.put, List.setIfInBounds_toArray, List.set_cons_zero, List.set_cons_succ])
                refine wpAnyH_take (i := 18) (v := ?_) (by simp only [List.getElem?_toArray, List.getElem?_cons_succ, List.getElem?_cons_zero]; rfl) (by kernel_rfl) (by kernel_rfl) (by kernel_rfl) (fun _ _ _ h => h) (Or.inl ⟨by rfl, ?_⟩) (by assumption) ?_
                rotate_left
                · (intro w hSw; (try dsimp only at hSw); go_simp; (try with_reducible rfl))
                (try simp only [Act.put, List.setIfInBounds_toArray, List.set_cons_zero, List.set_cons_succ])
                refine wpAnyH_take (i := 19) (v := ?_) (by simp only [List.getElem?_toArray, List.getElem?_cons_succ, List.getElem?_cons_zero]; rfl) (by kernel_rfl) (by kernel_rfl) (by kernel_rfl) (fun _ _ _ h => h) (Or.inl ⟨by rfl, ?_⟩) (by assumption) ?_
                rotate_left
                · (intro w hSw; (try dsimp only at hSw); go_simp; (try with_reducible rfl))
                (try simp only [Act.put, List.setIfInBounds_toArray, List.set_cons_zero, List.set_cons_succ])
                refine wpAnyH_take (i := 20) (v := ?_) (by simp only [List.getElem?_toArray, List.getElem?_cons_succ, List.getElem?_cons_zero]; rfl) (by kernel_rfl) (by kernel_rfl) (by kernel_rfl) (fun _ _ _ h => h) (Or.inl ⟨by rfl, ?_⟩) (by assumption) ?_
                rotate_left
                · (intro w hSw; (try dsimp only at hSw); go_simp; (try with_reducible rfl))
                (try simp only [Act.put, List.setIfInBounds_toArray, List.set_cons_zero, List.set_cons_succ])
                refine wpAnyH_take (i := 22) (v := ?_) (by simp only [List.getElem?_toArray, List.getElem?_cons_succ, List.getElem?_cons_zero]; rfl) (by kernel_rfl) (by kernel_rfl) (by kernel_rfl) (fun _ _ _ h => h) (Or.inl ⟨by rfl, ?_⟩) (by assumption) ?_
                rotate_left
                · (intro w hSw; (try dsimp only at hSw); go_simp; (try with_reducible rfl))
                (try simp only [Act.put, List.setIfInBounds_toArray, List.set_cons_zero, List.set_cons_succ])
                refine wpAnyH_take (i := 23) (v := ?_) (by simp only [List.getElem?_toArray, List.getElem?_cons_succ, List.getElem?_cons_zero]; rfl) (by kernel_rfl) (by kernel_rfl) (by kernel_rfl) (fun _ _ _ h => h) (Or.inl ⟨by rfl, ?_⟩) (by assumption) ?_
                rotate_left
                · (intro w hSw; (try dsimp only at hSw); go_simp; (try with_reducible rfl))
                (try simp only [Act.put, List.setIfInBounds_toArray, List.set_cons_zero, List.set_cons_succ])
                refine wpAnyH_take (i := 26) (v := ?_) (by simp only [List.getElem?_toArray, List.getElem?_cons_succ, List.getElem?_cons_zero]; rfl) (by kernel_rfl) (by kernel_rfl) (by kernel_rfl) (fun _ _ _ h => h) (Or.inl ⟨by rfl, ?_⟩) (by assumption) ?_
                rotate_left
                · (intro w hSw; (try dsimp only at hSw); go_simp; (try with_reducible rfl))
                (try simp only [Act.put, List.setIfInBounds_toArray, List.set_cons_zero, List.set_cons_succ])
                refine wpAnyH_take (i := 27) (v := ?_) (by simp only [List.getElem?_toArray, List.getElem?_cons_succ, List.getElem?_cons_zero]; rfl) (by kernel_rfl) (by kernel_rfl) (by kernel_rfl) (fun _ _ _ h => h) (Or.inl ⟨by rfl, ?_⟩) (by assumption) ?_
                rotate_left
                · (intro w hSw; (try dsimp only at hSw); go_simp; (try with_reducible rfl))
                (try simp only [Act.put, List.setIfInBounds_toArray, List.set_cons_zero, List.set_cons_succ])
                refine wpAnyH_take (i := 28) (v := ?_) (by simp only [List.getElem?_toArray, List.getElem?_cons_succ, List.getElem?_cons_zero]; rfl) (by kernel_rfl) (by kernel_rfl) (by kernel_rfl) (fun _ _ _ h => h) (Or.inl ⟨by rfl, ?_⟩) (by assumption) ?_
                rotate_left
                · (intro w hSw; (try dsimp only at hSw); go_simp; (try with_reducible rfl))
                (try simp only [Act.put, List.setIfInBounds_toArray, List.set_cons_zero, List.set_cons_succ])
                refine wpAnyH_ready (rs := [21, 24]) (by kernel_rfl) (by simp) ?_
                refine AllReadyH.cons (by simp only [List.getElem?_toArray, List.getElem?_cons_succ, List.getElem?_cons_zero]; rfl) (fun K hK => ?_) ?_
                · go_simp
                  refine hK.out _ _ ?_ (fun hHeld => ?_)
                  · (first | assumption | exact K0.out | exact K1.out _ _ (by assumption) (by assumption) | exact K2.out _ _ (by assumption))
                  clear hK K
                  (try simp only [Act.put, List.setIfInBounds_toArray, List.set_cons_zero, List.set_cons_succ])
                  refine wpAnyH_ready (rs := [24]) (by kernel_rfl) (by simp) ?_
                  refine AllReadyH.cons (by simp only [List.getElem?_toArray, List.getElem?_cons_succ, List.getElem?_cons_zero]; rfl) (fun K hK => ?_) ?_
                  · go_simp
                    refine hK.out _ _ ?_ (fun hHeld => ?_)
                    · (first | assumption | exact K0.out | exact K1.out _ _ (by assumption) (by assumption) | exact K2.out _ _ (by assumption))
                    clear hK K
                    (try simp only [Act.put, List.setIfInBounds_toArray, List.set_cons_zero, List.set_cons_succ])
                    refine wpAnyH_ready (rs := [25]) (by kernel_rfl) (by simp) ?_
                    refine AllReadyH.cons (by simp only [List.getElem?_toArray, List.getElem?_cons_succ, List.getElem?_cons_zero]; rfl) (fun K hK => ?_) ?_
                    · (go_simp; go_at_call 25; first | ((with_reducible refine (HSA.out _).mono ?_); rintro e w8 ⟨rfl, hbw8⟩) | ((with_reducible refine (HSB.out _).mono ?_); rintro e w8 ⟨rfl, hbw8⟩))
                      refine hK.out _ _ ?_ (fun hHeld => ?_)
                      · (first | assumption | exact K0.out | exact K1.out _ _ (by assumption) (by assumption) | exact K2.out _ _ (by assumption))
                      clear hK K
                      (try simp only [Act.put, List.setIfInBounds_toArray, List.set_cons_zero, List.set_cons_succ])
                      refine wpAnyH_take (i := 29) (v := ?_) (by simp only [List.getElem?_toArray, List.getElem?_cons_succ, List.getElem?_cons_zero]; rfl) (by kernel_rfl) (by kernel_rfl) (by kernel_rfl) (fun _ _ _ h => h) (Or.inl ⟨by rfl, ?_⟩) (by assumption) ?_
                      rotate_left
                      · (intro w hSw; (try dsimp only at hSw); go_simp; (try with_reducible rfl))
                      (try simp only [Act.put, List.setIfInBounds_toArray, List.set_cons_zero, List.set_cons_succ])
                      refine wpAnyH_take (i := 30) (v := ?_) (by simp only [List.getElem?_toArray, List.getElem?_cons_succ, List.getElem?_cons_zero]; rfl) (by kernel_rfl) (by kernel_rfl) (by kernel_rfl) (fun _ _ _ h => h) (Or.inl ⟨by rfl, ?_⟩) (by assumption) ?_
                      rotate_left
                      · (intro w hSw; (try dsimp only at hSw); go_simp; (try with_reducible rfl))
                      (try simp only [Act.put, List.setIfInBounds_toArray, List.set_cons_zero, List.set_cons_succ])
                      refine wpAnyH_take (i := 31) (v := ?_) (by simp only [List.getElem?_toArray, List.getElem?_cons_succ, List.getElem?_cons_zero]; rfl) (by kernel_rfl) (by kernel_rfl) (by kernel_rfl) (fun _ _ _ h => h) (Or.inl ⟨by rfl, ?_⟩) (by assumption) ?_
                      rotate_left
                      · (intro w hSw; (try dsimp only at hSw); go_simp; (try with_reducible rfl))
                      (try simp only [Act.put, List.setIfInBounds_toArray, List.set_cons_zero, List.set_cons_succ])
                      refine wpAnyH_take (i := 32) (v := ?_) (by simp only [List.getElem?_toArray, List.getElem?_cons_succ, List.getElem?_cons_zero]; rfl) (by kernel_rfl) (by kernel_rfl) (by kernel_rfl) (fun _ _ _ h => h) (Or.inl ⟨by rfl, ?_⟩) (by assumption) ?_
                      rotate_left
                      · (intro w hSw; (try dsimp only at hSw); go_simp; (try with_reducible rfl))
                      (try simp only [Act.put, List.setIfInBounds_toArray, List.set_cons_zero, List.set_cons_succ])
                      refine wpAnyH_ready (rs := [33]) (by kernel_rfl) (by simp) ?_
                      refine AllReadyH.cons (by simp only [List.getElem?_toArray, List.getElem?_cons_succ, List.getElem?_cons_zero]; rfl) (fun K hK => ?_) ?_
                      · go_simp
                        refine hK.out _ _ ?_ (fun hHeld => ?_)
                        · (first | assumption | exact K0.out | exact K1.out _ _ (by assumption) (by assumption) | exact K2.out _ _ (by assumption))
                        clear hK K
                        (try simp only [Act.put, List.setIfInBounds_toArray, List.set_cons_zero, List.set_cons_succ])
                        refine wpAnyH_ready (rs := [34]) (by kernel_rfl) (by simp) ?_
                        refine AllReadyH.cons (by simp only [List.getElem?_toArray, List.getElem?_cons_succ, List.getElem?_cons_zero]; rfl) (fun K hK => ?_) ?_
                        · (go_simp; go_at_call 25; first | ((with_reducible refine (HS1.out _).mono ?_); rintro e w9 ⟨rfl, hbw9⟩))
                          refine hK.out _ _ ?_ (fun hHeld => ?_)
                          · (first | assumption | exact K0.out | exact K1.out _ _ (by assumption) (by assumption) | exact K2.out _ _ (by assumption))
                          clear hK K
                          (try simp only [Act.put, List.setIfInBounds_toArray, List.set_cons_zero, List.set_cons_succ])
                          refine wpAnyH_take (i := 35) (v := ?_) (by simp only [List.getElem?_toArray, List.getElem?_cons_succ, List.getElem?_cons_zero]; rfl) (by kernel_rfl) (by kernel_rfl) (by kernel_rfl) (fun _ _ _ h => h) (Or.inl ⟨by rfl, ?_⟩) (by assumption) ?_
                          rotate_left
                          · (intro w hSw; (try dsimp only at hSw); go_simp; (try with_reducible rfl))
                          (try simp only [Act.put, List.setIfInBounds_toArray, List.set_cons_zero, List.set_cons_succ])
                          refine wpAnyH_take (i := 36) (v := ?_) (by simp only [List.getElem?_toArray, List.getElem?_cons_succ, List.getElem?_cons_zero]; rfl) (by kernel_rfl) (by kernel_rfl) (by kernel_rfl) (fun _ _ _ h => h) (Or.inl ⟨by rfl, ?_⟩) (by assumption) ?_
                          rotate_left
                          · (intro w hSw; (try dsimp only at hSw); go_simp; (try with_reducible rfl))
                          (try simp only [Act.put, List.setIfInBounds_toArray, List.set_cons_zero, List.set_cons_succ])
                          refine wpAnyH_ready (rs := [37]) (by kernel_rfl) (by simp) ?_
                          refine AllReadyH.cons (by simp only [List.getElem?_toArray, List.getElem?_cons_succ, List.getElem?_cons_zero]; rfl) (fun K hK => ?_) ?_
                          · go_simp
                            refine hK.out _ _ ?_ (fun hHeld => ?_)
                            · (first | assumption | exact K0.out | exact K1.out _ _ (by assumption) (by assumption) | exact K2.out _ _ (by assumption))
                            clear hK K
                            (try simp only [Act.put, List.setIfInBounds_toArray, List.set_cons_zero, List.set_cons_succ])
                            refine wpAnyH_ready (rs := [38]) (by kernel_rfl) (by simp) ?_
                            refine AllReadyH.cons (by simp only [List.getElem?_toArray, List.getElem?_cons_succ, List.getElem?_cons_zero]; rfl) (fun K hK => ?_) ?_
                            · (go_simp; go_at_call 25; first | ((with_reducible refine (HS0.out _).mono ?_); rintro e wx ⟨rfl, hbwx⟩))
                              refine hK.out _ _ ?_ (fun hHeld => ?_)
                              · (first | assumption | exact K0.out | exact K1.out _ _ (by assumption) (by assumption) | exact K2.out _ _ (by assumption))
                              clear hK K
                              (try simp only [Act.put, List.setIfInBounds_toArray, List.set_cons_zero, List.set_cons_succ])
                              refine wpAnyH_take (i := 39) (v := ?_) (by simp only [List.getElem?_toArray, List.getElem?_cons_succ, List.getElem?_cons_zero]; rfl) (by kernel_rfl) (by kernel_rfl) (by kernel_rfl) (fun _ _ _ h => h) (Or.inl ⟨by rfl, ?_⟩) (by assumption) ?_
                              rotate_left
                              · (intro w hSw; (try dsimp only at hSw); go_simp; (try with_reducible rfl))
                              (try simp only [Act.put, List.setIfInBounds_toArray, List.set_cons_zero, List.set_cons_succ])
                              refine wpAnyH_take (i := 40) (v := ?_) (by simp only [List.getElem?_toArray, List.getElem?_cons_succ, List.getElem?_cons_zero]; rfl) (by kernel_rfl) (by kernel_rfl) (by kernel_rfl) (fun _ _ _ h => h) (Or.inl ⟨by rfl, ?_⟩) (by assumption) ?_
                              rotate_left
                              · (intro w hSw; (try dsimp only at hSw); go_simp; (try with_reducible rfl))
                              (try simp only [Act.put, List.setIfInBounds_toArray, List.set_cons_zero, List.set_cons_succ])
                              refine wpAnyH_done (by kernel_rfl) ?_ _
                              refine NoPanic.normal ?_
                              go_wp2
                              go_meet
                              case rel => exact ⟨rfl, And.right (show _ ∧ Hid (Below S4.heap.size S4 _) by assumption)⟩
                            exact AllReadyH.nil
                          exact AllReadyH.nil
                        exact AllReadyH.nil
                      exact AllReadyH.nil
                    exact AllReadyH.nil
                  exact AllReadyH.nil
                refine AllReadyH.cons (by simp only [List.getElem?_toArray, List.getElem?_cons_succ, List.getElem?_cons_zero]; rfl) (fun K hK => ?_) ?_
                · go_simp
                  refine hK.out _ _ ?_ (fun hHeld => ?_)
                  · (first | assumption | exact K0.out | exact K1.out _ _ (by assumption) (by assumption) | exact K2.out _ _ (by assumption))
                  clear hK K
                  (try simp only [Act.put, List.setIfInBounds_toArray, List.set_cons_zero, List.set_cons_succ])
                  refine wpAnyH_ready (rs := [21]) (by kernel_rfl) (by simp) ?_
                  refine AllReadyH.cons (by simp only [List.getElem?_toArray, List.getElem?_cons_succ, List.getElem?_cons_zero]; rfl) (fun K hK => ?_) ?_
                  · go_simp
                    refine hK.out _ _ ?_ (fun hHeld => ?_)
                    · (first | assumption | exact K0.out | exact K1.out _ _ (by assumption) (by assumption) | exact K2.out _ _ (by assumption))
                    clear hK K
                    (try simp only [Act.put, List.setIfInBounds_toArray, List.set_cons_zero, List.set_cons_succ])
                    refine wpAnyH_ready (rs := [25]) (by kernel_rfl) (by simp) ?_
                    refine AllReadyH.cons (by simp only [List.getElem?_toArray, List.getElem?_cons_succ, List.getElem?_cons_zero]; rfl) (fun K hK => ?_) ?_
                    · (go_simp; go_at_call 25; first | ((with_reducible refine (HSA.out _).mono ?_); rintro e w8 ⟨rfl, hbw8⟩) | ((with_reducible refine (HSB.out _).mono ?_); rintro e w8 ⟨rfl, hbw8⟩))
                      refine hK.out _ _ ?_ (fun hHeld => ?_)
                      · (first | assumption | exact K0.out | exact K1.out _ _ (by assumption) (by assumption) | exact K2.out _ _ (by assumption))
                      clear hK K
                      (try simp only [Act.put, List.setIfInBounds_toArray, List.set_cons_zero, List.set_cons_succ])
                      refine wpAnyH_take (i := 29) (v := ?_) (by simp only [List.getElem?_toArray, List.getElem?_cons_succ, List.getElem?_cons_zero]; rfl) (by kernel_rfl) (by kernel_rfl) (by kernel_rfl) (fun _ _ _ h => h) (Or.inl ⟨by rfl, ?_⟩) (by assumption) ?_
                      rotate_left
                      · (intro w hSw; (try dsimp only at hSw); go_simp; (try with_reducible rfl))
                      (try simp only [Act.put, List.setIfInBounds_toArray, List.set_cons_zero, List.set_cons_succ])
                      refine wpAnyH_take (i := 30) (v := ?_) (by simp only [List.getElem?_toArray, List.getElem?_cons_succ, List.getElem?_cons_zero]; rfl) (by kernel_rfl) (by kernel_rfl) (by kernel_rfl) (fun _ _ _ h => h) (Or.inl ⟨by rfl, ?_⟩) (by assumption) ?_
                      rotate_left
                      · (intro w hSw; (try dsimp only at hSw); go_simp; (try with_reducible rfl))
                      (try simp only [Act.put, List.setIfInBounds_toArray, List.set_cons_zero, List.set_cons_succ])
                      refine wpAnyH_take (i := 31) (v := ?_) (by simp only [List.getElem?_toArray, List.getElem?_cons_succ, List.getElem?_cons_zero]; rfl) (by kernel_rfl) (by kernel_rfl) (by kernel_rfl) (fun _ _ _ h => h) (Or.inl ⟨by rfl, ?_⟩) (by assumption) ?_
                      rotate_left
                      · (intro w hSw; (try dsimp only at hSw); go_simp; (try with_reducible rfl))
                      (try simp only [Act.put, List.setIfInBounds_toArray, List.set_cons_zero, List.set_cons_succ])
                      refine wpAnyH_take (i := 32) (v := ?_) (by simp only [List.getElem?_toArray, List.getElem?_cons_succ, List.getElem?_cons_zero]; rfl) (by kernel_rfl) (by kernel_rfl) (by kernel_rfl) (fun _ _ _ h => h) (Or.inl ⟨by rfl, ?_⟩) (by assumption) ?_
                      rotate_left
                      · (intro w hSw; (try dsimp only at hSw); go_simp; (try with_reducible rfl))
                      (try simp only [Act.put, List.setIfInBounds_toArray, List.set_cons_zero, List.set_cons_succ])
                      refine wpAnyH_ready (rs := [33]) (by kernel_rfl) (by simp) ?_
                      refine AllReadyH.cons (by simp only [List.getElem?_toArray, List.getElem?_cons_succ, List.getElem?_cons_zero]; rfl) (fun K hK => ?_) ?_
                      · go_simp
                        refine hK.out _ _ ?_ (fun hHeld => ?_)
                        · (first | assumption | exact K0.out | exact K1.out _ _ (by assumption) (by assumption) | exact K2.out _ _ (by assumption))
                        clear hK K
                        (try simp only [Act.put, List.setIfInBounds_toArray, List.set_cons_zero, List.set_cons_succ])
                        refine wpAnyH_ready (rs := [34]) (by kernel_rfl) (by simp) ?_
                        refine AllReadyH.cons (by simp only [List.getElem?_toArray, List.getElem?_cons_succ, List.getElem?_cons_zero]; rfl) (fun K hK => ?_) ?_
                        · (go_simp; go_at_call 25; first | ((with_reducible refine (HS1.out _).mono ?_); rintro e w9 ⟨rfl, hbw9⟩))
                          refine hK.out _ _ ?_ (fun hHeld => ?_)
                          · (first | assumption | exact K0.out | exact K1.out _ _ (by assumption) (by assumption) | exact K2.out _ _ (by assumption))
                          clear hK K
                          (try simp only [Act.put, List.setIfInBounds_toArray, List.set_cons_zero, List.set_cons_succ])
                          refine wpAnyH_take (i := 35) (v := ?_) (by simp only [List.getElem?_toArray, List.getElem?_cons_succ, List.getElem?_cons_zero]; rfl) (by kernel_rfl) (by kernel_rfl) (by kernel_rfl) (fun _ _ _ h => h) (Or.inl ⟨by rfl, ?_⟩) (by assumption) ?_
                          rotate_left
                          · (intro w hSw; (try dsimp only at hSw); go_simp; (try with_reducible rfl))
                          (try simp only [Act.put, List.setIfInBounds_toArray, List.set_cons_zero, List.set_cons_succ])
                          refine wpAnyH_take (i := 36) (v := ?_) (by simp only [List.getElem?_toArray, List.getElem?_cons_succ, List.getElem?_cons_zero]; rfl) (by kernel_rfl) (by kernel_rfl) (by kernel_rfl) (fun _ _ _ h => h) (Or.inl ⟨by rfl, ?_⟩) (by assumption) ?_
                          rotate_left
                          · (intro w hSw; (try dsimp only at hSw); go_simp; (try with_reducible rfl))
                          (try simp only [Act.put, List.setIfInBounds_toArray, List.set_cons_zero, List.set_cons_succ])
                          refine wpAnyH_ready (rs := [37]) (by kernel_rfl) (by simp) ?_
                          refine AllReadyH.cons (by simp only [List.getElem?_toArray, List.getElem?_cons_succ, List.getElem?_cons_zero]; rfl) (fun K hK => ?_) ?_
                          · go_simp
                            refine hK.out _ _ ?_ (fun hHeld => ?_)
                            · (first | assumption | exact K0.out | exact K1.out _ _ (by assumption) (by assumption) | exact K2.out _ _ (by assumption))
                            clear hK K
                            (try simp only [Act.put, List.setIfInBounds_toArray, List.set_cons_zero, List.set_cons_succ])
                            refine wpAnyH_ready (rs := [38]) (by kernel_rfl) (by simp) ?_
                            refine AllReadyH.cons (by simp only [List.getElem?_toArray, List.getElem?_cons_succ, List.getElem?_cons_zero]; rfl) (fun K hK => ?_) ?_
                            · (go_simp; go_at_call 25; first | ((with_reducible refine (HS0.out _).mono ?_); rintro e wx ⟨rfl, hbwx⟩))
                              refine hK.out _ _ ?_ (fun hHeld => ?_)
                              · (first | assumption | exact K0.out | exact K1.out _ _ (by assumption) (by assumption) | exact K2.out _ _ (by assumption))
                              clear hK K
                              (try simp only [Act.put, List.setIfInBounds_toArray, List.set_cons_zero, List.set_cons_succ])
                              refine wpAnyH_take (i := 39) (v := ?_) (by simp only [List.getElem?_toArray, List.getElem?_cons_succ, List.getElem?_cons_zero]; rfl) (by kernel_rfl) (by kernel_rfl) (by kernel_rfl) (fun _ _ _ h => h) (Or.inl ⟨by rfl, ?_⟩) (by assumption) ?_
                              rotate_left
                              · (intro w hSw; (try dsimp only at hSw); go_simp; (try with_reducible rfl))
                              (try simp only [Act.put, List.setIfInBounds_toArray, List.set_cons_zero, List.set_cons_succ])
                              refine wpAnyH_take (i := 40) (v := ?_) (by simp only [List.getElem?_toArray, List.getElem?_cons_succ, List.getElem?_cons_zero]; rfl) (by kernel_rfl) (by kernel_rfl) (by kernel_rfl) (fun _ _ _ h => h) (Or.inl ⟨by rfl, ?_⟩) (by assumption) ?_
                              rotate_left
                              · (intro w hSw; (try dsimp only at hSw); go_simp; (try with_reducible rfl))
                              (try simp only [Act.put, List.setIfInBounds_toArray, List.set_cons_zero, List.set_cons_succ])
                              refine wpAnyH_done (by kernel_rfl) ?_ _
                              refine NoPanic.normal ?_
                              go_wp2
                              go_meet
                              case rel => exact ⟨rfl, And.right (show _ ∧ Hid (Below S4.heap.size S4 _) by assumption)⟩
                            exact AllReadyH.nil
                          exact AllReadyH.nil
                        exact AllReadyH.nil
                      exact AllReadyH.nil
                    exact AllReadyH.nil
                  exact AllReadyH.nil
                exact AllReadyH.nil
              exact AllReadyH.nil
            exact AllReadyH.nil
          | true =>
            have hm3 : m3 = true := HTR.out rfl rfl
            subst hm3
            refine wp_region_noPanic ?_
            refine wp_region_held_drew (S := (fun w' => (((w'.cell? ⟨BA, 0, none⟩ = some (.int .i64 a1) ∧ w'.cell? ⟨BA, 1, none⟩ = some (.int .i64 a2) ∧ w'.cell? ⟨BA, 2, none⟩ = some (.int .i64 a3)) ∧ (w'.cell? ⟨BA + 1, 0, none⟩ = some (.int .i64 b1) ∧ w'.cell? ⟨BA + 1, 1, none⟩ = some (.int .i64 b2) ∧ w'.cell? ⟨BA + 1, 2, none⟩ = some (.int .i64 b3)) ∧ (w'.cell? ⟨BA + 1 + 1, 0, none⟩ = some (.int .i64 c1) ∧ w'.cell? ⟨BA + 1 + 1, 1, none⟩ = some (.int .i64 c2) ∧ w'.cell? ⟨BA + 1 + 1, 2, none⟩ = some (.int .i64 c3)) ∧ (BA < w'.heap.size ∧ BA + 1 < w'.heap.size ∧ BA + 1 + 1 < w'.heap.size)) ∧ Hid (Below S4.heap.size S4 w')))) (by kernel_rfl) ?_ (fun hHeld => ?_)
            · (first | assumption | exact K0.out | exact K1.out _ _ (by assumption) (by assumption) | exact K2.out _ _ (by assumption))
            refine wpAnyH_take (i := 0) (v := ?_) (by simp only [List.getElem?_toArray, List.getElem?_cons_zero]; rfl) (by kernel_rfl) (by kernel_rfl) (by kernel_rfl) (fun _ _ _ h => h) (Or.inl ⟨by rfl, ?_⟩) (by assumption) ?_
            rotate_left
            · (intro w hSw; (try dsimp only at hSw); go_simp; (try with_reducible rfl))
            (try simp only [Act.put, List.setIfInBounds_toArray, List.set_cons_zero, List.set_cons_succ])
            refine wpAnyH_take (i := 1) (v := ?_) (by simp only [List.getElem?_toArray, List.getElem?_cons_succ, List.getElem?_cons_zero]; rfl) (by kernel_rfl) (by kernel_rfl) (by kernel_rfl) (fun _ _ _ h => h) (Or.inl ⟨by rfl, ?_⟩) (by assumption) ?_
            rotate_left
            · (intro w hSw; (try dsimp only at hSw); go_simp; (try with_reducible rfl))
            (try simp only [Act.put, List.setIfInBounds_toArray, List.set_cons_zero, List.set_cons_succ])
            refine wpAnyH_take (i := 2) (v := ?_) (by simp only [List.getElem?_toArray, List.getElem?_cons_succ, List.getElem?_cons_zero]; rfl) (by kernel_rfl) (by kernel_rfl) (by kernel_rfl) (fun _ _ _ h => h) (Or.inl ⟨by rfl, ?_⟩) (by assumption) ?_
            rotate_left
            · (intro w hSw; (try dsimp only at hSw); go_simp; (try with_reducible rfl))
            (try simp only [Act.put, List.setIfInBounds_toArray, List.set_cons_zero, List.set_cons_succ])
            refine wpAnyH_take (i := 3) (v := ?_) (by simp only [List.getElem?_toArray, List.getElem?_cons_succ, List.getElem?_cons_zero]; rfl) (by kernel_rfl) (by kernel_rfl) (by kernel_rfl) (fun _ _ _ h => h) (Or.inl ⟨by rfl, ?_⟩) (by assumption) ?_
            rotate_left
            · (intro w hSw; (try dsimp only at hSw); go_simp; (try with_reducible rfl))
            (try simp only [Act.put, List.setIfInBounds_toArray, List.set_cons_zero, List.set_cons_succ])
            refine wpAnyH_take (i := 4) (v := ?_) (by simp only [List.getElem?_toArray, List.getElem?_cons_succ, List.getElem?_cons_zero]; rfl) (by kernel_rfl) (by kernel_rfl) (by kernel_rfl) (fun _ _ _ h => h) (Or.inl ⟨by rfl, ?_⟩) (by assumption) ?_
            rotate_left
            · (intro w hSw; (try dsimp only at hSw); go_simp; (try with_reducible rfl))
            (try simp only [Act.put, List.setIfInBounds_toArray, List.set_cons_zero, List.set_cons_succ])
            refine wpAnyH_ready (rs := [5]) (by kernel_rfl) (by simp) ?_
            refine AllReadyH.cons (by simp only [List.getElem?_toArray, List.getElem?_cons_succ, List.getElem?_cons_zero]; rfl) (fun K hK => ?_) ?_
            · (go_simp; go_at_call 33; (with_reducible refine (HLab.out _).mono ?_); rintro e w5 ⟨rfl, hbw5⟩)
              refine hK.out _ _ ?_ (fun hHeld => ?_)
              · (first | assumption | exact K0.out | exact K1.out _ _ (by assumption) (by assumption) | exact K2.out _ _ (by assumption))
              clear hK K
              (try simp only [Act.put, List.setIfInBounds_toArray, List.set_cons_zero, List.set_cons_succ])
              refine wpAnyH_take (i := 6) (v := ?_) (by simp only [List.getElem?_toArray, List.getElem?_cons_succ, List.getElem?_cons_zero]; rfl) (by kernel_rfl) (by kernel_rfl) (by kernel_rfl) (fun _ _ _ h => h) (Or.inl ⟨by rfl, ?_⟩) (by assumption) ?_
              rotate_left
              · (intro w hSw; (try dsimp only at hSw); go_simp; (try with_reducible rfl))
              (try simp only [Act.put, List.setIfInBounds_toArray, List.set_cons_zero, List.set_cons_succ])
              refine wpAnyH_take (i := 7) (v := ?_) (by simp only [List.getElem?_toArray, List.getElem?_cons_succ, List.getElem?_cons_zero]; rfl) (by kernel_rfl) (by kernel_rfl) (by kernel_rfl) (fun _ _ _ h => h) (Or.inl ⟨by rfl, ?_⟩) (by assumption) ?_
              rotate_left
              · (intro w hSw; (try dsimp only at hSw); go_simp; (try with_reducible rfl))
              (try simp only [Act.put, List.setIfInBounds_toArray, List.set_cons_zero, List.set_cons_succ])
              refine wpAnyH_take (i := 8) (v := ?_) (by simp only [List.getElem?_toArray, List.getElem?_cons_succ, List.getElem?_cons_zero]; rfl) (by kernel_rfl) (by kernel_rfl) (by kernel_rfl) (fun _ _ _ h => h) (Or.inl ⟨by rfl, ?_⟩) (by assumption) ?_
              rotate_left
              · (intro w hSw; (try dsimp only at hSw); go_simp; (try with_reducible rfl))
              (try simp only [Act.put, List.setIfInBounds_toArray, List.set_cons_zero, List.set_cons_succ])
              refine wpAnyH_ready (rs := [9]) (by kernel_rfl) (by simp) ?_
              refine AllReadyH.cons (by simp only [List.getElem?_toArray, List.getElem?_cons_succ, List.getElem?_cons_zero]; rfl) (fun K hK => ?_) ?_
              · (go_simp; go_at_call 33; (with_reducible refine (HLbc.out _).mono ?_); rintro e w6 ⟨rfl, hbw6⟩)
                refine hK.out _ _ ?_ (fun hHeld => ?_)
                · (first | assumption | exact K0.out | exact K1.out _ _ (by assumption) (by assumption) | exact K2.out _ _ (by assumption))
                clear hK K
                (try simp only [Act.put, List.setIfInBounds_toArray, List.set_cons_zero, List.set_cons_succ])
                refine wpAnyH_take (i := 10) (v := ?_) (by simp only [List.getElem?_toArray, List.getElem?_cons_succ, List.getElem?_cons_zero]; rfl) (by kernel_rfl) (by kernel_rfl) (by kernel_rfl) (fun _ _ _ h => h) (Or.inl ⟨by rfl, ?_⟩) (by assumption) ?_
                rotate_left
                · (intro w hSw; (try dsimp only at hSw); go_simp; (try with_reducible rfl))
                (try simp only [Act.put, List.setIfInBounds_toArray, List.set_cons_zero, List.set_cons_succ])
                refine wpAnyH_take (i := 11) (v := ?_) (by simp only [List.getElem?_toArray, List.getElem?_cons_succ, List.getElem?_cons_zero]; rfl) (by kernel_rfl) (by kernel_rfl) (by kernel_rfl) (fun _ _ _ h => h) (Or.inl ⟨by rfl, ?_⟩) (by assumption) ?_
                rotate_left
                · (intro w hSw; (try dsimp only at hSw); go_simp; (try with_reducible rfl))
                (try simp only [Act.put, List.setIfInBounds_toArray, List.set_cons_zero, List.set_cons_succ])
                refine wpAnyH_take (i := 12) (v := ?_) (by simp only [List.getElem?_toArray, List.getElem?_cons_succ, List.getElem?_cons_zero]; rfl) (by kernel_rfl) (by kernel_rfl) (by kernel_rfl) (fun _ _ _ h => h) (Or.inl ⟨by rfl, ?_⟩) (by assumption) ?_
                rotate_left
                · (intro w hSw; (try dsimp only at hSw); go_simp; (try with_reducible rfl))
                (try simp only [Act.put, List.setIfInBounds_toArray, List.set_cons_zero, List.set_cons_succ])
                refine wpAnyH_take (i := 13) (v := ?_) (by simp only [List.getElem?_toArray, List.getElem?_cons_succ, List.getElem?_cons_zero]; rfl) (by kernel_rfl) (by kernel_rfl) (by kernel_rfl) (fun _ _ _ h => h) (Or.inl ⟨by rfl, ?_⟩) (by assumption) ?_
                rotate_left
                · (intro w hSw; (try dsimp only at hSw); go_simp; (try with_reducible rfl))
                (try simp only [Act.put, List.setIfInBounds_toArray, List.set_cons_zero, List.set_cons_succ])
                refine wpAnyH_ready (rs := [14]) (by kernel_rfl) (by simp) ?_
                refine AllReadyH.cons (by simp only [List.getElem?_toArray, List.getElem?_cons_succ, List.getElem?_cons_zero]; rfl) (fun K hK => ?_) ?_
                · (go_simp; go_at_call 33; (with_reducible refine (HLac.out _).mono ?_); rintro e w7 ⟨rfl, hbw7⟩)
                  refine hK.out _ _ ?_ (fun hHeld => ?_)
                  · (first | assumption | exact K0.out | exact K1.out _ _ (by assumption) (by assumption) | exact K2.out _ _ (by assumption))
                  clear hK K
                  (try simp only [Act.put, List.setIfInBounds_toArray, List.set_cons_zero, List.set_cons_succ])
                  refine wpAnyH_take (i := 15) (v := ?_) (by simp only [List.getElem?_toArray, List.getElem?_cons_succ, List.getElem?_cons_zero]; rfl) (by kernel_rfl) (by kernel_rfl) (by kernel_rfl) (fun _ _ _ h => h) (Or.inl ⟨by rfl, ?_⟩) (by assumption) ?_
                  rotate_left
                  · (intro w hSw; (try dsimp only at hSw); go_simp; (try with_reducible rfl))
                  (try simp only [Act.put, List.setIfInBounds_toArray, List.set_cons_zero, List.set_cons_succ])
                  refine wpAnyH_take (i := 16) (v := ?_) (by simp only [List.getElem?_toArray, List.getElem?_cons_succ, List.getElem?_cons_zero]; rfl) (by kernel_rfl) (by kernel_rfl) (by kernel_rfl) (fun _ _ _ h => h) (Or.inl ⟨by rfl, ?_⟩) (by assumption) ?_
                  rotate_left
                  · (intro w hSw; (try dsimp only at hSw); go_simp; (try with_reducible rfl))
                  (try simp only [Act.put, List.setIfInBounds_toArray, List.set_cons_zero, List.set_cons_succ])
                  refine wpAnyH_take (i := 17) (v := ?_) (by simp only [List.getElem?_toArray, List.getElem?_cons_succ, List.getElem?_cons_zero]; rfl) (by kernel_rfl) (by kernel_rfl) (by kernel_rfl) (fun _ _ _ h => h) (Or.inl ⟨by rfl, ?_⟩) (by assumption) ?_
                  rotate_left
                  · (intro w hSw; (try dsimp only at hSw); go_simp; (try with_reducible rfl))
                  (try simp only [Act.put, List.setIfInBounds_toArray, List.set_cons_zero, List.set_cons_succ])
                  refine wpAnyH_take (i := 18) (v := ?_) (by simp only [List.getElem?_toArray, List.getElem?_cons_succ, List.getElem?_cons_zero]; rfl) (by kernel_rfl) (by kernel_rfl) (by kernel_rfl) (fun _ _ _ h => h) (Or.inl ⟨by rfl, ?_⟩) (by assumption) ?_
                  rotate_left
                  · (intro w hSw; (try dsimp only at hSw); go_simp; (try with_reducible rfl))
                  (try simp only [Act.put, List.setIfInBounds_toArray, List.set_cons_zero, List.set_cons_succ])
                  refine wpAnyH_take (i := 19) (v := ?_) (by simp only [List.getElem?_toArray, List.getElem?_cons_succ, List.getElem?_cons_zero]; rfl) (by kernel_rfl) (by kernel_rfl) (by kernel_rfl) (fun _ _ _ h => h) (Or.inl ⟨by rfl, ?_⟩) (by assumption) ?_
                  rotate_left
                  · (intro w hSw; (try dsimp only at hSw); go_simp; (try with_reducible rfl))
                  (try simp only [Act.put, List.setIfInBounds_toArray, List.set_cons_zero, List.set_cons_succ])
                  refine wpAnyH_take (i := 20) (v := ?_) (by simp only [List.getElem?_toArray, List.getElem?_cons_succ, List.getElem?_cons_zero]; rfl) (by kernel_rfl) (by kernel_rfl) (by kernel_rfl) (fun _ _ _ h => h) (Or.inl ⟨by rfl, ?_⟩) (by assumption) ?_
                  rotate_left
                  · (intro w hSw; (try dsimp only at hSw); go_simp; (try with_reducible rfl))
                  (try simp only [Act.put, List.setIfInBounds_toArray, List.set_cons_zero, List.set_cons_succ])
                  refine wpAnyH_take (i := 22) (v := ?_) (by simp only [List.getElem?_toArray, List.getElem?_cons_succ, List.getElem?_cons_zero]; rfl) (by kernel_rfl) (by kernel_rfl) (by kernel_rfl) (fun _ _ _ h => h) (Or.inl ⟨by rfl, ?_⟩) (by assumption) ?_
                  rotate_left
                  · (intro w hSw; (try dsimp only at hSw); go_simp; (try with_reducible rfl))
                  (try simp only [Act.put, List.setIfInBounds_toArray, List.set_cons_zero, List.set_cons_succ])
                  refine wpAnyH_take (i := 23) (v := ?_) (by simp only [List.getElem?_toArray, List.getElem?_cons_succ, List.getElem?_cons_zero]; rfl) (by kernel_rfl) (by kernel_rfl) (by kernel_rfl) (fun _ _ _ h => h) (Or.inl ⟨by rfl, ?_⟩) (by assumption) ?_
                  rotate_left
                  · (intro w hSw; (try dsimp only at hSw); go_simp; (try with_reducible rfl))
                  (try simp only [Act.put, List.setIfInBounds_toArray, List.set_cons_zero, List.set_cons_succ])
                  refine wpAnyH_take (i := 26) (v := ?_) (by simp only [List.getElem?_toArray, List.getElem?_cons_succ, List.getElem?_cons_zero]; rfl) (by kernel_rfl) (by kernel_rfl) (by kernel_rfl) (fun _ _ _ h => h) (Or.inl ⟨by rfl, ?_⟩) (by assumption) ?_
                  rotate_left
                  · (intro w hSw; (try dsimp only at hSw); go_simp; (try with_reducible rfl))
                  (try simp only [Act.put, List.setIfInBounds_toArray, List.set_cons_zero, List.set_cons_succ])
                  refine wpAnyH_take (i := 27) (v := ?_) (by simp only [List.getElem?_toArray, List.getElem?_cons_succ, List.getElem?_cons_zero]; rfl) (by kernel_rfl) (by kernel_rfl) (by kernel_rfl) (fun _ _ _ h => h) (Or.inl ⟨by rfl, ?_⟩) (by assumption) ?_
                  rotate_left
                  · (intro w hSw; (try dsimp only at hSw); go_simp; (try with_reducible rfl))
                  (try simp only [Act.put, List.setIfInBounds_toArray, List.set_cons_zero, List.set_cons_succ])
                  refine wpAnyH_take (i := 28) (v := ?_) (by simp only [List.getElem?_toArray, List.getElem?_cons_succ, List.getElem?_cons_zero]; rfl) (by kernel_rfl) (by kernel_rfl) (by kernel_rfl) (fun _ _ _ h => h) (Or.inl ⟨by rfl, ?_⟩) (by assumption) ?_
                  rotate_left
                  · (intro w hSw; (try dsimp only at hSw); go_simp; (try with_reducible rfl))
                  (try simp only [Act.put, List.setIfInBounds_toArray, List.set_cons_zero, List.set_cons_succ])
                  refine wpAnyH_ready (rs := [21, 24]) (by kernel_rfl) (by simp) ?_
                  refine AllReadyH.cons (by simp only [List.getElem?_toArray, List.getElem?_cons_succ, List.getElem?_cons_zero]; rfl) (fun K hK => ?_) ?_
                  · go_simp
                    refine hK.out _ _ ?_ (fun hHeld => ?_)
                    · (first | assumption | exact K0.out | exact K1.out _ _ (by assumption) (by assumption) | exact K2.out _ _ (by assumption))
                    clear hK K
                    (try simp only [Act.put, List.setIfInBounds_toArray, List.set_cons_zero, List.set_cons_succ])
                    refine wpAnyH_ready (rs := [24]) (by kernel_rfl) (by simp) ?_
                    refine AllReadyH.cons (by simp only [List.getElem?_toArray, List.getElem?_cons_succ, List.getElem?_cons_zero]; rfl) (fun K hK => ?_) ?_
                    · go_simp
                      refine hK.out _ _ ?_ (fun hHeld => ?_)
                      · (first | assumption | exact K0.out | exact K1.out _ _ (by assumption) (by assumption) | exact K2.out _ _ (by assumption))
                      clear hK K
                      (try simp only [Act.put, List.setIfInBounds_toArray, List.set_cons_zero, List.set_cons_succ])
                      refine wpAnyH_ready (rs := [25]) (by kernel_rfl) (by simp) ?_
                      refine AllReadyH.cons (by simp only [List.getElem?_toArray, List.getElem?_cons_succ, List.getElem?_cons_zero]; rfl) (fun K hK => ?_) ?_
                      · (go_simp; go_at_call 25; first | ((with_reducible refine (HSA.out _).mono ?_); rintro e w8 ⟨rfl, hbw8⟩) | ((with_reducible refine (HSB.out _).mono ?_); rintro e w8 ⟨rfl, hbw8⟩))
                        refine hK.out _ _ ?_ (fun hHeld => ?_)
                        · (first | assumption | exact K0.out | exact K1.out _ _ (by assumption) (by assumption) | exact K2.out _ _ (by assumption))
                        clear hK K
                        (try simp only [Act.put, List.setIfInBounds_toArray, List.set_cons_zero, List.set_cons_succ])
                        refine wpAnyH_take (i := 29) (v := ?_) (by simp only [List.getElem?_toArray, List.getElem?_cons_succ, List.getElem?_cons_zero]; rfl) (by kernel_rfl) (by kernel_rfl) (by kernel_rfl) (fun _ _ _ h => h) (Or.inl ⟨by rfl, ?_⟩) (by assumption) ?_
                        rotate_left
                        · (intro w hSw; (try dsimp only at hSw); go_simp; (try with_reducible rfl))
                        (try simp only [Act.put, List.setIfInBounds_toArray, List.set_cons_zero, List.set_cons_succ])
                        refine wpAnyH_take (i := 30) (v := ?_) (by simp only [List.getElem?_toArray, List.getElem?_cons_succ, List.getElem?_cons_zero]; rfl) (by kernel_rfl) (by kernel_rfl) (by kernel_rfl) (fun _ _ _ h => h) (Or.inl ⟨by rfl, ?_⟩) (by assumption) ?_
                        rotate_left
                        · (intro w hSw; (try dsimp only at hSw); go_simp; (try with_reducible rfl))
                        (try simp only [Act.put, List.setIfInBounds_toArray, List.set_cons_zero, List.set_cons_succ])
                        refine wpAnyH_take (i := 31) (v := ?_) (by simp only [List.getElem?_toArray, List.getElem?_cons_succ, List.getElem?_cons_zero]; rfl) (by kernel_rfl) (by kernel_rfl) (by kernel_rfl) (fun _ _ _ h => h) (Or.inl ⟨by rfl, ?_⟩) (by assumption) ?_
                        rotate_left
                        · (intro w hSw; (try dsimp only at hSw); go_simp; (try with_reducible rfl))
                        (try simp only [Act.put, List.setIfInBounds_toArray, List.set_cons_zero, List.set_cons_succ])
                        refine wpAnyH_take (i := 32) (v := ?_) (by simp only [List.getElem?_toArray, List.getElem?_cons_succ, List.getElem?_cons_zero]; rfl) (by kernel_rfl) (by kernel_rfl) (by kernel_rfl) (fun _ _ _ h => h) (Or.inl ⟨by rfl, ?_⟩) (by assumption) ?_
                        rotate_left
                        · (intro w hSw; (try dsimp only at hSw); go_simp; (try with_reducible rfl))
                        (try simp only [Act.put, List.setIfInBounds_toArray, List.set_cons_zero, List.set_cons_succ])
                        refine wpAnyH_ready (rs := [33]) (by kernel_rfl) (by simp) ?_
                        refine AllReadyH.cons (by simp only [List.getElem?_toArray, List.getElem?_cons_succ, List.getElem?_cons_zero]; rfl) (fun K hK => ?_) ?_
                        · go_simp
                          refine hK.out _ _ ?_ (fun hHeld => ?_)
                          · (first | assumption | exact K0.out | exact K1.out _ _ (by assumption) (by assumption) | exact K2.out _ _ (by assumption))
                          clear hK K
                          (try simp only [Act.put, List.setIfInBounds_toArray, List.set_cons_zero, List.set_cons_succ])
                          refine wpAnyH_ready (rs := [34]) (by kernel_rfl) (by simp) ?_
                          refine AllReadyH.cons (by simp only [List.getElem?_toArray, List.getElem?_cons_succ, List.getElem?_cons_zero]; rfl) (fun K hK => ?_) ?_
                          · (go_simp; go_at_call 25; first | ((with_reducible refine (HS1.out _).mono ?_); rintro e w9 ⟨rfl, hbw9⟩))
                            refine hK.out _ _ ?_ (fun hHeld => ?_)
                            · (first | assumption | exact K0.out | exact K1.out _ _ (by assumption) (by assumption) | exact K2.out _ _ (by assumption))
                            clear hK K
                            (try simp only [Act.put, List.setIfInBounds_toArray, List.set_cons_zero, List.set_cons_succ])
                            refine wpAnyH_take (i := 35) (v := ?_) (by simp only [List.getElem?_toArray, List.getElem?_cons_succ, List.getElem?_cons_zero]; rfl) (by kernel_rfl) (by kernel_rfl) (by kernel_rfl) (fun _ _ _ h => h) (Or.inl ⟨by rfl, ?_⟩) (by assumption) ?_
                            rotate_left
                            · (intro w hSw; (try dsimp only at hSw); go_simp; (try with_reducible rfl))
                            (try simp only [Act.put, List.setIfInBounds_toArray, List.set_cons_zero, List.set_cons_succ])
                            refine wpAnyH_take (i := 36) (v := ?_) (by simp only [List.getElem?_toArray, List.getElem?_cons_succ, List.getElem?_cons_zero]; rfl) (by kernel_rfl) (by kernel_rfl) (by kernel_rfl) (fun _ _ _ h => h) (Or.inl ⟨by rfl, ?_⟩) (by assumption) ?_
                            rotate_left
                            · (intro w hSw; (try dsimp only at hSw); go_simp; (try with_reducible rfl))
                            (try simp only [Act.put, List.setIfInBounds_toArray, List.set_cons_zero, List.set_cons_succ])
                            refine wpAnyH_ready (rs := [37]) (by kernel_rfl) (by simp) ?_
                            refine AllReadyH.cons (by simp only [List.getElem?_toArray, List.getElem?_cons_succ, List.getElem?_cons_zero]; rfl) (fun K hK => ?_) ?_
                            · go_simp
                              refine hK.out _ _ ?_ (fun hHeld => ?_)
                              · (first | assumption | exact K0.out | exact K1.out _ _ (by assumption) (by assumption) | exact K2.out _ _ (by assumption))
                              clear hK K
                              (try simp only [Act.put, List.setIfInBounds_toArray, List.set_cons_zero, List.set_cons_succ])
                              refine wpAnyH_ready (rs := [38]) (by kernel_rfl) (by simp) ?_
                              refine AllReadyH.cons (by simp only [List.getElem?_toArray, List.getElem?_cons_succ, List.getElem?_cons_zero]; rfl) (fun K hK => ?_) ?_
                              · (go_simp; go_at_call 25; first | ((with_reducible refine (HS0.out _).mono ?_); rintro e wx ⟨rfl, hbwx⟩))
                                refine hK.out _ _ ?_ (fun hHeld => ?_)
                                · (first | assumption | exact K0.out | exact K1.out _ _ (by assumption) (by assumption) | exact K2.out _ _ (by assumption))
                                clear hK K
                                (try simp only [Act.put, List.setIfInBounds_toArray, List.set_cons_zero, List.set_cons_succ])
                                refine wpAnyH_take (i := 39) (v := ?_) (by simp only [List.getElem?_toArray, List.getElem?_cons_succ, List.getElem?_cons_zero]; rfl) (by kernel_rfl) (by kernel_rfl) (by kernel_rfl) (fun _ _ _ h => h) (Or.inl ⟨by rfl, ?_⟩) (by assumption) ?_
                                rotate_left
                                · (intro w hSw; (try dsimp only at hSw); go_simp; (try with_reducible rfl))
                                (try simp only [Act.put, List.setIfInBounds_toArray, List.set_cons_zero, List.set_cons_succ])
                                refine wpAnyH_take (i := 40) (v := ?_) (by simp only [List.getElem?_toArray, List.getElem?_cons_succ, List.getElem?_cons_zero]; rfl) (by kernel_rfl) (by kernel_rfl) (by kernel_rfl) (fun _ _ _ h => h) (Or.inl ⟨by rfl, ?_⟩) (by assumption) ?_
                                rotate_left
                                · (intro w hSw; (try dsimp only at hSw); go_simp; (try with_reducible rfl))
                                (try simp only [Act.put, List.setIfInBounds_toArray, List.set_cons_zero, List.set_cons_succ])
                                refine wpAnyH_done (by kernel_rfl) ?_ _
                                refine NoPanic.normal ?_
                                go_wp2
                                go_meet
                                case rel => exact ⟨rfl, And.right (show _ ∧ Hid (Below S4.heap.size S4 _) by assumption)⟩
                              exact AllReadyH.nil
                            exact AllReadyH.nil
                          exact AllReadyH.nil
                        exact AllReadyH.nil
                      exact AllReadyH.nil
                    exact AllReadyH.nil
                  refine AllReadyH.cons (by simp only [List.getElem?_toArray, List.getElem?_cons_succ, List.getElem?_cons_zero]; rfl) (fun K hK => ?_) ?_
                  · go_simp
                    refine hK.out _ _ ?_ (fun hHeld => ?_)
                    · (first | assumption | exact K0.out | exact K1.out _ _ (by assumption) (by assumption) | exact K2.out _ _ (by assumption))
                    clear hK K
                    (try simp only [Act.put, List.setIfInBounds_toArray, List.set_cons_zero, List.set_cons_succ])
                    refine wpAnyH_ready (rs := [21]) (by kernel_rfl) (by simp) ?_
                    refine AllReadyH.cons (by simp only [List.getElem?_toArray, List.getElem?_cons_succ, List.getElem?_cons_zero]; rfl) (fun K hK => ?_) ?_
                    · go_simp
                      refine hK.out _ _ ?_ (fun hHeld => ?_)
                      · (first | assumption | exact K0.out | exact K1.out _ _ (by assumption) (by assumption) | exact K2.out _ _ (by assumption))
                      clear hK K
                      (try simp only [Act.put, List.setIfInBounds_toArray, List.set_cons_zero, List.set_cons_succ])
                      refine wpAnyH_ready (rs := [25]) (by kernel_rfl) (by simp) ?_
                      refine AllReadyH.cons (by simp only [List.getElem?_toArray, List.getElem?_cons_succ, List.getElem?_cons_zero]; rfl) (fun K hK => ?_) ?_
                      · (go_simp; go_at_call 25; first | ((with_reducible refine (HSA.out _).mono ?_); rintro e w8 ⟨rfl, hbw8⟩) | ((with_reducible refine (HSB.out _).mono ?_); rintro e w8 ⟨rfl, hbw8⟩))
                        refine hK.out _ _ ?_ (fun hHeld => ?_)
                        · (first | assumption | exact K0.out | exact K1.out _ _ (by assumption) (by assumption) | exact K2.out _ _ (by assumption))
                        clear hK K
                        (try simp only [Act.put, List.setIfInBounds_toArray, List.set_cons_zero, List.set_cons_succ])
                        refine wpAnyH_take (i := 29) (v := ?_) (by simp only [List.getElem?_toArray, List.getElem?_cons_succ, List.getElem?_cons_zero]; rfl) (by kernel_rfl) (by kernel_rfl) (by kernel_rfl) (fun _ _ _ h => h) (Or.inl ⟨by rfl, ?_⟩) (by assumption) ?_
                        rotate_left
                        · (intro w hSw; (try dsimp only at hSw); go_simp; (try with_reducible rfl))
                        (try simp only [Act.put, List.setIfInBounds_toArray, List.set_cons_zero, List.set_cons_succ])
                        refine wpAnyH_take (i := 30) (v := ?_) (by simp only [List.getElem?_toArray, List.getElem?_cons_succ, List.getElem?_cons_zero]; rfl) (by kernel_rfl) (by kernel_rfl) (by kernel_rfl) (fun _ _ _ h => h) (Or.inl ⟨by rfl, ?_⟩) (by assumption) ?_
                        rotate_left
                        · (intro w hSw; (try dsimp only at hSw); go_simp; (try with_reducible rfl))
                        (try simp only [Act.put, List.setIfInBounds_toArray, List.set_cons_zero, List.set_cons_succ])
                        refine wpAnyH_take (i := 31) (v := ?_) (by simp only [List.getElem?_toArray, List.getElem?_cons_succ, List.getElem?_cons_zero]; rfl) (by kernel_rfl) (by kernel_rfl) (by kernel_rfl) (fun _ _ _ h => h) (Or.inl ⟨by rfl, ?_⟩) (by assumption) ?_
                        rotate_left
                        · (intro w hSw; (try dsimp only at hSw); go_simp; (try with_reducible rfl))
                        (try simp only [Act.put, List.setIfInBounds_toArray, List.set_cons_zero, List.set_cons_succ])
                        refine wpAnyH_take (i := 32) (v := ?_) (by simp only [List.getElem?_toArray, List.getElem?_cons_succ, List.getElem?_cons_zero]; rfl) (by kernel_rfl) (by kernel_rfl) (by kernel_rfl) (fun _ _ _ h => h) (Or.inl ⟨by rfl, ?_⟩) (by assumption) ?_
                        rotate_left
                        · (intro w hSw; (try dsimp only at hSw); go_simp; (try with_reducible rfl))
                        (try simp only [Act.put, List.setIfInBounds_toArray, List.set_cons_zero, List.set_cons_succ])
                        refine wpAnyH_ready (rs := [33]) (by kernel_rfl) (by simp) ?_
                        refine AllReadyH.cons (by simp only [List.getElem?_toArray, List.getElem?_cons_succ, List.getElem?_cons_zero]; rfl) (fun K hK => ?_) ?_
                        · go_simp
                          refine hK.out _ _ ?_ (fun hHeld => ?_)
                          · (first | assumption | exact K0.out | exact K1.out _ _ (by assumption) (by assumption) | exact K2.out _ _ (by assumption))
                          clear hK K
                          (try simp only [Act.put, List.setIfInBounds_toArray, List.set_cons_zero, List.set_cons_succ])
                          refine wpAnyH_ready (rs := [34]) (by kernel_rfl) (by simp) ?_
                          refine AllReadyH.cons (by simp only [List.getElem?_toArray, List.getElem?_cons_succ, List.getElem?_cons_zero]; rfl) (fun K hK => ?_) ?_
                          · (go_simp; go_at_call 25; first | ((with_reducible refine (HS1.out _).mono ?_); rintro e w9 ⟨rfl, hbw9⟩))
                            refine hK.out _ _ ?_ (fun hHeld => ?_)
                            · (first | assumption | exact K0.out | exact K1.out _ _ (by assumption) (by assumption) | exact K2.out _ _ (by assumption))
                            clear hK K
                            (try simp only [Act.put, List.setIfInBounds_toArray, List.set_cons_zero, List.set_cons_succ])
                            refine wpAnyH_take (i := 35) (v := ?_) (by simp only [List.getElem?_toArray, List.getElem?_cons_succ, List.getElem?_cons_zero]; rfl) (by kernel_rfl) (by kernel_rfl) (by kernel_rfl) (fun _ _ _ h => h) (Or.inl ⟨by rfl, ?_⟩) (by assumption) ?_
                            rotate_left
                            · (intro w hSw; (try dsimp only at hSw); go_simp; (try with_reducible rfl))
                            (try simp only [Act.put, List.setIfInBounds_toArray, List.set_cons_zero, List.set_cons_succ])
                            refine wpAnyH_take (i := 36) (v := ?_) (by simp only [List.getElem?_toArray, List.getElem?_cons_succ, List.getElem?_cons_zero]; rfl) (by kernel_rfl) (by kernel_rfl) (by kernel_rfl) (fun _ _ _ h => h) (Or.inl ⟨by rfl, ?_⟩) (by assumption) ?_
                            rotate_left
                            · (intro w hSw; (try dsimp only at hSw); go_simp; (try with_reducible rfl))
                            (try simp only [Act.put, List.setIfInBounds_toArray, List.set_cons_zero, List.set_cons_succ])
                            refine wpAnyH_ready (rs := [37]) (by kernel_rfl) (by simp) ?_
                            refine AllReadyH.cons (by simp only [List.getElem?_toArray, List.getElem?_cons_succ, List.getElem?_cons_zero]; rfl) (fun K hK => ?_) ?_
                            · go_simp
                              refine hK.out _ _ ?_ (fun hHeld => ?_)
                              · (first | assumption | exact K0.out | exact K1.out _ _ (by assumption) (by assumption) | exact K2.out _ _ (by assumption))
                              clear hK K
                              (try simp only [Act.put, List.setIfInBounds_toArray, List.set_cons_zero, List.set_cons_succ])
                              refine wpAnyH_ready (rs := [38]) (by kernel_rfl) (by simp) ?_
                              refine AllReadyH.cons (by simp only [List.getElem?_toArray, List.getElem?_cons_succ, List.getElem?_cons_zero]; rfl) (fun K hK => ?_) ?_
                              · (go_simp; go_at_call 25; first | ((with_reducible refine (HS0.out _).mono ?_); rintro e wx ⟨rfl, hbwx⟩))
                                refine hK.out _ _ ?_ (fun hHeld => ?_)
                                · (first | assumption | exact K0.out | exact K1.out _ _ (by assumption) (by assumption) | exact K2.out _ _ (by assumption))
                                clear hK K
                                (try simp only [Act.put, List.setIfInBounds_toArray, List.set_cons_zero, List.set_cons_succ])
                                refine wpAnyH_take (i := 39) (v := ?_) (by simp only [List.getElem?_toArray, List.getElem?_cons_succ, List.getElem?_cons_zero]; rfl) (by kernel_rfl) (by kernel_rfl) (by kernel_rfl) (fun _ _ _ h => h) (Or.inl ⟨by rfl, ?_⟩) (by assumption) ?_
                                rotate_left
                                · (intro w hSw; (try dsimp only at hSw); go_simp; (try with_reducible rfl))
                                (try simp only [Act.put, List.setIfInBounds_toArray, List.set_cons_zero, List.set_cons_succ])
                                refine wpAnyH_take (i := 40) (v := ?_) (by simp only [List.getElem?_toArray, List.getElem?_cons_succ, List.getElem?_cons_zero]; rfl) (by kernel_rfl) (by kernel_rfl) (by kernel_rfl) (fun _ _ _ h => h) (Or.inl ⟨by rfl, ?_⟩) (by assumption) ?_
                                rotate_left
                                · (intro w hSw; (try dsimp only at hSw); go_simp; (try with_reducible rfl))
                                (try simp only [Act.put, List.setIfInBounds_toArray, List.set_cons_zero, List.set_cons_succ])
                                refine wpAnyH_done (by kernel_rfl) ?_ _
                                refine NoPanic.normal ?_
                                go_wp2
                                go_meet
                                case rel => exact ⟨rfl, And.right (show _ ∧ Hid (Below S4.heap.size S4 _) by assumption)⟩
                              exact AllReadyH.nil
                            exact AllReadyH.nil
                          exact AllReadyH.nil
                        exact AllReadyH.nil
                      exact AllReadyH.nil
                    exact AllReadyH.nil
                  exact AllReadyH.nil
                exact AllReadyH.nil
              exact AllReadyH.nil
            exact AllReadyH.nil
      case rest =>
      obtain ⟨rfl, HB5⟩ := hcut
      rename World => w5
      have hw5 : Below BA w w5 := HWS.out.trans ((HB4.out.trans (HB5.out.mono HB4.out.size)).mono (by rw [← HBA.out]; exact HWS.out.size))
      have HW5 := Lib.hid hw5
      have HT5 := Lib.hid (HTT.out.below (by rw [HBA.out]; exact hw5))
      have HGO := Lib.hid ((good_any n w5).mono fun e w' ⟨hb, ts, ns, ls, g1, g2, g3, d1, d2, d3, he, hr, hp⟩ => (by
        have hgd := good_is (goods_ok (n % 17).toNat (by omega)) hp
        exact ⟨hb, _, _, he, hr.gram, hgd.1, hgd.2⟩ : Below w5.heap.size w5 w' ∧ ∃ (v : Value) (g : Gr), e = Ending.returned v ∧ GramAt w' v g ∧ CheckG g ∧ Fru g 100))
      have HNW := Lib.hid fun (v : Value) (g : Gr) (W : World) (h : GramAt W v g) (hc : CheckG g) (hf : Fru g 100) => (inew_any v g W h hc).mono fun e w' ⟨hb, he⟩ => (by
        rcases he with ⟨_, BM, BT, bt, M, F, he, hM, hF, hm⟩ | ⟨hn, _⟩
        · exact ⟨hb, BM, BT, bt, M, F, he, hm⟩
        · exact absurd hf hn : Below W.heap.size W w' ∧ ∃ (BM BT bt : Nat) (M : MakR) (F : List Nat), e = Ending.returned (.tuple #[.pointer (some ⟨BM, 0, none⟩), .int .i64 0]) ∧ MakT w' BM M BT bt F)
      clear hw5 HCX HSA HSB HS1 HS0 HLab HLba HLbc HLac heab hebc hiab hibc HQK
      go_upto_region 13 with (first
        | (go_at_call 34; refine HGO.out.mono ?_; rintro e w6 ⟨hb6, v, g, rfl, hg6, hc6, hf6⟩)
        | (go_at_call 24; refine (HNW.out _ _ _ hg6 hc6 hf6).mono ?_; rintro e w7 ⟨hb7, BM, BT, bt, M, F, rfl, hm⟩))
      have HB7 := Lib.hid (hb6.trans (hb7.mono hb6.size))
      have HM := Lib.hid hm
      have hK := mkOk_of hm.ok
      have HT7 := Lib.hid (HT5.out.below HB7.out)
      have HBG := Lib.hid fun (W : World) (hW : Below w7.heap.size w7 W) => ibegin_any BM BT bt M F W (HM.out.below hW) (HT7.out.below hW)
      unfold CloseTo at HBG
      have HBG7 := Lib.hid (HBG.out w7 (Below.refl _ _))
      clear hb6 hb7 hg6 hc6 hf6 hm HGO HNW
      go_upto_region 14 with (go_at_call 26; (with_reducible refine HBG7.out.mono ?_); rintro e w8 ⟨L, la, lc, rfl, hL1, hL2, hL3, hL4⟩)
      have hLp : 0 < L.length := by
        have : ownI ∈ L := (hL1.2 ownI).2 (.base (List.mem_singleton.2 rfl) (isIt_own M))
        exact List.length_pos_of_mem this
      obtain ⟨k, hk, hkl⟩ : ∃ k : Nat, at_ % (L.length : Int) = k ∧ k < L.length := ⟨(at_ % (L.length : Int)).toNat, by have := Int.emod_nonneg at_ (show (L.length : Int) ≠ 0 by omega); omega, by have := Int.emod_lt_of_pos at_ (show (0 : Int) < (L.length : Int) by omega); omega⟩
      obtain ⟨x, hx⟩ : ∃ x, L[k]? = some x := ⟨_, List.getElem?_eq_getElem hkl⟩
      have hxd := (hK.inr x (hL1.mem hK (List.mem_of_getElem? hx))).d1
      have HNE := Lib.hid (set7_ne hx hxd)
      obtain ⟨g, u, rfl, hgb, hgl, hgc, hgf, hgo⟩ := hL3.set7 hx
      have HWI := Lib.hid fun W => within_any at_ (L.length : Int) (by omega) (by omega) W
      rw [hk] at HWI
      have HO9 := Lib.hid hgo
      have HW9 := Lib.hid (hL4.setCell (p := ⟨g, k * 3 + 1, none⟩) hgb (.int .i64 7))
      have hkl' : (k : Int) < L.length := by omega
      have hLp' : (0 : Int) < L.length := by omega
      have hLz : ¬ (L.length : Int) = 0 := by omega
      have hLzb : ((L.length : Int) == 0) = false := beq_eq_false_iff_ne.2 (by omega)
      have HLP := Lib.hid hL1
      have HL2 := Lib.hid hL2
      clear hL1 hL2 hL3 hL4 hgo hx hxd hk HBG7 hgb
      go_upto_region 17 with (go_at_call 10; (with_reducible refine (HWI.out _).mono ?_); rintro e w9 ⟨rfl, hw9⟩; obtain rfl := hw9.symm)
      clear hgc hgf hgl
      generalize w8.setCell ⟨g, k * 3 + 1, none⟩ (.int .i64 7) = w9 at *
      have HBG9 := Lib.hid (HBG.out w9 HW9.out)
      have hsl : (L.set k (x.1, 7, x.2.2)).length = L.length := List.length_set
      obtain ⟨L7, hL7⟩ : ∃ L7, L7 = L.set k (x.1, 7, x.2.2) := ⟨_, rfl⟩
      rw [← hL7] at HO9 HNE hsl
      have HSL := Lib.hid hsl
      clear hL7 hsl hkl hkl'
      go_upto_region 18 with (go_at_call 26; (with_reducible refine HBG9.out.mono ?_); rintro e w10 ⟨R, ra, rc, rfl, hR1, hR2, hR3, hR4⟩; obtain rfl := HLP.out.uniq hR1)
      have HW10 := Lib.hid (HW9.out.trans (hR4.mono HW9.out.size))
      have HIR := Lib.hid (show ItsAt w10 ra L from hR3.its)
      have hI7 : ItsAt w10 (some ⟨g, 0, none⟩) L7 := HO9.out.its.below hR4
      have HS10 := Lib.hid (show Calls Tryd.prog 25 #[.slice (some ⟨g, 0, none⟩) L.length lc, .slice ra L.length rc] w10 (fun e w' => e = .returned (.bool false) ∧ Below w10.heap.size w10 w') from by
        have := isame_any (some ⟨g, 0, none⟩) ra lc rc L7 L w10 hI7 HIR.out (by rw [HSL.out]; have := HL2.out; omega) (by have := HL2.out; omega)
        rw [HSL.out] at this
        exact this.mono fun e w' ⟨he, n, hw⟩ => ⟨he.trans (by rw [decide_eq_false HNE.out]), hw ▸ below_drews (Below.refl _ _) n⟩)
      clear hR1 hR2 hR3 hR4 hI7 HBG9
      go_wp2_with (first
        | (go_at_call 25; (with_reducible refine HS10.out.mono ?_); rintro e w11 ⟨rfl, hb11⟩
           have hW11 : Below w7.heap.size w7 w11 := HW10.out.trans (hb11.mono HW10.out.size)
           have hIR11 : ItsAt w11 ra L := Cells.below HIR.out hb11
           have HC11 := Lib.hid (iclose_any BM BT bt M F ra rc L w11 (HM.out.below hW11) (HT7.out.below hW11) hIR11 (by have := HL2.out; omega))
           unfold CloseTo at HC11)
        | (go_at_call 27; (with_reducible refine HC11.out.mono ?_); rintro e w12 ⟨R2, ra2, rc2, rfl, hQ1, hQ2, hQ3, hQ4⟩; obtain rfl := (HLP.out.idem hK).uniq hQ1
           have hW12 : Below w7.heap.size w7 w12 := hW11.trans (hQ4.mono hW11.size)
           have HS12 := Lib.hid (show Calls Tryd.prog 25 #[.slice ra L.length rc, .slice ra2 L.length rc2] w12 (fun e w' => e = .returned (.bool true) ∧ Below w12.heap.size w12 w') from (isame_any ra ra2 rc rc2 L L w12 (Cells.below hIR11 hQ4) hQ3.its (by have := HL2.out; omega) (by have := HL2.out; omega)).mono fun e w' ⟨he, n, hw⟩ => ⟨he.trans (by simp), hw ▸ below_drews (Below.refl _ _) n⟩))
        | (go_at_call 25; (with_reducible refine HS12.out.mono ?_); rintro e w13 ⟨rfl, hb13⟩
           have hW13 : Below w7.heap.size w7 w13 := hW12.trans (hb13.mono hW12.size)
           have HWK := Lib.hid (wakes11_any w13 (HT7.out.below hW13)))
        | (go_at_call 31; (with_reducible refine HWK.out.mono ?_); rintro e w14 ⟨rfl, hb14⟩))
      go_ret
      exact ⟨rfl, by
        have h1 := HB7.out.trans ((hW13.trans (hb14.mono hW13.size)).mono HB7.out.size)
        rw [HBA.out]
        exact HW5.out.trans (h1.mono (by rw [← HBA.out]; exact HW5.out.size))⟩
end Go.Proofs.YtbliobeibfecaaaDoor
