/- item: list: walked. item: bring: walked. item: Close, Go, Begin: walked. item: Go, Begin: walked. item: items compared; Same: walked. -/
import Derived.Test.YtejjdfmobiegdaaDoorItP
import Derived.Test.YtejjdfmobiegdaaDoorItF
import Derived.Test.YtejjdfmobiegdaaDoorItS
import Derived.Test.YtejjdfmobiegdaaDoorFirstN
import Derived.Laws.StructEq
set_option linter.unusedVariables false
namespace Go.Proofs.YtejjdfmobiegdaaDoor
open Go.RowKit
open Doc

/-- An array or a struct that lies at the head of a block is loaded whole. -/
theorem run_load_head {P : Program} (w : World) (g n : Nat) (t ty : TypeId) (cs : Array Value) (zs : List Value) (fr : Nat × Nat) (d : TypeDesc) (hg : w.heap[g]? = some (.cells cs t fr))
    (hu : P.underlying ty = some d) (hd : (match d with | .struct _ | .array _ _ => true | _ => false) = true) (hi : (P.info? ty).map (·.size) = some n) (hz : cs.toList.take n = zs) (hn : n ≤ cs.size) :
    (loadVar ty ⟨g, 0, none⟩).run P w = .ok (.agg zs.toArray) w := by
  have hzl : zs.length = n := by rw [← hz, List.length_take, Array.length_toList]; omega
  have hl : (loadCells ⟨g, 0, none⟩ zs.length).run P w = .ok zs.toArray w :=
    run_loadCells_list (P := P) w ⟨g, 0, none⟩ zs (fun j v hv => by
      have hadd : (⟨g, 0, none⟩ : Addr).add j = ⟨g, j, none⟩ := by unfold Addr.add; split <;> simp_all
      rw [hadd, cell_of_row w g j cs t fr hg]
      have hj : j < n := by rw [← hzl]; exact (List.getElem?_eq_some_iff.1 hv).1
      rw [← hz, List.getElem?_take, if_pos hj] at hv
      simpa using hv)
  cases hq : P.info? ty with
  | none => simp [hq] at hi
  | some i =>
    have hs : i.size = zs.length := by rw [hzl]; simpa [hq] using hi
    have hagg : (isAgg ty).run P w = .ok true w := by
      unfold isAgg
      rw [Sem.run_bind, run_underlying hu w]
      cases d <;> simp_all
    simp [loadVar, Sem.run_bind, hagg, sizeOf, typeInfo, hq, hs, hl]
theorem wp_load_head {P : Program} {o : Oper} {a : Act} {w : World} {K : Act → World → Prop} {Q : Exit → Act → World → Prop} (ty : TypeId) (x : Operand) (ho : o.op = .load ty x)
    (g : Nat) (hx : a.eval x = .pointer (some ⟨g, 0, none⟩)) (n : Nat) (t : TypeId) (cs : Array Value) (zs : List Value) (fr : Nat × Nat) (d : TypeDesc) (hg : w.heap[g]? = some (.cells cs t fr))
    (hu : P.underlying ty = some d) (hd : (match d with | .struct _ | .array _ _ => true | _ => false) = true) (hi : (P.info? ty).map (·.size) = some n) (hz : cs.toList.take n = zs) (hn : n ≤ cs.size)
    (h : K (a.put o.dst (.agg zs.toArray)) w) : Oper.wp P o a w K Q := by
  unfold Oper.wp execOp
  simp only [ho, hx, Instr.loadAt, Instr.sureAddr, Sem.run_bind, Sem.run_pure, Result.andThen_ok, run_load_head w g n t ty cs zs fr d hg hu hd hi hz hn]
  exact h
/-- A part of an array by value. -/
theorem run_index_agg {P : Program} (w : World) (t e : TypeId) (n sz : Nat) (cs : Array Value) (k : Nat) (d : TypeDesc) (h : P.underlying t = some (.array n e)) (hu : P.underlying e = some d)
    (hd : (match d with | .struct _ | .array _ _ => true | _ => false) = true) (hi : (P.info? e).map (·.size) = some sz) (hk : k < n) :
    (Instr.index t (.agg cs) (.int .i64 (k : Int))).run P w = .ok (.agg (cs.extract (k * sz) (k * sz + sz))) w := by
  have hk' : (0 : Int) ≤ k ∧ (k : Int) < n := by omega
  cases hq : P.info? e with
  | none => simp [hq] at hi
  | some i =>
    have hs : i.size = sz := by simpa [hq] using hi
    have hagg : (isAgg e).run P w = .ok true w := by
      unfold isAgg
      rw [Sem.run_bind, run_underlying hu w]
      cases d <;> simp_all
    simp [Instr.index, run_underlying h, asIntOf, hk', part, hagg, sizeOf, typeInfo, hq, hs, go_sem]
    intro hh; omega
theorem run_index_cell {P : Program} (w : World) (t e : TypeId) (n : Nat) (cs : Array Value) (k : Nat) (v : Value) (d : TypeDesc) (h : P.underlying t = some (.array n e)) (hu : P.underlying e = some d)
    (hd : (match d with | .struct _ | .array _ _ => true | _ => false) = false) (hi : (P.info? e).map (·.size) = some 1) (hk : k < n) (hv : cs[k]? = some v) :
    (Instr.index t (.agg cs) (.int .i64 (k : Int))).run P w = .ok v w := by
  have hk' : (0 : Int) ≤ k ∧ (k : Int) < n := by omega
  cases hq : P.info? e with
  | none => simp [hq] at hi
  | some i =>
    have hs : i.size = 1 := by simpa [hq] using hi
    have hagg : (isAgg e).run P w = .ok false w := by
      unfold isAgg
      rw [Sem.run_bind, run_underlying hu w]
      cases d <;> simp_all
    simp [Instr.index, run_underlying h, asIntOf, hk', part, hagg, sizeOf, typeInfo, hq, hs, hv, go_sem]
    intro hh; omega
theorem info25 : (Tryd.prog.info? 154).map (·.size) = some 175 := by kernel_rfl
theorem info7 : (Tryd.prog.info? 153).map (·.size) = some 7 := by kernel_rfl
theorem infoSetS : (Tryd.prog.info? 127).map (·.size) = some 1 := by kernel_rfl
def sd (A : List Nat) (i d : Nat) : Nat := A.getD (i * 7 + d) 0
set_option maxRecDepth 100000 in
theorem index25 (A : List Nat) (h : A.length = 175) (i : Nat) (hi : i < 25) (W : World) :
    (Instr.index 154 (.agg (u64s A).toArray) (.int .i64 (i : Int))).run Tryd.prog W = .ok (.agg #[(.int .u64 ((sd A i 0 : Nat) : Int)), (.int .u64 ((sd A i 1 : Nat) : Int)), (.int .u64 ((sd A i 2 : Nat) : Int)), (.int .u64 ((sd A i 3 : Nat) : Int)), (.int .u64 ((sd A i 4 : Nat) : Int)), (.int .u64 ((sd A i 5 : Nat) : Int)), (.int .u64 ((sd A i 6 : Nat) : Int))]) W := by
  rw [run_index_agg W 154 153 25 7 _ i _ Tryd.underlying154 Tryd.underlying153 rfl info7 hi]
  congr 2
  apply Array.ext_getElem?
  intro j
  have hat : ∀ d, d < 7 → (u64s A)[i * 7 + d]? = some ((.int .u64 ((sd A i d : Nat) : Int))) := fun d hd => by
    unfold u64s sd
    rw [List.getElem?_map, List.getElem?_eq_getElem (by omega), List.getD_eq_getElem?_getD, List.getElem?_eq_getElem (by omega)]
    rfl
  rw [Array.getElem?_extract]
  by_cases hj : j < 7
  · have hs : (u64s A).toArray.size = 175 := by simp [u64s, h]
    rw [if_pos (by rw [hs]; omega), List.getElem?_toArray, hat j hj]
    match j, hj with
    | 0, _ => rfl
    | 1, _ => rfl
    | 2, _ => rfl
    | 3, _ => rfl
    | 4, _ => rfl
    | 5, _ => rfl
    | 6, _ => rfl
  · rw [if_neg (by omega), Array.getElem?_eq_none (by simp; omega)]
theorem index7 (A : List Nat) (i d : Nat) (hd : d < 7) (W : World) :
    (Instr.index 153 (.agg #[(.int .u64 ((sd A i 0 : Nat) : Int)), (.int .u64 ((sd A i 1 : Nat) : Int)), (.int .u64 ((sd A i 2 : Nat) : Int)), (.int .u64 ((sd A i 3 : Nat) : Int)), (.int .u64 ((sd A i 4 : Nat) : Int)), (.int .u64 ((sd A i 5 : Nat) : Int)), (.int .u64 ((sd A i 6 : Nat) : Int))]) (.int .i64 (d : Int))).run Tryd.prog W = .ok ((.int .u64 ((sd A i d : Nat) : Int))) W := by
  refine run_index_cell W 153 127 7 _ d _ _ Tryd.underlying153 Tryd.underlying127 rfl infoSetS hd ?_
  match d, hd with
  | 0, _ => rfl
  | 1, _ => rfl
  | 2, _ => rfl
  | 3, _ => rfl
  | 4, _ => rfl
  | 5, _ => rfl
  | 6, _ => rfl
/-- A row of items in memory of its own. -/
structure OwnI (w : World) (base : Nat) (a : Option Addr) (c : Nat) (l : List It) : Prop where
  own : w.ownsRow base 53 3 (.slice a l.length c) l.length (itsV l)
theorem OwnI.alloc {w : World} {base : Nat} {a : Option Addr} {c : Nat} {l : List It} (h : OwnI w base a c l) (o : Obj) : OwnI (w.alloc o) base a c l := ⟨h.own.alloc o⟩
theorem OwnI.below {w w' : World} {base : Nat} {a : Option Addr} {c : Nat} {l : List It} (h : OwnI w base a c l) (hb : Below w.heap.size w w') : OwnI w' base a c l := ⟨own_same h.own fun k _ hk => hb.block k hk⟩
theorem OwnI.nil (w : World) (base : Nat) : OwnI w base none 0 [] := ⟨⟨rfl, .inl ⟨rfl, rfl⟩⟩⟩
theorem flat_le {α β : Type} (f : α → List β) (n : Nat) : ∀ l : List α, (∀ x ∈ l, (f x).length ≤ n) → (l.flatMap f).length ≤ l.length * n
  | [], _ => by simp
  | x :: l, h => by
    have := flat_le f n l fun y hy => h y (List.mem_cons_of_mem _ hy)
    have := h x (List.mem_cons_self ..)
    rw [List.flatMap_cons, List.length_append, List.length_cons, Nat.add_mul, Nat.one_mul]
    omega
theorem rowIt_le (A : List Nat) (i d : Nat) : (rowIt A i d).length ≤ 64 := by
  unfold rowIt
  rw [List.length_map]
  exact bitsN_len _
def up1 (A : List Nat) (k : Nat) : List It := (List.range k).flatMap (dotsP A)
def up2 (A : List Nat) (k d : Nat) : List It := up1 A k ++ (List.range d).flatMap (rowIt A k)
def up3 (A : List Nat) (k d j : Nat) : List It := up2 A k d ++ (rowIt A k d).take j
theorem up1_le (A : List Nat) (k : Nat) : (up1 A k).length ≤ k * 448 := by
  have := flat_le (dotsP A) 448 (List.range k) fun i _ => by
    have := flat_le (rowIt A i) 64 (List.range 7) fun d _ => rowIt_le A i d
    rw [List.length_range] at this
    exact this
  rwa [List.length_range] at this
theorem up2_le (A : List Nat) (k d : Nat) : (up2 A k d).length ≤ k * 448 + d * 64 := by
  have h1 := up1_le A k
  have h2 := flat_le (rowIt A k) 64 (List.range d) fun d _ => rowIt_le A k d
  rw [List.length_range] at h2
  unfold up2
  rw [List.length_append]
  omega
theorem up3_le (A : List Nat) (k d j : Nat) : (up3 A k d j).length ≤ k * 448 + d * 64 + 64 := by
  have h1 := up2_le A k d
  have h2 := rowIt_le A k d
  unfold up3
  rw [List.length_append, List.length_take]
  omega
theorem up2_seven (A : List Nat) (k : Nat) : up2 A k 7 = up1 A (k + 1) := by
  show up1 A k ++ dotsP A k = _
  unfold up1
  rw [List.range_succ (n := k), List.flatMap_append, List.flatMap_cons, List.flatMap_nil, List.append_nil]
theorem up2_zero (A : List Nat) (k : Nat) : up2 A k 0 = up1 A k := by unfold up2; simp
theorem up3_all (A : List Nat) (k d j : Nat) (h : (rowIt A k d).length ≤ j) : up3 A k d j = up2 A k (d + 1) := by
  unfold up3 up2
  rw [List.take_of_length_le h, List.range_succ, List.flatMap_append, List.append_assoc]; simp
theorem up3_zero (A : List Nat) (k d : Nat) : up3 A k d 0 = up2 A k d := by unfold up3; simp
theorem up3_succ {A : List Nat} {k d j : Nat} {x : It} (h : (rowIt A k d)[j]? = some x) : up3 A k d (j + 1) = up3 A k d j ++ [x] := by
  unfold up3
  rw [List.take_add_one, h, List.append_assoc]; rfl
theorem rowIt_at {A : List Nat} {k d j a : Nat} (h : (bitsN (A.getD (k * 7 + d) 0))[j]? = some a) : (rowIt A k d)[j]? = some ((k : Int) - 1, (d : Int), (a : Int)) := by
  unfold rowIt
  rw [List.getElem?_map, h]; rfl
theorem listP_le (A : List Nat) : (listP A).length ≤ 11200 := up1_le A 25
set_option maxRecDepth 100000 in
set_option maxHeartbeats 8000000 in
theorem ilist_any (B base0 : Nat) (X : CloR) (w : World) (h : CloAt w B base0 X) (HT : Sl.Tab w) :
    Calls Tryd.prog 103 #[.pointer (some ⟨B, 0, none⟩)] w fun e w' => ∃ a c, e = .returned (.slice a (listP X.all).length c) ∧ OwnI w' w.heap.size a c (listP X.all) ∧ Below w.heap.size w w' := by
  have HTT := Lib.hid HT
  have HQ := Lib.hid h.q
  have l0 := heap_lt h.q
  have HLT := Lib.hid h.lt
  have hI25 := index25 X.all h.l175
  have hI7 := fun i d (hd : d < 7) => index7 X.all i d hd
  have HI25 := Lib.hid hI25
  have HI7 := Lib.hid hI7
  have HTK := Lib.hid (show (cloL X).toArray.toList.take 175 = u64s X.all by
    show (cloL X).take 175 = _
    unfold cloL
    rw [List.append_assoc, List.take_append_of_le_length (by simp [u64s, h.l175]), List.take_of_length_le (by simp [u64s, h.l175])])
  have HSZ := Lib.hid (show 175 ≤ (cloL X).toArray.size by rw [List.size_toArray, clo_len h.l175 h.l8]; omega)
  generalize hA : X.all = A at *
  clear hA h HT hI25 hI7
  obtain ⟨i1, hi1, hy0, hy1, hy2⟩ := info_of infoIt
  go_enter Tryd.func103, Tryd.ntmps103
  go_wp2
  refine wp_load_head 154 (.tmp 12) rfl B rfl 175 157 _ _ (0, 0) _ HQ.out Tryd.underlying154 rfl info25 HTK.out HSZ.out ?_
  go_wp2_with fail
  go_loopw [3, 14] (fun l i wr => ∃ k : Nat, k ≤ 25 ∧ i = .int .i64 k ∧ ∃ (a : Option Addr) (c n : Nat), l = .slice a n c ∧ Hid (n = (up1 A k).length) ∧ Hid (OwnI wr w.heap.size a c (up1 A k)) ∧ Hid (Below w.heap.size w wr)) (fun _ i _ => 25 - (intOf i).toNat)
  case atStart => exact ⟨0, by omega, rfl, none, 0, 0, rfl, Lib.hid rfl, Lib.hid (OwnI.nil w _), Lib.hid (Below.refl _ _)⟩
  case round =>
    obtain ⟨k, hk, rfl, a, c, n, rfl, HN, HO, HB⟩ := hrel
    rename World => w1
    by_cases hlt : k < 25
    · have hlt' : (k : Int) < 25 := by omega
      have hidx := HI25.out k hlt
      go_wp2_with fail
      go_loopw [3, 19] (fun l i wr => ∃ d : Nat, d ≤ 7 ∧ i = .int .i64 d ∧ ∃ (a : Option Addr) (c n : Nat), l = .slice a n c ∧ Hid (n = (up2 A k d).length) ∧ Hid (OwnI wr w.heap.size a c (up2 A k d)) ∧ Hid (Below w.heap.size w wr)) (fun _ i _ => 7 - (intOf i).toNat)
      case atStart => exact ⟨0, by omega, rfl, a, c, n, rfl, Lib.hid (by rw [up2_zero]; exact HN.out), Lib.hid (by rw [up2_zero]; exact HO.out.alloc _), Lib.hid (HB.out.alloc HB.out.size _)⟩
      case round =>
        clear HN HO HB hidx
        obtain ⟨d, hd, rfl, a2, c2, n2, rfl, HN2, HO2, HB2⟩ := hrel
        rename World => w2
        by_cases hlt2 : d < 7
        · have hlt2' : (d : Int) < 7 := by omega
          have hidx2 : ∀ W, (Instr.index 153 (.agg #[(.int .u64 ((sd A k 0 : Nat) : Int)), (.int .u64 ((sd A k 1 : Nat) : Int)), (.int .u64 ((sd A k 2 : Nat) : Int)), (.int .u64 ((sd A k 3 : Nat) : Int)), (.int .u64 ((sd A k 4 : Nat) : Int)), (.int .u64 ((sd A k 5 : Nat) : Int)), (.int .u64 ((sd A k 6 : Nat) : Int))]) (.int .i64 (d : Int))).run Tryd.prog W = .ok (.int .u64 ((sd A k d : Nat) : Int)) W := fun W => HI7.out k d hlt2 W
          have hs : sd A k d < 18446744073709551616 := getD_lt HLT.out (by omega) (k * 7 + d)
          have HRA := Lib.hid fun (j v : Nat) (h : (bitsN (sd A k d))[j]? = some v) => rowIt_at (A := A) (k := k) (d := d) h
          have HRL := Lib.hid (show (rowIt A k d).length = (bitsN (sd A k d)).length by unfold rowIt sd; rw [List.length_map])
          generalize sd A k d = s at *
          have HLI := Lib.hid (show Calls Tryd.prog 126 #[.int .u64 s] w2 (fun e w' => e = .returned (.slice (some ⟨w2.heap.size, 0, none⟩) (bitsN s).length (bitsN s).length) ∧
            w'.ownsRow w2.heap.size 3 1 (.slice (some ⟨w2.heap.size, 0, none⟩) (bitsN s).length (bitsN s).length) (bitsN s).length ((bitsN s).map fun i => .int .i64 (i : Nat)) ∧ Below w2.heap.size w2 w') from Sl.list_any s hs w2 (HTT.out.below HB2.out))
          have hN64 := bitsN_len s
          generalize bitsN s = L at *
          generalize hNL : L.length = N at *
          have HNL := Lib.hid hNL
          clear hNL hs
          go_wp2_with (go_at_call 126; refine HLI.out.mono ?_; rintro e w3 ⟨rfl, hown3, hb3⟩)
          have HO3 := Lib.hid (HO2.out.below hb3)
          have HB3 := Lib.hid (HB2.out.trans (hb3.mono HB2.out.size))
          have HG3 := Lib.hid hown3
          have HNE3 := Lib.hid (show ∀ x : Addr, a2 = some x → x.block ≠ w2.heap.size from fun x hx => by
            have := (own_block HO2.out.own (g := x.block) (by rw [hx]; rfl)).2.1
            omega)
          generalize w2.heap.size = G at *
          clear hown3 hb3 hidx2 HLI
          go_loopw [3, 26] (fun l i wr => ∃ j : Nat, j ≤ N ∧ i = .int .i64 j ∧ ∃ (a : Option Addr) (c n : Nat), l = .slice a n c ∧ Hid (n = (up3 A k d j).length) ∧ Hid (OwnI wr w.heap.size a c (up3 A k d j)) ∧ Hid (Below w.heap.size w wr) ∧
            Hid (wr.ownsRow G 3 1 (.slice (some ⟨G, 0, none⟩) N N) N (L.map fun i => .int .i64 (i : Nat))) ∧ Hid (∀ x : Addr, a = some x → x.block ≠ G)) (fun _ i _ => N - (intOf i).toNat)
          case atStart => exact ⟨0, by omega, rfl, a2, c2, n2, rfl, Lib.hid (by rw [up3_zero]; exact HN2.out), Lib.hid (by rw [up3_zero]; exact HO3.out), HB3, HG3, HNE3⟩
          case round =>
            clear HN2 HO2 HB2 HO3 HB3 HG3 HNE3
            obtain ⟨j, hj, rfl, a4, c4, n4, rfl, HN4, HO4, HB4, HG4, HNE4⟩ := hrel
            rename World => w4
            by_cases hlt3 : j < N
            · have hlt3' : (j : Int) < N := by omega
              obtain ⟨v, hv⟩ : ∃ v, L[j]? = some v := ⟨_, List.getElem?_eq_getElem (by rw [HNL.out]; exact hlt3)⟩
              obtain ⟨b, off, he, hbl, hcc⟩ := (own_cells HG4.out).1.get (by intro e; have := congrArg List.length e; rw [List.length_map, HNL.out, List.length_nil] at this; omega)
              cases he
              have c0 := hcc j (.int .i64 (v : Nat)) (by rw [List.getElem?_map, hv]; rfl)
              rw [Nat.zero_add] at c0
              have HX := Lib.hid (up3_succ (HRA.out _ _ hv))
              have ho := HO4.out.own
              rw [← HN4.out] at ho
              have HOW := Lib.hid ho
              have hn4 : n4 ≤ 11712 := by rw [HN4.out]; have := up3_le A k d j; omega
              have hwk : IntKind.i64.wrap ((k : Int) + -1) = (k : Int) - 1 := by rw [show (k : Int) + -1 = (k : Int) - 1 by omega]; exact IntWalk.i64_in _ (by omega)
              have HBZ := Lib.hid (HB4.out.size)
              clear hcc ho hv
              go_wp2_with (at_builtin; refine wpList_append_lies _ rfl (.tmp 30) (.tmp 36) 54 rfl w.heap.size 53 i1 (.agg #[.int .i64 0, .int .i64 0, .int .i64 0]) 3 24 Tryd.underlying54 hi1 hy0 hy1 hy2 rfl (by decide) (.slice a4 n4 c4) n4 (itsV (up3 A k d j)) rfl (HOW.out.alloc _) ⟨w4.heap.size, 0, none⟩ 1 1 [.int .i64 ((k : Int) - 1), .int .i64 d, .int .i64 (v : Nat)] rfl rfl (World.news_of_block (cs := #[.int .i64 ((k : Int) - 1), .int .i64 d, .int .i64 (v : Nat)]) (t := 53) (fr := (0, 0)) (heap_alloc_new w4 _)) (by simp [Value.oneCell']) (by decide) (by unfold maxLen; omega) (by omega) (by have := HBZ.out; simp; omega) (w4.heap.size + 1) (by simp) ?_; intro g5 cap5 w5 hown5 hgrow5 hat5 hlt5)
              have HO5 := Lib.hid (show OwnI w5 w.heap.size (some ⟨g5, 0, none⟩) cap5 (up3 A k d (j + 1)) from ⟨by rw [HX.out, its_app, List.length_append, List.length_singleton, ← HN4.out]; exact hown5⟩)
              have HB5 := Lib.hid (((HB4.out.alloc HB4.out.size _).grown hgrow5 (by have := HBZ.out; simp; omega) fun q hq => (own_block HOW.out (g := q) hq).1 : Below w.heap.size w w5))
              have HN5 := Lib.hid (show n4 + 1 = (up3 A k d (j + 1)).length by rw [HX.out, List.length_append, List.length_singleton, HN4.out])
              have HNE5 := Lib.hid (show ∀ x : Addr, (some ⟨g5, 0, none⟩ : Option Addr) = some x → x.block ≠ G from fun x hx => by
                cases hx
                rcases hat5 with h1 | h1
                · obtain ⟨y, hy, hyk⟩ := ownBlock_eq h1
                  have := HNE4.out y hy
                  show g5 ≠ G
                  omega
                · show g5 ≠ G
                  omega)
              have HG5 := Lib.hid (own_same HG4.out fun q hq hql => by
                cases hq
                exact (hgrow5.block G (by simp; omega) fun e => by
                  obtain ⟨y, hy, hyk⟩ := ownBlock_eq e.symm
                  exact HNE4.out y hy hyk).trans (Below.heap_alloc w4 _ G hql))
              clear hown5 hgrow5 hat5
              go_roundw
              case rel => exact ⟨j + 1, by omega, by go_num, _, _, _, rfl, HN5, HO5, HB5, HG5, HNE5⟩
              case measure => simp [intOf]; omega
            · have hjN : j = N := by omega
              have hge : ¬ (j : Int) < N := by omega
              have HUP := Lib.hid (up3_all A k d j (by rw [HRL.out]; omega))
              have HO5 := Lib.hid (by rw [← HUP.out]; exact HO4.out : OwnI w4 w.heap.size a4 c4 (up2 A k (d + 1)))
              have HN5 := Lib.hid (by rw [← HUP.out]; exact HN4.out : n4 = (up2 A k (d + 1)).length)
              clear hjN
              go_wp2
              go_roundw
              case rel => exact ⟨d + 1, by omega, by go_num, _, _, _, rfl, HN5, HO5, HB4⟩
              case measure => simp [intOf]; omega
        · have hd7 : d = 7 := by omega
          subst hd7
          have HO5 := Lib.hid (by rw [← up2_seven]; exact HO2.out : OwnI w2 w.heap.size a2 c2 (up1 A (k + 1)))
          have HN5 := Lib.hid (by rw [← up2_seven]; exact HN2.out : n2 = (up1 A (k + 1)).length)
          go_wp2
          go_roundw
          case rel => exact ⟨k + 1, by omega, by go_num, _, _, _, rfl, HN5, HO5, HB2⟩
          case measure => simp [intOf]; omega
    · have hk25 : k = 25 := by omega
      subst hk25
      go_wp2
      go_ret
      exact ⟨a, c, by rw [HN.out]; rfl, HO.out, HB.out⟩
end Go.Proofs.YtejjdfmobiegdaaDoor

set_option linter.unusedVariables false
namespace Go.Proofs.YtejjdfmobiegdaaDoor
open Go.RowKit
open Doc

def CloR.cl (X : CloR) : Cl := ⟨X.all, X.begun, X.opn⟩
theorem putC_cl (X : CloR) (x : It) (oa : Option Addr) (oc : Nat) : (putC X x oa oc).cl = putP X.cl x := by
  unfold putC putP
  show (if shas (X.all.getD (atC x) 0) x.2.2 = true then X else _).cl = if shas (X.all.getD (atC x) 0) x.2.2 = true then X.cl else _
  split <;> rfl
/-- What a step of the closing leaves as it was. -/
structure StepTo (w0 w w' : World) (B : Nat) (oa oa' : Option Addr) : Prop where
  wto : WTo w w' oa oa' (some ⟨B, 0, none⟩) []
  low : Below w0.heap.size w0 w'
theorem iputx_any (B base : Nat) (X : CloR) (x : It) (w0 w : World) (h0 : Below w0.heap.size w0 w) (hB : w0.heap.size ≤ B) (hb0 : w0.heap.size ≤ base) (h : CloAt w B base X) (hb : base ≤ w.heap.size) (hx : InR x) (hl : X.opn.length ≤ 1000000) :
    Calls Tryd.prog 100 #[.pointer (some ⟨B, 0, none⟩), itV x] w fun e w' => e = .returned (.tuple #[]) ∧ ∃ Y, CloAt w' B base Y ∧ Y.cl = putP X.cl x ∧ StepTo w0 w w' B X.oa Y.oa := by
  have h1 := hx.p0
  have h2 := hx.p1
  have h3 := hx.d0
  have h4 := hx.d1
  obtain ⟨p, d, a⟩ := x
  simp only at h1 h2 h3 h4
  obtain ⟨k, rfl⟩ : ∃ k : Nat, p = (k : Int) - 1 := ⟨(p + 1).toNat, by omega⟩
  obtain ⟨d, rfl⟩ := Int.eq_ofNat_of_zero_le h3
  refine (iput_any B base X k d a w h hb (by omega) (by omega) hl).mono ?_
  rintro e w' ⟨he, oa, oc, hX, hW, hbl⟩
  refine ⟨he, _, hX, putC_cl _ _ _ _, hW, h0.trans (hbl _ hB hb0 h0.size)⟩
/-- A maker as it lies, with its table. -/
structure MakT (w : World) (BM : Nat) (M : MakR) (BT bt : Nat) (F : List Nat) : Prop where
  at_ : MakAt w BM M
  tb : M.tb = .pointer (some ⟨BT, 0, none⟩)
  tab : TabAt w BT bt M.terms F
  ok : MakW M F
  fl : F.length ≤ 1000
theorem MakT.below {w w' : World} {BM : Nat} {M : MakR} {BT bt : Nat} {F : List Nat} (h : MakT w BM M BT bt F) (hb : Below w.heap.size w w') : MakT w' BM M BT bt F := ⟨h.at_.below hb, h.tb, h.tab.below hb, h.ok, h.fl⟩
theorem newI_flat (P A : Nat) : newI P A = (bitsN P).flatMap fun (p : Nat) => (bitsN A).map fun (a : Nat) => ((p : Int), (0 : Int), (a : Int)) := rfl
def bring1 (L M : List Nat) (k : Nat) : List It := (L.take k).flatMap fun (p : Nat) => M.map fun (a : Nat) => ((p : Int), (0 : Int), (a : Int))
def bring2 (L M : List Nat) (k j p : Nat) : List It := bring1 L M k ++ (M.take j).map fun (a : Nat) => ((p : Int), (0 : Int), (a : Int))
theorem bring1_succ {L M : List Nat} {k p : Nat} (h : L[k]? = some p) : bring1 L M (k + 1) = bring2 L M k M.length p := by
  unfold bring2 bring1
  rw [List.take_add_one, h, List.flatMap_append, List.take_length]
  simp
theorem bring2_succ {L M : List Nat} {k j p a : Nat} (h : M[j]? = some a) : bring2 L M k (j + 1) p = bring2 L M k j p ++ [((p : Int), (0 : Int), (a : Int))] := by
  unfold bring2
  rw [List.take_add_one, h, List.map_append, List.append_assoc]; rfl
theorem bring2_zero (L M : List Nat) (k p : Nat) : bring2 L M k 0 p = bring1 L M k := by unfold bring2; simp
theorem putAll_snoc (X : Cl) (l : List It) (x : It) : putAll X (l ++ [x]) = putP (putAll X l) x := by unfold putAll; rw [List.foldl_append]; rfl
theorem putAll_app (X : Cl) (l m : List It) : putAll X (l ++ m) = putAll (putAll X l) m := by unfold putAll; rw [List.foldl_append]
theorem put_grow (X : Cl) (x : It) : (putP X x).opn.length ≤ X.opn.length + 1 := by
  unfold putP; split <;> simp
theorem putAll_grow : ∀ (l : List It) (X : Cl), (putAll X l).opn.length ≤ X.opn.length + l.length
  | [], X => by simp [putAll]
  | x :: l, X => by
    have h1 := putAll_grow l (putP X x)
    have h2 := put_grow X x
    show (putAll (putP X x) l).opn.length ≤ _
    rw [List.length_cons]
    omega
theorem bring1_le (L M : List Nat) (k : Nat) (hL : L.length ≤ 64) (hM : M.length ≤ 64) : (bring1 L M k).length ≤ 4096 := by
  have := flat_le (fun (p : Nat) => M.map fun (a : Nat) => ((p : Int), (0 : Int), (a : Int))) 64 (L.take k) fun p _ => by rw [List.length_map]; exact hM
  have h2 : (L.take k).length ≤ 64 := by rw [List.length_take]; omega
  unfold bring1
  omega
theorem bring2_le (L M : List Nat) (k j p : Nat) (hL : L.length ≤ 64) (hM : M.length ≤ 64) : (bring2 L M k j p).length ≤ 4160 := by
  have h1 := bring1_le L M k hL hM
  unfold bring2
  rw [List.length_append, List.length_map, List.length_take]
  omega
theorem CloAt.beg {w : World} {B base : Nat} {X : CloR} (h : CloAt w B base X) {j : Nat} (hj : j < 8) : w.cell? ⟨B, 175 + j, none⟩ = some (.int .u64 ((X.begun.getD j 0 : Nat) : Int)) ∧ w.frozen? ⟨B, 175 + j, none⟩ = false :=
  blk_cell (w := w) (i := 175 + j) h.q (by rw [List.getElem?_toArray]; exact clo_begun h.l175 h.l8 hj)
theorem CloAt.setBeg {w : World} {B base : Nat} {X : CloR} (h : CloAt w B base X) {j v : Nat} (hj : j < 8) (hv : v < 18446744073709551616) : CloAt (w.setCell ⟨B, 175 + j, none⟩ (.int .u64 (v : Int))) B base { X with begun := X.begun.set j v } := by
  refine ⟨?_, own_same h.own fun k hk _ => Below.heap_setCell _ _ _ _ (clo_block h hk), h.l175, by show (X.begun.set j v).length = 8; rw [List.length_set]; exact h.l8, h.lt, set_lt h.lb hv⟩
  rw [heap_set w B (175 + j) _ _ _ h.q (by rw [List.size_toArray, clo_len h.l175 h.l8]; omega)]
  simp only [Array.set!_eq_setIfInBounds]
  rw [List.setIfInBounds_toArray]
  exact congrArg (fun l => some (Obj.cells (List.toArray l) 157)) (clo_set_begun h.l175 h.l8 hj v).symm
/-- A list of a set's numbers, in a block that nothing touches. -/
def LiAt (w : World) (G : Nat) (L : List Nat) : Prop := w.ownsRow G 3 1 (.slice (some ⟨G, 0, none⟩) L.length L.length) L.length (L.map fun (i : Nat) => Value.int .i64 (i : Int))
theorem LiAt.keep {w w' : World} {G : Nat} {L : List Nat} (h : LiAt w G L) (hb : w'.heap[G]? = w.heap[G]?) : LiAt w' G L := own_same h fun g hg _ => by cases hg; exact hb
theorem LiAt.cell {w : World} {G : Nat} {L : List Nat} (h : LiAt w G L) {j v : Nat} (hv : L[j]? = some v) : w.cell? ⟨G, j, none⟩ = some (.int .i64 (v : Int)) := by
  obtain ⟨b, off, he, hbl, hcc⟩ := (own_cells h).1.get (by intro e; rw [List.map_eq_nil_iff] at e; rw [e] at hv; simp at hv)
  cases he
  have c0 := hcc j (.int .i64 (v : Nat)) (by rw [List.getElem?_map, hv]; rfl)
  rwa [Nat.zero_add] at c0
theorem list_at (s : Nat) (hs : s < 18446744073709551616) (w : World) (HT : Sl.Tab w) :
    Calls Tryd.prog 126 #[.int .u64 s] w fun e w' => e = .returned (.slice (some ⟨w.heap.size, 0, none⟩) (bitsN s).length (bitsN s).length) ∧ LiAt w' w.heap.size (bitsN s) ∧ Below w.heap.size w w' := Sl.list_any s hs w HT
theorem bring_idle (K : MkP) (X : Cl) (x : It) (h : ∀ s r, K.rest x = s :: r → s < 100) : bringP K X x = X := by
  unfold bringP
  split
  · rfl
  · rename_i s r hr
    rw [if_pos (h s r hr)]
/-- What bring comes to. -/
def BringTo (B base : Nat) (w0 w : World) (oa : Option Addr) (Z : Cl) (e : Ending) (w' : World) : Prop := e = .returned (.tuple #[]) ∧ ∃ Y, CloAt w' B base Y ∧ Y.cl = Z ∧ StepTo w0 w w' B oa Y.oa
set_option maxRecDepth 100000 in
set_option maxHeartbeats 8000000 in
theorem ibring_any (B base BM BT bt : Nat) (M : MakR) (F : List Nat) (X : CloR) (x : It) (w0 w : World) (hm : MakT w0 BM M BT bt F) (HT : Sl.Tab w0) (h0 : Below w0.heap.size w0 w) (hB : w0.heap.size ≤ B) (hb0 : w0.heap.size ≤ base) (hb : base ≤ w.heap.size) (h : CloAt w B base X) (hx : isIt M x = true) (hl : X.opn.length ≤ 900000) :
    Calls Tryd.prog 101 #[.pointer (some ⟨BM, 0, none⟩), .pointer (some ⟨B, 0, none⟩), itV x] w (BringTo B base w0 w X.oa (bringP (mkP M F) X.cl x)) := by
  have HM := Lib.hid hm
  have HTT := Lib.hid HT
  have HX := Lib.hid h
  have HRN := Lib.hid fun s (hs : s ∈ restM M x) => rest_nums hm.ok hs
  have HRE := Lib.hid fun W hW => irest_any BM M x W hW hm.ok.ok
  unfold RestEnd at HRE
  have HID := Lib.hid fun hi => bring_idle (mkP M F) X.cl x hi
  have HBR := Lib.hid (show bringP (mkP M F) X.cl x = (match restM M x with
    | [] => X.cl
    | s :: r => if s < 100 then X.cl else putAll { X.cl with begun := X.cl.begun.set (s - 100).toNat (X.cl.begun.getD (s - 100).toNat 0 ||| sless (goOnF (ofF M.terms F r 1) (aheadS M.terms x.2.2)) (X.cl.begun.getD (s - 100).toNat 0)) } (newI (M.of.getD (s - 100).toNat 0) (sless (goOnF (ofF M.terms F r 1) (aheadS M.terms x.2.2)) (X.cl.begun.getD (s - 100).toNat 0)))) from rfl)
  rw [show (mkP M F).rest x = restM M x from rfl] at HID
  generalize bringP (mkP M F) X.cl x = Z at *
  generalize restM M x = L at *
  obtain ⟨p, d, a⟩ := x
  unfold itV at *
  simp only at *
  have hS : Below w.heap.size w (w.alloc (.cells #[.int .i64 p, .int .i64 d, .int .i64 a] 53)) := (Below.refl _ _).alloc (Nat.le_refl _) _
  have hQ := heap_alloc_new w (.cells #[.int .i64 p, .int .i64 d, .int .i64 a] 53)
  have x0 := (blk_cell (i := 0) hQ rfl).1
  have x1 := (blk_cell (i := 1) hQ rfl).1
  have x2 := (blk_cell (i := 2) hQ rfl).1
  have l0 := heap_lt hQ
  have HR := Lib.hid (HRE.out _ ((hm.below h0).at_.below hS))
  have HS := Lib.hid hS
  have HQ := Lib.hid hQ
  have H0 := Lib.hid h0
  clear h hm HT hS hQ HRE hx h0
  go_enter Tryd.func101, Tryd.ntmps101
  go_upto_region 1 with fail
  generalize w.alloc (.cells #[.int .i64 p, .int .i64 d, .int .i64 a] 53) = S at *
  generalize hBI : w.heap.size = BI at *
  have HBI := Lib.hid hBI
  clear hBI
  go_upto_region 2 with (go_at_call 104; refine HR.out.mono ?_; rintro e w2 ⟨hb2, la, lc, rfl, hlc, hll, hl6, hlm⟩)
  have HB2 := Lib.hid (HS.out.trans (hb2.mono (Nat.le_of_lt l0)))
  have HX2 := Lib.hid (HX.out.below (by rw [HBI.out]; exact HB2.out))
  have HLC := Lib.hid hlc
  have HQ2 := Lib.hid ((hb2.block _ l0).trans HQ.out)
  have hidle : (∀ s r, L = s :: r → s < 100) → BringTo B base w0 w X.oa Z (.returned (.tuple #[])) w2 := fun hi => ⟨rfl, X, HX2.out, (HID.out hi).symm, WTo.later _ _ _ _ (by rw [HBI.out]; exact HB2.out), H0.out.trans (HB2.out.mono (by rw [← HBI.out]; exact H0.out.size))⟩
  have HIDLE := Lib.hid hidle
  clear hb2 hlc x0 x1 x2 l0 HR hidle HID
  cases L with
  | nil =>
    have HE := Lib.hid (HIDLE.out fun s r e => by cases e)
    go_wp2
    go_end0
    exact HE.out
  | cons s r =>
    obtain ⟨b, o, he, hbb, hcc⟩ := HLC.out.get (by simp [nums])
    subst he
    have c0 := hcc 0 (.int .i64 s) rfl
    rw [Nat.add_zero] at c0
    have hs := HRN.out s (List.mem_cons_self ..)
    have e2 : (((s :: r).length : Int) == 0) = false := by rw [List.length_cons]; simp; omega
    have e3 : (0 : Int) < ((s :: r).length : Int) := by rw [List.length_cons]; omega
    have e4 : 0 < (s :: r).length := by rw [List.length_cons]; omega
    by_cases hs1 : s < 100
    · have HE := Lib.hid (HIDLE.out fun s' r' e => by cases e; exact hs1)
      clear hcc
      generalize (s :: r).length = n at *
      go_wp2
      go_end0
      exact HE.out
    · obtain ⟨nn, rfl⟩ : ∃ nn : Nat, s = 100 + (nn : Int) := ⟨(s - 100).toNat, by omega⟩
      have ho8 := HM.out.ok.ok.o8
      have ht8 := HM.out.ok.ok.t8
      have hno : nn < M.of.length := by omega
      have hno' : (nn : Int) < M.of.length := by omega
      have hn8 : nn < 8 := by omega
      have hn8' : (nn : Int) < 8 := by omega
      have hnn : IntKind.i64.wrap (100 + (nn : Int) - 100) = (nn : Int) := by rw [show 100 + (nn : Int) - 100 = (nn : Int) by omega]; exact IntWalk.i64_in _ (by omega)
      have HZ := Lib.hid (show Z = putAll { X.cl with begun := X.cl.begun.set nn (X.begun.getD nn 0 ||| sless (goOnF (ofF M.terms F r 1) (aheadS M.terms a)) (X.begun.getD nn 0)) } (newI (M.of.getD nn 0) (sless (goOnF (ofF M.terms F r 1) (aheadS M.terms a)) (X.begun.getD nn 0))) by
        rw [HBR.out]
        simp only
        rw [if_neg (by omega), show (100 + (nn : Int) - 100).toNat = nn by omega]
        rfl)
      have hAlt : goOnF (ofF M.terms F r 1) (aheadS M.terms a) < 18446744073709551616 := (mkOk_of HM.out.ok).ahd r a
      have hBlt : X.begun.getD nn 0 < 18446744073709551616 := getD_lt HX.out.lb (by omega) _
      have hOlt : M.of.getD nn 0 < 18446744073709551616 := getD_lt HM.out.ok.ok.ob (by omega) _
      have HIN := Lib.hid (show ∀ p a : Nat, p ∈ bitsN (M.of.getD nn 0) → a < 64 → InR ((p : Int), (0 : Int), (a : Int)) from fun p a hp ha => by
        have h1 := HM.out.ok.ok.pr p (HM.out.ok.ofp nn p (shas_mem.2 ⟨p, rfl, hp⟩))
        have h2 := HM.out.ok.ok.r24
        exact ⟨by simp only; omega, by simp only; omega, by simp only; omega, by simp only; omega, by simp only; omega, by simp only; omega⟩)
      have hw2 : Below w0.heap.size w0 w2 := H0.out.trans (HB2.out.mono (by rw [← HBI.out]; exact H0.out.size))
      have HW2 := Lib.hid hw2
      have hlen1 : r.length + 1 ≤ 6 := by simpa using hl6
      have hlc1 : r.length + 1 ≤ lc := by simpa using hll
      have HFA := Lib.hid fun (W : World) (hW : Below w2.heap.size w2 W) => (fahead_any BT bt M.terms F (if lc = 1 then some ⟨b, o, none⟩ else some ⟨b, o + 1, none⟩) (lc - 1) r a W (HM.out.tab.below (hw2.trans (hW.mono hw2.size))) ((tail_cells HLC.out (k := 1) (by simp) (by simpa using hll)).below hW) (by omega) (fun t ht => by have := HRN.out t (List.mem_cons_of_mem _ ht); omega) HM.out.ok.low (by omega) HM.out.fl : Calls Tryd.prog 124 #[.pointer (some ⟨BT, 0, none⟩), .slice (if lc = 1 then some ⟨b, o, none⟩ else some ⟨b, o + 1, none⟩) r.length (lc - 1), .int .i64 a] W fun e w' => e = .returned (.int .u64 (goOnF (ofF M.terms F r 1) (aheadS M.terms a) : Nat)) ∧ Below W.heap.size W w')
      generalize goOnF (ofF M.terms F r 1) (aheadS M.terms a) = A at *
      have HLE := Lib.hid fun W => less_any A (X.begun.getD nn 0) hAlt hBlt W
      have hFlt : sless A (X.begun.getD nn 0) < 18446744073709551616 := cless_lt hAlt
      have HJO := Lib.hid fun W => join_any (X.begun.getD nn 0) (sless A (X.begun.getD nn 0)) hBlt hFlt W
      have hJlt : (X.begun.getD nn 0 ||| sless A (X.begun.getD nn 0)) < 18446744073709551616 := or_lt _ _ hBlt hFlt
      have HL2 := Lib.hid fun W hW => list_at (sless A (X.begun.getD nn 0)) hFlt W hW
      have HL1 := Lib.hid fun W hW => list_at (M.of.getD nn 0) hOlt W hW
      generalize sless A (X.begun.getD nn 0) = fr at *
      have HBLT := Lib.hid hJlt
      have HCX := Lib.hid fun (W : World) (hW : Below w2.heap.size w2 W) => (show (W.cell? ⟨BM, 4, none⟩ = some (.pointer (some ⟨BT, 0, none⟩)) ∧ BM < W.heap.size) ∧ (W.cell? ⟨BI, 2, none⟩ = some (.int .i64 a) ∧ BI < W.heap.size) ∧ (W.cell? ⟨B, 175 + nn, none⟩ = some (.int .u64 ((X.begun.getD nn 0 : Nat) : Int)) ∧ B < W.heap.size) from by
        have hm := HM.out.below (hw2.trans (hW.mono hw2.size))
        have hx := HX2.out.below hW
        have hq := (hW.block BI (heap_lt HQ2.out)).trans HQ2.out
        exact ⟨⟨by rw [← HM.out.tb]; exact (blk_cell (i := 4) hm.at_.q rfl).1, heap_lt hm.at_.q⟩, ⟨(blk_cell (i := 2) hq rfl).1, heap_lt hq⟩, (hx.beg hn8).1, heap_lt hx.q⟩)
      obtain ⟨⟨x0, x1⟩, ⟨x2, x3⟩, x4, x5⟩ := HCX.out w2 (Below.refl _ _)
      clear hcc hAlt hBlt hFlt hJlt hOlt hw2 HBR HRN HIDLE
      generalize hbg : X.begun.getD nn 0 = Bg at *
      have HBG := Lib.hid hbg
      generalize hog : M.of.getD nn 0 = Og at *
      have HOG := Lib.hid hog
      clear hbg hog
      have hlen' : ((100 + (nn : Int)) :: r).length = r.length + 1 := rfl
      have ha0 : ¬ lc = 0 := by omega
      rw [hlen'] at e2 e3 e4 ⊢
      clear hlen' hll hl6
      generalize r.length = rn at *
      go_upto_region 4 with fail
      have HBS : Hid (Below w2.heap.size w2 w2) := Lib.hid (Below.refl _ _)
      have HKX : Hid (∀ W W' : World, Hid (Below w2.heap.size w2 W) → Below W.heap.size W W' → ((W'.cell? ⟨BM, 4, none⟩ = some (.pointer (some ⟨BT, 0, none⟩)) ∧ BM < W'.heap.size) ∧ (W'.cell? ⟨BI, 2, none⟩ = some (.int .i64 a) ∧ BI < W'.heap.size) ∧ (W'.cell? ⟨B, 175 + nn, none⟩ = some (.int .u64 ((Bg : Nat) : Int)) ∧ B < W'.heap.size)) ∧ Hid (Below w2.heap.size w2 W')) := Lib.hid fun W W' h k => by
        have hb := h.out.trans (k.mono h.out.size)
        exact ⟨HCX.out W' hb, Lib.hid hb⟩
      have hrn1 : (1 : Int) ≤ (rn : Int) + 1 := by omega
      go_cut [8] from 29 to 44 (fun fv wx => fv = .int .u64 ((fr : Nat) : Int) ∧ Hid (Below w2.heap.size w2 wx))
      case first =>
        by_cases hc1 : lc = 1
        · rw [if_pos hc1] at HFA
          subst hc1
          have hr0 : rn = 0 := by omega
          subst hr0
          go_region_held3 (fun w' => ((w'.cell? ⟨BM, 4, none⟩ = some (.pointer (some ⟨BT, 0, none⟩)) ∧ BM < w'.heap.size) ∧ (w'.cell? ⟨BI, 2, none⟩ = some (.int .i64 a) ∧ BI < w'.heap.size) ∧ (w'.cell? ⟨B, 175 + nn, none⟩ = some (.int .u64 ((Bg : Nat) : Int)) ∧ B < w'.heap.size)) ∧ Hid (Below w2.heap.size w2 w'))
            (first | (exact HKX.out _ _ HBS (Below.refl _ _).drew) | (exact HKX.out _ _ (And.right (show _ ∧ Hid (Below w2.heap.size w2 _) by assumption)) (by assumption)) | go_keep)
            (first
              | (go_at_call 124; (with_reducible refine (HFA.out _ (Hid.out (And.right (show _ ∧ Hid (Below w2.heap.size w2 _) by assumption)))).mono ?_); rintro e w9 ⟨rfl, hb9⟩)
              | (go_at_call 125; (with_reducible refine (HLE.out _).mono ?_); rintro e w8 ⟨rfl, hw8⟩; obtain rfl := hw8.symm))
          all_goals
            go_wp2
            go_meet
            case rel => exact ⟨rfl, And.right (show _ ∧ Hid (Below w2.heap.size w2 _) by assumption)⟩
        · rw [if_neg hc1] at HFA
          have hc1' : ¬ (lc : Int) = 1 := by omega
          have hc2 : (1 : Int) ≤ lc := by omega
          go_region_held3 (fun w' => ((w'.cell? ⟨BM, 4, none⟩ = some (.pointer (some ⟨BT, 0, none⟩)) ∧ BM < w'.heap.size) ∧ (w'.cell? ⟨BI, 2, none⟩ = some (.int .i64 a) ∧ BI < w'.heap.size) ∧ (w'.cell? ⟨B, 175 + nn, none⟩ = some (.int .u64 ((Bg : Nat) : Int)) ∧ B < w'.heap.size)) ∧ Hid (Below w2.heap.size w2 w'))
            (first | (exact HKX.out _ _ HBS (Below.refl _ _).drew) | (exact HKX.out _ _ (And.right (show _ ∧ Hid (Below w2.heap.size w2 _) by assumption)) (by assumption)) | go_keep)
            (first
              | (go_at_call 124; (with_reducible refine (HFA.out _ (Hid.out (And.right (show _ ∧ Hid (Below w2.heap.size w2 _) by assumption)))).mono ?_); rintro e w9 ⟨rfl, hb9⟩)
              | (go_at_call 125; (with_reducible refine (HLE.out _).mono ?_); rintro e w8 ⟨rfl, hw8⟩; obtain rfl := hw8.symm))
          all_goals
            go_wp2
            go_meet
            case rel => exact ⟨rfl, And.right (show _ ∧ Hid (Below w2.heap.size w2 _) by assumption)⟩
      case rest =>
      obtain ⟨rfl, HB5⟩ := hcut
      rename World => w5
      have HX5 := Lib.hid (HX2.out.below HB5.out)
      have HW5 := Lib.hid (HW2.out.trans (HB5.out.mono HW2.out.size))
      have HV5 := Lib.hid (HB2.out.trans (HB5.out.mono (by rw [← HBI.out]; exact HB2.out.size)))
      obtain ⟨z0, z1⟩ := HX5.out.beg hn8
      rw [HBG.out] at z0
      have z2 := heap_lt HX5.out.q
      have HX6 := Lib.hid (HX5.out.setBeg (v := Bg ||| fr) hn8 HBLT.out)
      generalize hov : Bg ||| fr = ov at *
      have HOV := Lib.hid hov
      clear hov x0 x1 x2 x3 x4 x5 HBS HKX HCX HFA HLE c0 e2 e3 e4 hbb
      go_upto_region 5 with fail
      go_region_with (go_at_call 120; (with_reducible refine (HJO.out _).mono ?_); rintro e w6 ⟨rfl, hw6⟩; rw [hw6]; clear hw6)
      have HX7 : Hid (CloAt (w5.setCell ⟨B, 175 + nn, none⟩ (.int .u64 (ov : Int))).drew B base { X with begun := X.begun.set nn ov }) := Lib.hid (HX6.out.below (Below.refl _ _).drew)
      have HW7 := Lib.hid ((HW5.out.setCell (p := ⟨B, 175 + nn, none⟩) hB (.int .u64 (ov : Int))).drew)
      have HT7 := Lib.hid (show WTo w (w5.setCell ⟨B, 175 + nn, none⟩ (.int .u64 (ov : Int))).drew X.oa X.oa (some ⟨B, 0, none⟩) [] from ⟨by have h1 := HV5.out.size; show w.heap.size ≤ (w5.heap.modify B _).size; rw [Array.size_modify]; exact h1, fun k hk _ h4 => (Below.heap_setCell w5 ⟨B, 175 + nn, none⟩ (.int .u64 (ov : Int)) k (fun e => h4 ⟨B, 0, none⟩ rfl e.symm)).trans (HV5.out.block k (by rw [← HBI.out]; exact hk)), fun x hx => .inl ⟨x, hx, rfl⟩, fun r hr => by cases hr⟩)
      clear z0 z1 z2 HX5 HX6 HW5 HV5 HJO
      generalize (w5.setCell ⟨B, 175 + nn, none⟩ (.int .u64 (ov : Int))).drew = S7 at *
      generalize hX1 : ({ X with begun := X.begun.set nn ov } : CloR) = X1 at *
      have HO1 := Lib.hid (show X1.oa = X.oa by rw [← hX1])
      have HOP1 := Lib.hid (show X1.opn = X.opn by rw [← hX1])
      have HC1 := Lib.hid (show Z = putAll X1.cl (newI Og fr) by rw [HZ.out, ← hX1]; rfl)
      clear hX1
      have hm7 := HM.out.below HW7.out
      have y0 := (blk_cell (i := 2) hm7.at_.q rfl).1
      have y1 := heap_lt hm7.at_.q
      obtain ⟨ob, oo, hoe, hol, hoc⟩ := hm7.at_.off.get (by intro e; rw [List.map_eq_nil_iff] at e; rw [e] at hno; simp at hno)
      have y2 := hoc nn (.int .u64 ((Og : Nat) : Int)) (by rw [List.getElem?_map, List.getElem?_eq_getElem hno, ← HOG.out, List.getD_eq_getElem?_getD, List.getElem?_eq_getElem hno]; rfl)
      rw [hoe] at y0
      have HLA := Lib.hid (HL1.out S7 (HTT.out.below HW7.out))
      have hP64 := bitsN_len Og
      have hQ64 := bitsN_len fr
      have HNW := Lib.hid (newI_flat Og fr)
      have HQ6 := Lib.hid (show ∀ a, a ∈ bitsN fr → a < 64 from fun a ha => (mem_bitsN.1 ha).1)
      generalize hP : bitsN Og = P at *
      generalize hQq : bitsN fr = Qs at *
      clear hm7 hoc hP hQq
      go_wp2_with (go_at_call 126; (with_reducible refine HLA.out.mono ?_); rintro e w8 ⟨rfl, hl8, hb8⟩)
      have HW8 := Lib.hid (HW7.out.trans (hb8.mono HW7.out.size))
      have HX8 := Lib.hid (HX7.out.below hb8)
      have HL8 := Lib.hid hl8
      have HT8 := Lib.hid (WTo.trans HT7.out (WTo.later _ _ _ _ hb8))
      have HG8 := Lib.hid (show S7.heap.size < w8.heap.size from by
        obtain ⟨c, hc⟩ := (own_block hl8 (g := S7.heap.size) rfl).2.2
        exact heap_lt hc)
      have HGB := Lib.hid (show B ≠ S7.heap.size from by have := heap_lt HX7.out.q; omega)
      have HGO := Lib.hid (show ∀ y, X1.oa = some y → y.block ≠ S7.heap.size from fun y hy => by
        have := (own_block HX7.out.own (g := y.block) (by rw [hy]; rfl)).2.1
        omega)
      clear y0 y1 y2 hl8 hb8 HLA HX7 HT7 HW7 hol
      generalize S7.heap.size = G at *
      go_loopw [67] (fun i wr => ∃ k : Nat, k ≤ P.length ∧ i = .int .i64 k ∧ ∃ Y : CloR, Hid (CloAt wr B base Y) ∧ Hid (Y.cl = putAll X1.cl (bring1 P Qs k)) ∧ Hid (WTo w8 wr X1.oa Y.oa (some ⟨B, 0, none⟩) []) ∧ Hid (Below w0.heap.size w0 wr)) (fun i _ => P.length - (intOf i).toNat)
      case atStart => exact ⟨0, by omega, rfl, X1, HX8, Lib.hid (by unfold bring1; simp [putAll]), Lib.hid (WTo.refl _ _ _), HW8⟩
      case round =>
        obtain ⟨k, hk, rfl, Y, HY, HYC, HYT, HYW⟩ := hrel
        rename World => w9
        by_cases hlt : k < P.length
        · have hlt' : (k : Int) < P.length := by omega
          obtain ⟨pk, hpk⟩ : ∃ pk, P[k]? = some pk := ⟨_, List.getElem?_eq_getElem hlt⟩
          have hli := HL8.out.keep (HYT.out.keep G HG8.out HGO.out (fun y hy e => HGB.out (by cases hy; exact e)))
          have c0 := hli.cell hpk
          have HPK := Lib.hid hpk
          have HLB := Lib.hid (HL2.out w9 (HTT.out.below HYW.out))
          clear hli hpk
          go_wp2_with (go_at_call 126; (with_reducible refine HLB.out.mono ?_); rintro e w10 ⟨rfl, hl10, hb10⟩)
          have HW10 := Lib.hid (HYW.out.trans (hb10.mono HYW.out.size))
          have HY10 := Lib.hid (HY.out.below hb10)
          have HL10 := Lib.hid hl10
          have HT10 := Lib.hid (show WTo w8 w10 X1.oa Y.oa (some ⟨B, 0, none⟩) [] from WTo.trans HYT.out (WTo.later _ _ _ _ hb10))
          have HG10 := Lib.hid (show w9.heap.size < w10.heap.size from by
            obtain ⟨c, hc⟩ := (own_block hl10 (g := w9.heap.size) rfl).2.2
            exact heap_lt hc)
          have HGB2 := Lib.hid (show B ≠ w9.heap.size from by have := heap_lt HY.out.q; omega)
          have HGO2 := Lib.hid (show ∀ y, Y.oa = some y → y.block ≠ w9.heap.size from fun y hy => by
            have := (own_block HY.out.own (g := y.block) (by rw [hy]; rfl)).2.1
            omega)
          clear hl10 hb10 HLB c0 HYT HYW
          generalize w9.heap.size = G2 at *
          go_loopw [74] (fun i wr => ∃ j : Nat, j ≤ Qs.length ∧ i = .int .i64 j ∧ ∃ Y2 : CloR, Hid (CloAt wr B base Y2) ∧ Hid (Y2.cl = putAll X1.cl (bring2 P Qs k j pk)) ∧ Hid (WTo w8 wr X1.oa Y2.oa (some ⟨B, 0, none⟩) []) ∧ Hid (WTo w10 wr Y.oa Y2.oa (some ⟨B, 0, none⟩) []) ∧ Hid (Below w0.heap.size w0 wr)) (fun i _ => Qs.length - (intOf i).toNat)
          case atStart => exact ⟨0, by omega, rfl, Y, HY10, Lib.hid (by rw [bring2_zero]; exact HYC.out), HT10, Lib.hid (WTo.refl _ _ _), HW10⟩
          case round =>
            obtain ⟨j, hj, rfl, Y2, HZ2, HZC, HZT, HZU, HZW⟩ := hrel
            rename World => w11
            by_cases hlt2 : j < Qs.length
            · have hlt2' : (j : Int) < Qs.length := by omega
              obtain ⟨aq, haq⟩ : ∃ aq, Qs[j]? = some aq := ⟨_, List.getElem?_eq_getElem hlt2⟩
              have hli := HL10.out.keep (HZU.out.keep G2 HG10.out HGO2.out (fun y hy e => HGB2.out (by cases hy; exact e)))
              have c0 := hli.cell haq
              have hop : Y2.opn.length ≤ 1000000 := by
                have h1 : Y2.opn = (putAll X1.cl (bring2 P Qs k j pk)).opn := by rw [← HZC.out]; rfl
                have h2 := putAll_grow (bring2 P Qs k j pk) X1.cl
                have h3 := bring2_le P Qs k j pk hP64 hQ64
                have h4 : X1.cl.opn.length = X.opn.length := by show X1.opn.length = _; rw [HOP1.out]
                rw [h1]
                omega
              have HPU := Lib.hid (show Calls Tryd.prog 100 #[.pointer (some ⟨B, 0, none⟩), .agg #[.int .i64 (pk : Int), .int .i64 0, .int .i64 (aq : Int)]] w11 (fun e w' => e = .returned (.tuple #[]) ∧ ∃ Y3, CloAt w' B base Y3 ∧ Y3.cl = putP Y2.cl ((pk : Int), (0 : Int), (aq : Int)) ∧ StepTo w0 w11 w' B Y2.oa Y3.oa) from
                iputx_any B base Y2 ((pk : Int), (0 : Int), (aq : Int)) w0 w11 HZW.out hB hb0 HZ2.out (Nat.le_trans hb (by rw [← HBI.out]; exact Nat.le_trans HT8.out.size HZT.out.size)) (HIN.out pk aq (List.mem_of_getElem? HPK.out) (HQ6.out aq (List.mem_of_getElem? haq))) hop)
              have HAQ := Lib.hid haq
              clear hli haq hop
              go_wp2_with (go_at_call 100; (with_reducible refine HPU.out.mono ?_); rintro e w12 ⟨rfl, Y3, hY3, hC3, hS3⟩)
              have HY3 := Lib.hid hY3
              have HC3 := Lib.hid (show Y3.cl = putAll X1.cl (bring2 P Qs k (j + 1) pk) by rw [hC3, bring2_succ HAQ.out, putAll_snoc, HZC.out])
              have HT3 := Lib.hid (show WTo w8 w12 X1.oa Y3.oa (some ⟨B, 0, none⟩) [] from WTo.trans HZT.out hS3.wto)
              have HU3 := Lib.hid (show WTo w10 w12 Y.oa Y3.oa (some ⟨B, 0, none⟩) [] from WTo.trans HZU.out hS3.wto)
              have HW3 := Lib.hid hS3.low
              clear hY3 hC3 hS3 c0
              go_roundw
              case rel => exact ⟨j + 1, by omega, by go_num, Y3, HY3, HC3, HT3, HU3, HW3⟩
              case measure => simp [intOf]; omega
            · have hjn : j = Qs.length := by omega
              have HC3 := Lib.hid (show Y2.cl = putAll X1.cl (bring1 P Qs (k + 1)) by rw [bring1_succ HPK.out, ← hjn]; exact HZC.out)
              have hge : ¬ (j : Int) < Qs.length := by omega
              clear hjn
              go_wp2
              go_roundw
              case rel => exact ⟨k + 1, by omega, by go_num, Y2, HZ2, HC3, HZT, HZW⟩
              case measure => simp [intOf]; omega
        · have hkn : k = P.length := by omega
          have hge : ¬ (k : Int) < P.length := by omega
          have HEND := Lib.hid (show BringTo B base w0 w X.oa Z (.returned (.tuple #[])) w9 from ⟨rfl, Y, HY.out, by
            rw [HYC.out, HC1.out, HNW.out, hkn]
            unfold bring1
            rw [List.take_length], ⟨WTo.trans HT8.out (by rw [← HO1.out]; exact HYT.out), HYW.out⟩⟩)
          clear hkn
          go_wp2
          go_end0
          exact HEND.out
end Go.Proofs.YtejjdfmobiegdaaDoor

set_option linter.unusedVariables false
namespace Go.Proofs.YtejjdfmobiegdaaDoor
open Go.RowKit
open Doc

theorem zero_clo : Tryd.zeroCells157.toList = u64s (List.replicate 175 0) ++ u64s (List.replicate 8 0) ++ [.slice none 0 0] := by kernel_rfl
def clo0 : CloR := ⟨List.replicate 175 0, List.replicate 8 0, none, 0, []⟩
theorem clo0_cl : clo0.cl = Cl0 := rfl
theorem clo0_at (w : World) : CloAt (w.alloc (.cells Tryd.zeroCells157 157)) w.heap.size w.heap.size clo0 where
  q := by
    rw [heap_alloc_new]
    have e : Tryd.zeroCells157 = (cloL clo0).toArray := Array.toList_inj.1 (by rw [zero_clo]; rfl)
    rw [← e]
  own := ⟨rfl, .inl ⟨rfl, rfl⟩⟩
  l175 := List.length_replicate
  l8 := List.length_replicate
  lt x hx := by rw [List.eq_of_mem_replicate hx]; omega
  lb x hx := by rw [List.eq_of_mem_replicate hx]; omega
open Classical in
/-- How much is still to come of a closing that lies at a block. -/
noncomputable def massC (B base : Nat) (w : World) : Nat := if h : ∃ X, CloAt w B base X then 22400 + h.choose.opn.length - 2 * cntC h.choose.all else 0
theorem u64s_inj : ∀ {l m : List Nat}, u64s l = u64s m → l = m
  | [], [], _ => rfl
  | [], _ :: _, h => by simp [u64s] at h
  | _ :: _, [], h => by simp [u64s] at h
  | x :: l, y :: m, h => by
    simp only [u64s, List.map_cons, List.cons.injEq] at h
    obtain ⟨h1, h2⟩ := h
    have := u64s_inj (l := l) (m := m) (by simpa [u64s] using h2)
    have hxy : (x : Int) = (y : Int) := by injection h1
    rw [this, show x = y by omega]
theorem clo_uniq {w : World} {B base base' : Nat} {X Y : CloR} (h : CloAt w B base X) (k : CloAt w B base' Y) : X.all = Y.all ∧ X.opn.length = Y.opn.length := by
  have e := h.q.symm.trans k.q
  injection e with e
  injection e with e
  have e : cloL X = cloL Y := by have := congrArg Array.toList e; simpa using this
  have e1 := congrArg (List.take 175) e
  have e2 := congrArg (fun l => l[183]?) e
  constructor
  · unfold cloL at e1
    rw [List.append_assoc, List.append_assoc, List.take_append_of_le_length (by simp [u64s, h.l175]), List.take_append_of_le_length (by simp [u64s, k.l175]), List.take_of_length_le (by simp [u64s, h.l175]), List.take_of_length_le (by simp [u64s, k.l175])] at e1
    exact u64s_inj e1
  · simp only [clo_open h.l175 h.l8, clo_open k.l175 k.l8] at e2
    injection e2 with e2
    injection e2
open Classical in
theorem massC_eq {w : World} {B base : Nat} {X : CloR} (h : CloAt w B base X) : massC B base w = 22400 + X.opn.length - 2 * cntC X.all := by
  have hex : ∃ Y, CloAt w B base Y := ⟨X, h⟩
  unfold massC
  rw [dif_pos hex]
  obtain ⟨e1, e2⟩ := clo_uniq h hex.choose_spec
  rw [e1, e2]
/-- A row of items that lies somewhere. -/
def ItsAt (w : World) (a : Option Addr) (l : List It) : Prop := Cells w a (itsV l)
theorem ItsAt.cell {w : World} {b o : Nat} {l : List It} (h : ItsAt w (some ⟨b, o, none⟩) l) {k : Nat} {x : It} (hx : l[k]? = some x) :
    w.cell? ⟨b, o + k * 3, none⟩ = some (.int .i64 x.1) ∧ w.cell? ⟨b, o + k * 3 + 1, none⟩ = some (.int .i64 x.2.1) ∧ w.cell? ⟨b, o + k * 3 + 2, none⟩ = some (.int .i64 x.2.2) ∧ b < w.heap.size := by
  obtain ⟨b', o', he, hb, hc⟩ := Cells.get h (by intro e; have := (its_at hx).1; rw [e] at this; simp at this)
  cases he
  have h0 := hc _ _ (its_at hx).1
  have h1 := hc _ _ (its_at hx).2.1
  have h2 := hc _ _ (its_at hx).2.2
  rw [← Nat.add_assoc] at h1 h2
  exact ⟨h0, h1, h2, hb⟩
theorem ItsAt.some {w : World} {a : Option Addr} {l : List It} (h : ItsAt w a l) (hl : l ≠ []) : ∃ b o, a = some ⟨b, o, none⟩ := by
  obtain ⟨b, o, he, _⟩ := Cells.get h (by intro e; have := its_len l; rw [e] at this; cases l with | nil => exact hl rfl | cons x l => simp at this)
  exact ⟨b, o, he⟩
theorem OwnI.its {w : World} {base : Nat} {a : Option Addr} {c : Nat} {l : List It} (h : OwnI w base a c l) : ItsAt w a l := (own_cells h.own).1
theorem OwnI.cap {w : World} {base : Nat} {a : Option Addr} {c : Nat} {l : List It} (h : OwnI w base a c l) : l.length ≤ c := (own_cells h.own).2
theorem foldl_take {α β : Type} (f : β → α → β) (b : β) {l : List α} {k : Nat} {x : α} (h : l[k]? = some x) : (l.take (k + 1)).foldl f b = f ((l.take k).foldl f b) x := by
  rw [List.take_add_one, h, List.foldl_append]; rfl
theorem putR_grow (K : MkP) : ∀ (l : List It) (X : Cl), (l.foldl (putR K) X).opn.length ≤ X.opn.length + l.length
  | [], X => by simp
  | x :: l, X => by
    have h1 := putR_grow K l (putR K X x)
    have h2 : (putR K X x).opn.length ≤ X.opn.length + 1 := by
      unfold putR
      split
      · exact put_grow X x
      · omega
    rw [List.foldl_cons, List.length_cons]
    omega
theorem own_baseI {w : World} {B B' e size n : Nat} {v : Value} {xs : List Value} (h : w.ownsRow B e size v n xs) (hb : B' ≤ B) : w.ownsRow B' e size v n xs := by
  refine ⟨h.1, ?_⟩
  rcases h.2 with h0 | ⟨g, cap, cur, hv, hB, rest⟩
  · exact .inl h0
  · exact .inr ⟨g, cap, cur, hv, Nat.le_trans hb hB, rest⟩
theorem OwnI.base {w : World} {B B' : Nat} {a : Option Addr} {c : Nat} {l : List It} (h : OwnI w B a c l) (hb : B' ≤ B) : OwnI w B' a c l := ⟨own_baseI h.own hb⟩
theorem last_of {l : List It} (h : l ≠ []) : ∃ o x, l = o ++ [x] := ⟨l.dropLast, l.getLast h, (List.dropLast_concat_getLast h).symm⟩
/-- What Close answers. -/
def CloseTo (K : MkP) (l : List It) (w : World) (e : Ending) (w' : World) : Prop := ∃ (L : List It) (a : Option Addr) (c : Nat), e = .returned (.slice a L.length c) ∧ CloseP K l L ∧ L.length ≤ 11200 ∧ OwnI w' w.heap.size a c L ∧ Below w.heap.size w w'
set_option maxRecDepth 100000 in
set_option maxHeartbeats 8000000 in
theorem iclose_any (BM BT bt : Nat) (M : MakR) (F : List Nat) (a : Option Addr) (c : Nat) (l : List It) (w : World) (hm : MakT w BM M BT bt F) (HT : Sl.Tab w) (hl : ItsAt w a l) (hll : l.length ≤ 100000) :
    Calls Tryd.prog 77 #[.pointer (some ⟨BM, 0, none⟩), .slice a l.length c] w (CloseTo (mkP M F) l w) := by
  have hK := mkOk_of hm.ok
  have HM := Lib.hid hm
  have HTT := Lib.hid HT
  have HL := Lib.hid hl
  have HC0 := Lib.hid (clo0_at w)
  have HB0 := Lib.hid (show Below w.heap.size w (w.alloc (.cells Tryd.zeroCells157 157)) from (Below.refl _ _).alloc (Nat.le_refl _) _)
  have HIS := Lib.hid fun x (W : World) (hW : Below w.heap.size w W) => isIt_any BM M x W ((hm.below hW).at_) hm.ok.ok
  clear hm HT hl
  go_enter Tryd.func77, Tryd.ntmps77
  go_upto_region 2 with fail
  generalize w.alloc (.cells Tryd.zeroCells157 157) = S at *
  go_wp2_with fail
  go_loopw [10] (fun i wr => ∃ k : Nat, k ≤ l.length ∧ i = .int .i64 k ∧ ∃ Y : CloR, Hid (CloAt wr w.heap.size w.heap.size Y) ∧ Hid (Y.cl = (l.take k).foldl (putR (mkP M F)) Cl0) ∧ Hid (Below w.heap.size w wr)) (fun i _ => l.length - (intOf i).toNat)
  case atStart => exact ⟨0, by omega, rfl, clo0, HC0, Lib.hid (by rw [List.take_zero]; rfl), HB0⟩
  case round =>
    obtain ⟨k, hk, rfl, Y, HY, HYC, HYW⟩ := hrel
    rename World => w1
    by_cases hlt : k < l.length
    · have hlt' : (k : Int) < l.length := by omega
      obtain ⟨x, hx⟩ : ∃ x, l[k]? = some x := ⟨_, List.getElem?_eq_getElem hlt⟩
      obtain ⟨b, o, rfl⟩ := HL.out.some (by intro e; rw [e] at hlt; simp at hlt)
      obtain ⟨c0, c1, c2, c3⟩ := ItsAt.cell (HL.out.below HYW.out) hx
      have HFT := Lib.hid (foldl_take (putR (mkP M F)) Cl0 hx)
      have HIX := Lib.hid (HIS.out x)
      have hop : Y.opn.length ≤ 1000000 := by
        have h1 : Y.opn = ((l.take k).foldl (putR (mkP M F)) Cl0).opn := by rw [← HYC.out]; rfl
        have h2 := putR_grow (mkP M F) (l.take k) Cl0
        have h3 : Cl0.opn.length = 0 := rfl
        rw [h1]
        rw [List.length_take] at h2
        omega
      have hinr : isIt M x = true → InR x := hK.inr x
      have HPU := Lib.hid fun (hr : isIt M x = true) (W : World) (hW : Below w.heap.size w W) (h : CloAt W w.heap.size w.heap.size Y) => iputx_any w.heap.size w.heap.size Y x w W hW (Nat.le_refl _) (Nat.le_refl _) h hW.size (hinr hr) hop
      have HRT := Lib.hid (show putR (mkP M F) ((l.take k).foldl (putR (mkP M F)) Cl0) x = if isIt M x = true then putP ((l.take k).foldl (putR (mkP M F)) Cl0) x else (l.take k).foldl (putR (mkP M F)) Cl0 from rfl)
      rw [HRT.out] at HFT
      clear HRT hinr hop hx
      generalize isIt M x = ix at *
      obtain ⟨p, d, aa⟩ := x
      unfold itV at *
      simp only at *
      have hA : Below w1.heap.size w1 (w1.alloc (.cells #[.int .i64 p, .int .i64 d, .int .i64 aa] 53)) := (Below.refl _ _).alloc (Nat.le_refl _) _
      have hQ := heap_alloc_new w1 (.cells #[.int .i64 p, .int .i64 d, .int .i64 aa] 53)
      have HAW := Lib.hid (HYW.out.trans (hA.mono HYW.out.size))
      have HYA := Lib.hid (HY.out.below hA)
      have HQA := Lib.hid hQ
      have HIA := Lib.hid (HIX.out _ HAW.out)
      clear hA hQ HIX
      go_upto_region 5 with fail
      clear c0 c1 c2 c3
      generalize w1.alloc (.cells #[.int .i64 p, .int .i64 d, .int .i64 aa] 53) = A at *
      generalize w1.heap.size = BI at *
      have y0 := (blk_cell (i := 0) HQA.out rfl).1
      have y1 := (blk_cell (i := 1) HQA.out rfl).1
      have y2 := (blk_cell (i := 2) HQA.out rfl).1
      have y3 := heap_lt HQA.out
      cases ix with
      | false =>
        go_wp2_with (go_at_call 99; (with_reducible refine HIA.out.mono ?_); rintro e w2 ⟨rfl, hb2⟩)
        have HY2 := Lib.hid (HYA.out.below hb2)
        have HW2 := Lib.hid (HAW.out.trans (hb2.mono HAW.out.size))
        have HC2 := Lib.hid (show Y.cl = (l.take (k + 1)).foldl (putR (mkP M F)) Cl0 by rw [HFT.out, HYC.out]; rfl)
        clear hb2
        go_roundw
        case rel => exact ⟨k + 1, by omega, by go_num, Y, HY2, HC2, HW2⟩
        case measure => simp [intOf]; omega
      | true =>
        go_upto_region 6 with (go_at_call 99; (with_reducible refine HIA.out.mono ?_); rintro e w2 ⟨rfl, hb2⟩)
        have HY2 := Lib.hid (HYA.out.below hb2)
        have HW2 := Lib.hid (HAW.out.trans (hb2.mono HAW.out.size))
        have hq2 := (hb2.block _ y3).trans HQA.out
        have z0 := (blk_cell (i := 0) hq2 rfl).1
        have z1 := (blk_cell (i := 1) hq2 rfl).1
        have z2 := (blk_cell (i := 2) hq2 rfl).1
        have z3 := heap_lt hq2
        have HP2 := Lib.hid (HPU.out (by first | rfl | trivial) w2 HW2.out HY2.out)
        clear hb2 y0 y1 y2 y3 hq2
        go_wp2_with (go_at_call 100; (with_reducible refine HP2.out.mono ?_); rintro e w3 ⟨rfl, Y3, hY3, hC3, hS3⟩)
        have HY3 := Lib.hid hY3
        have HC3 := Lib.hid (show Y3.cl = (l.take (k + 1)).foldl (putR (mkP M F)) Cl0 by rw [HFT.out, hC3, HYC.out]; rfl)
        have HW3 := Lib.hid hS3.low
        clear hY3 hC3 hS3 z0 z1 z2 z3
        go_roundw
        case rel => exact ⟨k + 1, by omega, by go_num, Y3, HY3, HC3, HW3⟩
        case measure => simp [intOf]; omega
    · have hkl : k = l.length := by omega
      have hge : ¬ (k : Int) < l.length := by omega
      have HCI := Lib.hid (show CInv (mkP M F) l Y.cl by
        rw [HYC.out, hkl, List.take_length]
        exact cinv_first hK l)
      clear hkl
      go_wp2_with fail
      go_loopw [] (fun wr => ∃ Z : CloR, Hid (CloAt wr w.heap.size w.heap.size Z) ∧ Hid (CInv (mkP M F) l Z.cl) ∧ Hid (Below w.heap.size w wr)) (fun wr => massC w.heap.size w.heap.size wr)
      case atStart => exact ⟨Y, HY, HCI, HYW⟩
      case round =>
        clear HY HCI HYW HYC
        obtain ⟨Z, HZ, HZC, HZW⟩ := hrel
        rename World => w4
        obtain ⟨z0, z1⟩ := HZ.out.opn
        have z2 := heap_lt HZ.out.q
        by_cases ho : Z.opn = []
        · have HCL := Lib.hid (HZC.out.close (show Z.cl.opn = [] from ho))
          have HLI := Lib.hid (ilist_any w.heap.size w.heap.size Z w4 HZ.out (HTT.out.below HZW.out))
          have hlen0 : Z.opn.length = 0 := by rw [ho]; rfl
          rw [hlen0] at z0
          clear ho hlen0
          go_wp2_with (go_at_call 103; (with_reducible refine HLI.out.mono ?_); rintro e w5 ⟨a5, c5, rfl, hO5, hb5⟩)
          go_ret
          exact ⟨listP Z.all, a5, c5, rfl, HCL.out, listP_le _, hO5.base HZW.out.size, HZW.out.trans (hb5.mono HZW.out.size)⟩
        · obtain ⟨o, x, hox⟩ := last_of ho
          have hcn : Z.opn.length ≤ 11200 := by
            have h1 := HZC.out.cnt
            have h2 := cntC_le Z.cl.all
            rw [HZC.out.la] at h2
            have h3 : Z.cl.opn.length = Z.opn.length := rfl
            omega
          have hol : o.length + 1 ≤ 11200 := by rw [hox, List.length_append, List.length_singleton] at hcn; exact hcn
          have hlen : 0 < Z.opn.length := by rw [hox]; simp
          have hlen' : (0 : Int) < Z.opn.length := by omega
          have hxm : x ∈ Z.cl.opn := by show x ∈ Z.opn; rw [hox]; simp
          have hxr : isIt M x = true := (HZC.out.sound x (HZC.out.opn x hxm)).right hK
          have HTA := Lib.hid (itake_any w.heap.size w.heap.size Z o x w4 HZ.out hox (by omega))
          have HBN := Lib.hid fun (W : World) (hW : Below w.heap.size w W) (hZ : CloAt W w.heap.size w.heap.size { Z with opn := o }) => ibring_any w.heap.size w.heap.size BM BT bt M F { Z with opn := o } x w W HM.out HTT.out hW (Nat.le_refl _) (Nat.le_refl _) hW.size hZ hxr (by show o.length ≤ 900000; omega)
          unfold BringTo at HBN
          have HST := Lib.hid (HZC.out.bring hK (o := o) (x := x) hox)
          clear ho hox hxm hxr hcn
          go_wp2_with (first
            | (go_at_call 102; (with_reducible refine HTA.out.mono ?_); rintro e w5 ⟨rfl, hZ5, hT5, hB5⟩
               have HZ5 := Lib.hid hZ5
               have HW5 := Lib.hid (HZW.out.trans (hB5 w.heap.size (Nat.le_refl _) HZW.out.size))
               clear hZ5 hT5 hB5)
            | (go_at_call 101; (with_reducible refine (HBN.out _ HW5.out HZ5.out).mono ?_); rintro e w6 ⟨rfl, Y6, hY6, hC6, hS6⟩))
          have HY6 := Lib.hid hY6
          have HC6 := Lib.hid (show CInv (mkP M F) l Y6.cl by rw [hC6]; exact HST.out.1)
          have HD6 := Lib.hid (show 22400 + Y6.opn.length - 2 * cntC Y6.all < 22400 + Z.opn.length - 2 * cntC Z.all by
            have := HST.out.2
            have e : Y6.cl = bringP (mkP M F) { Z.cl with opn := o } x := hC6
            rw [← e] at this
            exact this)
          have HW6 := Lib.hid hS6.low
          clear hY6 hC6 hS6
          go_roundw
          case rel => exact ⟨Y6, HY6, HC6, HW6⟩
          case measure =>
            rw [massC_eq HY6.out, massC_eq HZ.out]
            exact HD6.out
end Go.Proofs.YtejjdfmobiegdaaDoor

set_option linter.unusedVariables false
namespace Go.Proofs.YtejjdfmobiegdaaDoor
open Go.RowKit
open Doc

theorem overP_succ {K : MkP} {l : List It} {s : Int} {k : Nat} {x : It} (h : l[k]? = some x) : overP K (l.take (k + 1)) s = overP K (l.take k) s ++ (if goesB K s x = true then [stepI x] else []) := by
  rw [List.take_add_one, h]
  unfold overP
  rw [List.filter_append, List.map_append]
  congr 1
  show List.map stepI (List.filter (goesB K s) [x]) = _
  rw [List.filter_cons]
  split <;> rfl
theorem overP_le (K : MkP) (l : List It) (s : Int) : (overP K l s).length ≤ l.length := by
  unfold overP
  rw [List.length_map]
  exact List.length_filter_le _ _
set_option maxRecDepth 100000 in
set_option maxHeartbeats 8000000 in
theorem igo_any (BM BT bt : Nat) (M : MakR) (F : List Nat) (a : Option Addr) (c : Nat) (l : List It) (s : Int) (w : World) (hm : MakT w BM M BT bt F) (HT : Sl.Tab w) (hl : ItsAt w a l) (hll : l.length ≤ 100000) :
    Calls Tryd.prog 39 #[.pointer (some ⟨BM, 0, none⟩), .slice a l.length c, .int .i64 s] w (CloseTo (mkP M F) (overP (mkP M F) l s) w) := by
  have hK := mkOk_of hm.ok
  have HM := Lib.hid hm
  have HTT := Lib.hid HT
  have HL := Lib.hid hl
  have HNX := Lib.hid fun x (W : World) (hW : Below w.heap.size w W) => inext_any BM M x W ((hm.below hW).at_) hm.ok.ok
  clear hm HT hl
  obtain ⟨i1, hi1, hy0, hy1, hy2⟩ := info_of infoIt
  go_enter Tryd.func39, Tryd.ntmps39
  go_wp2_with fail
  go_loopw [7, 14] (fun v i wr => ∃ k : Nat, k ≤ l.length ∧ i = .int .i64 k ∧ ∃ (a' : Option Addr) (c' n : Nat), v = .slice a' n c' ∧ Hid (n = (overP (mkP M F) (l.take k) s).length) ∧ Hid (OwnI wr w.heap.size a' c' (overP (mkP M F) (l.take k) s)) ∧ Hid (Below w.heap.size w wr)) (fun _ i _ => l.length - (intOf i).toNat)
  case atStart => exact ⟨0, by omega, rfl, none, 0, 0, rfl, Lib.hid (by rw [List.take_zero]; rfl), Lib.hid (by rw [List.take_zero]; exact OwnI.nil _ _), Lib.hid (Below.refl _ _)⟩
  case round =>
    obtain ⟨k, hk, rfl, a1, c1, n1, rfl, HN1, HO1, HW1⟩ := hrel
    rename World => w1
    by_cases hlt : k < l.length
    · have hlt' : (k : Int) < l.length := by omega
      obtain ⟨x, hx⟩ : ∃ x, l[k]? = some x := ⟨_, List.getElem?_eq_getElem hlt⟩
      obtain ⟨b, o, rfl⟩ := HL.out.some (by intro e; rw [e] at hlt; simp at hlt)
      obtain ⟨x0, x1, x2, x3⟩ := ItsAt.cell (HL.out.below HW1.out) hx
      have HOS := Lib.hid (overP_succ (K := mkP M F) (s := s) hx)
      have HGB := Lib.hid (show goesB (mkP M F) s x = (nextM M x == some s) from rfl)
      rw [HGB.out] at HOS
      have HRI := Lib.hid (show ∀ t, nextM M x = some t → InR x from fun t ht => by
        refine hK.inr x ?_
        show isIt M x = true
        cases hi : isIt M x with
        | true => rfl
        | false =>
          unfold nextM restM at ht
          rw [hi] at ht
          cases ht)
      have HIX := Lib.hid (HNX.out x)
      have hn1 : n1 ≤ 100000 := by rw [HN1.out]; have := overP_le (mkP M F) (l.take k) s; rw [List.length_take] at this; omega
      clear HGB hx
      generalize nextM M x = nx at *
      have HSX := Lib.hid (show stepI x = (x.1, x.2.1 + 1, x.2.2) from rfl)
      rw [HSX.out] at HOS
      clear HSX
      obtain ⟨p, d, aa⟩ := x
      unfold itV at *
      simp only at *
      have hA : Below w1.heap.size w1 (w1.alloc (.cells #[.int .i64 p, .int .i64 d, .int .i64 aa] 53)) := (Below.refl _ _).alloc (Nat.le_refl _) _
      have HAW := Lib.hid (HW1.out.trans (hA.mono HW1.out.size))
      have HOA := Lib.hid (HO1.out.below hA)
      have HQA := Lib.hid (heap_alloc_new w1 (.cells #[.int .i64 p, .int .i64 d, .int .i64 aa] 53))
      have HIA := Lib.hid (HIX.out _ HAW.out)
      have HW1S := Lib.hid HW1.out.size
      clear hA HIX
      go_upto_region 5 with fail
      clear x0 x1 x2 x3
      generalize w1.alloc (.cells #[.int .i64 p, .int .i64 d, .int .i64 aa] 53) = A at *
      have HBO := Lib.hid (show ∀ q, (Value.slice a1 (overP (mkP M F) (l.take k) s).length c1).ownBlock = some q → q ≠ w1.heap.size from fun q hq => by
        have := (own_block HO1.out.own hq).2.1
        omega)
      generalize w1.heap.size = BI at *
      have y0 := (blk_cell (i := 0) HQA.out rfl).1
      have y1 := (blk_cell (i := 1) HQA.out rfl).1
      have y2 := (blk_cell (i := 2) HQA.out rfl).1
      have y3 := heap_lt HQA.out
      cases nx with
      | none =>
        have HO2 := Lib.hid (show overP (mkP M F) (l.take (k + 1)) s = overP (mkP M F) (l.take k) s by rw [HOS.out]; simp)
        go_wp2_with (go_at_call 78; (with_reducible refine HIA.out.mono ?_); rintro e w2 ⟨rfl, hb2⟩)
        have HW2 := Lib.hid (HAW.out.trans (hb2.mono HAW.out.size))
        have HOB := Lib.hid (HOA.out.below hb2)
        clear hb2
        go_roundw
        case rel => exact ⟨k + 1, by omega, by go_num, a1, c1, n1, rfl, Lib.hid (by rw [HO2.out]; exact HN1.out), Lib.hid (by rw [HO2.out]; exact HOB.out), HW2⟩
        case measure => simp [intOf]; omega
      | some t =>
        have hr := HRI.out t rfl
        have hd0 := hr.d0
        have hd1 := hr.d1
        simp only at hd0 hd1
        clear hr HRI
        by_cases hts : t = s
        · subst hts
          have HO2 := Lib.hid (show overP (mkP M F) (l.take (k + 1)) t = overP (mkP M F) (l.take k) t ++ [(p, d + 1, aa)] by rw [HOS.out]; simp)
          go_upto_region 7 with (go_at_call 78; (with_reducible refine HIA.out.mono ?_); rintro e w2 ⟨rfl, hb2⟩)
          have HW2 := Lib.hid (HAW.out.trans (hb2.mono HAW.out.size))
          have HOB := Lib.hid (HOA.out.below hb2)
          have hq2 := (hb2.block BI y3).trans HQA.out
          have z0 := (blk_cell (i := 0) hq2 rfl).1
          obtain ⟨z1, z2⟩ := blk_cell (i := 1) hq2 rfl
          have z3 := (blk_cell (i := 2) hq2 rfl).1
          have z4 := heap_lt hq2
          have hwd : IntKind.i64.wrap (d + 1) = d + 1 := IntWalk.i64_in _ (by omega)
          have HQ3 := Lib.hid (show (w2.setCell ⟨BI, 1, none⟩ (.int .i64 (d + 1))).heap[BI]? = some (.cells #[.int .i64 p, .int .i64 (d + 1), .int .i64 aa] 53) from heap_set w2 BI 1 (.int .i64 (d + 1)) _ _ hq2 (by simp))
          have HO3 := Lib.hid (show OwnI (w2.setCell ⟨BI, 1, none⟩ (.int .i64 (d + 1))) w.heap.size a1 c1 (overP (mkP M F) (l.take k) t) from ⟨own_same HOB.out.own fun q hq _ => Below.heap_setCell _ _ _ _ (HBO.out q hq)⟩)
          have HW3 := Lib.hid (HW2.out.setCell (p := ⟨BI, 1, none⟩) HW1S.out (.int .i64 (d + 1)))
          clear hb2 hq2 y0 y1 y2 y3
          go_upto_region 8 with fail
          clear z0 z1 z2 z3 z4
          generalize w2.setCell ⟨BI, 1, none⟩ (.int .i64 (d + 1)) = w3 at *
          have y0 := (blk_cell (i := 0) HQ3.out rfl).1
          have y1 := (blk_cell (i := 1) HQ3.out rfl).1
          have y2 := (blk_cell (i := 2) HQ3.out rfl).1
          have y3 := heap_lt HQ3.out
          have ho := HO3.out.own
          rw [← HN1.out] at ho
          have HOW := Lib.hid ho
          have HBZ := Lib.hid HW3.out.size
          clear ho
          go_wp2_with (at_builtin; refine wpList_append_lies _ rfl (.tmp 34) (.tmp 36) 54 rfl w.heap.size 53 i1 (.agg #[.int .i64 0, .int .i64 0, .int .i64 0]) 3 24 Tryd.underlying54 hi1 hy0 hy1 hy2 rfl (by decide) (.slice a1 n1 c1) n1 (itsV (overP (mkP M F) (l.take k) t)) rfl (HOW.out.alloc _) ⟨w3.heap.size, 0, none⟩ 1 1 [.int .i64 p, .int .i64 (d + 1), .int .i64 aa] rfl rfl (World.news_of_block (cs := #[.int .i64 p, .int .i64 (d + 1), .int .i64 aa]) (t := 53) (fr := (0, 0)) (heap_alloc_new w3 _)) (by simp [Value.oneCell']) (by decide) (by unfold maxLen; omega) (by omega) (by have := HBZ.out; simp; omega) (w3.heap.size + 1) (by simp) ?_; intro g5 cap5 w5 hown5 hgrow5 hat5 hlt5)
          have HO5 := Lib.hid (show OwnI w5 w.heap.size (some ⟨g5, 0, none⟩) cap5 (overP (mkP M F) (l.take (k + 1)) t) from ⟨by rw [HO2.out, its_app, List.length_append, List.length_singleton, ← HN1.out]; exact hown5⟩)
          have HN5 := Lib.hid (show n1 + 1 = (overP (mkP M F) (l.take (k + 1)) t).length by rw [HO2.out, List.length_append, List.length_singleton, HN1.out])
          have HW5 := Lib.hid (((HW3.out.alloc HW3.out.size _).grown hgrow5 (by have := HBZ.out; simp; omega) fun q hq => (own_block HOW.out (g := q) hq).1 : Below w.heap.size w w5))
          clear hown5 hgrow5 hat5
          go_roundw
          case rel => exact ⟨k + 1, by omega, by go_num, _, _, _, rfl, HN5, HO5, HW5⟩
          case measure => simp [intOf]; omega
        · have HO2 := Lib.hid (show overP (mkP M F) (l.take (k + 1)) s = overP (mkP M F) (l.take k) s by rw [HOS.out]; simp [hts])
          have e1 : (t == s) = false := by simp [hts]
          clear hts
          go_wp2_with (go_at_call 78; (with_reducible refine HIA.out.mono ?_); rintro e w2 ⟨rfl, hb2⟩)
          have HW2 := Lib.hid (HAW.out.trans (hb2.mono HAW.out.size))
          have HOB := Lib.hid (HOA.out.below hb2)
          clear hb2
          go_roundw
          case rel => exact ⟨k + 1, by omega, by go_num, a1, c1, n1, rfl, Lib.hid (by rw [HO2.out]; exact HN1.out), Lib.hid (by rw [HO2.out]; exact HOB.out), HW2⟩
          case measure => simp [intOf]; omega
    · have hkl : k = l.length := by omega
      have hge : ¬ (k : Int) < l.length := by omega
      have e : l.take k = l := by rw [hkl, List.take_length]
      rw [e] at HN1 HO1
      have hov := overP_le (mkP M F) l s
      have HCL := Lib.hid (iclose_any BM BT bt M F a1 c1 (overP (mkP M F) l s) w1 (HM.out.below HW1.out) (HTT.out.below HW1.out) HO1.out.its (by omega))
      unfold CloseTo at HCL
      rw [← HN1.out] at HCL
      clear hkl e hov
      go_wp2_with (go_at_call 77; (with_reducible refine HCL.out.mono ?_); rintro e w2 ⟨L, a2, c2, rfl, h1, h2, h3, h4⟩)
      go_ret
      exact ⟨L, a2, c2, rfl, h1, h2, h3.base HW1.out.size, HW1.out.trans (h4.mono HW1.out.size)⟩
set_option maxRecDepth 100000 in
set_option maxHeartbeats 8000000 in
theorem ibegin_any (BM BT bt : Nat) (M : MakR) (F : List Nat) (w : World) (hm : MakT w BM M BT bt F) (HT : Sl.Tab w) :
    Calls Tryd.prog 38 #[.pointer (some ⟨BM, 0, none⟩)] w (CloseTo (mkP M F) [ownI] w) := by
  have hA : Below w.heap.size w (w.alloc (.cells #[.int .i64 (-1), .int .i64 0, .int .i64 0] 53)) := (Below.refl _ _).alloc (Nat.le_refl _) _
  have HA := Lib.hid hA
  have HCL := Lib.hid (show Calls Tryd.prog 77 #[.pointer (some ⟨BM, 0, none⟩), .slice (some ⟨w.heap.size, 0, none⟩) 1 1] (w.alloc (.cells #[.int .i64 (-1), .int .i64 0, .int .i64 0] 53)) (CloseTo (mkP M F) [ownI] (w.alloc (.cells #[.int .i64 (-1), .int .i64 0, .int .i64 0] 53))) from iclose_any BM BT bt M F (some ⟨w.heap.size, 0, none⟩) 1 [ownI] _ (hm.below hA) (HT.below hA) (cells_new w #[.int .i64 (-1), .int .i64 0, .int .i64 0] 53) (by simp))
  unfold CloseTo at HCL
  clear hm HT hA
  go_enter Tryd.func38, Tryd.ntmps38
  go_wp2_with (go_at_call 77; (with_reducible refine HCL.out.mono ?_); rintro e w2 ⟨L, a2, c2, rfl, h1, h2, h3, h4⟩)
  go_ret
  exact ⟨L, a2, c2, rfl, h1, h2, h3.base HA.out.size, HA.out.trans (h4.mono HA.out.size)⟩
end Go.Proofs.YtejjdfmobiegdaaDoor

set_option linter.unusedVariables false
namespace Go.Proofs.YtejjdfmobiegdaaDoor
open Go.RowKit
open Doc

theorem it_eq (x y : It) : (x.1 == y.1 && (x.2.1 == y.2.1 && x.2.2 == y.2.2)) = decide (x = y) := by
  rw [Bool.eq_iff_iff, decide_eq_true_iff]
  simp only [Bool.and_eq_true, beq_iff_eq]
  constructor
  · rintro ⟨h1, h2, h3⟩
    exact Prod.ext h1 (Prod.ext h2 h3)
  · rintro rfl
    exact ⟨rfl, rfl, rfl⟩
theorem ieq_in (p d a q e b : Int) (W : World) : (Op.equalIn 10000 53 (.agg #[.int .i64 p, .int .i64 d, .int .i64 a]) (.agg #[.int .i64 q, .int .i64 e, .int .i64 b])).run Tryd.prog W = .ok (decide ((p, d, a) = (q, e, b))) W := by
  rw [← it_eq (p, d, a) (q, e, b)]
  simp only
  generalize h1 : (p == q) = r1
  generalize h2 : (d == e) = r2
  generalize h3 : (a == b) = r3
  simp [go_sem, h1, h2, h3]
  cases r1 <;> cases r2 <;> cases r3 <;> simp
theorem ineq_run (x y : It) (W : World) : (binOp .neq 53 (.agg #[.int .i64 x.1, .int .i64 x.2.1, .int .i64 x.2.2]) (.agg #[.int .i64 y.1, .int .i64 y.2.1, .int .i64 y.2.2])).run Tryd.prog W = .ok (.bool (!decide (x = y))) W := by
  rw [run_neq_struct, ieq_in]; rfl
theorem ieql_run (x y : It) (W : World) : (binOp .eql 53 (.agg #[.int .i64 x.1, .int .i64 x.2.1, .int .i64 x.2.2]) (.agg #[.int .i64 y.1, .int .i64 y.2.1, .int .i64 y.2.2])).run Tryd.prog W = .ok (.bool (decide (x = y))) W := by
  rw [run_eql_struct, ieq_in]; rfl
set_option maxHeartbeats 4000000 in
theorem iequal_any (a b : Option Addr) (ca cb : Nat) (x y : List It) (w : World) (hx : ItsAt w a x) (hy : ItsAt w b y) (hxl : x.length ≤ 1000000) (hyl : y.length ≤ 1000000) :
    Calls Tryd.prog 76 #[.slice a x.length ca, .slice b y.length cb] w fun e w' => e = .returned (.bool (decide (x = y))) ∧ ∃ n, w' = w.drewN n := by
  have HX := Lib.hid hx
  have HY := Lib.hid hy
  clear hx hy
  by_cases hl : x.length = y.length
  · have hlb : ((x.length : Int) != (y.length : Int)) = false := by simp [hl]
    go_enter Tryd.func76, Tryd.ntmps76
    go_wp2
    go_loopw [13] (fun i wr => ∃ k n : Nat, k ≤ x.length ∧ i = .int .i64 k ∧ wr = w.drewN n ∧ Hid (∀ j, j < k → x[j]? = y[j]?)) (fun i _ => x.length - (intOf i).toNat)
    case atStart => exact ⟨0, 0, Nat.zero_le _, rfl, rfl, Lib.hid (by intro j hj; omega)⟩
    case round =>
      obtain ⟨k, n, hk, rfl, rfl, HB⟩ := hrel
      by_cases hlt : k < x.length
      · obtain ⟨u, hu⟩ : ∃ u, x[k]? = some u := ⟨_, List.getElem?_eq_getElem hlt⟩
        obtain ⟨v, hv⟩ : ∃ v, y[k]? = some v := ⟨_, List.getElem?_eq_getElem (by omega)⟩
        obtain ⟨b1, o1, rfl⟩ := HX.out.some (by intro e; rw [e] at hlt; simp at hlt)
        obtain ⟨b2, o2, rfl⟩ := HY.out.some (by intro e; rw [e] at hv; simp at hv)
        obtain ⟨c0, c1, c2, c3⟩ := HX.out.cell hu
        obtain ⟨d0, d1, d2, d3⟩ := HY.out.cell hv
        have e1 : (k : Int) < x.length := by omega
        have e2 : (k : Int) < y.length := by omega
        have hne := ineq_run u v
        have hie := fun W => ieq_in u.1 u.2.1 u.2.2 v.1 v.2.1 v.2.2 W
        by_cases huv : u = v
        · subst huv
          have HB2 : Hid (∀ j, j < k + 1 → x[j]? = y[j]?) := Lib.hid fun j hj => by
            by_cases hjk : j = k
            · subst hjk; rw [hu, hv]
            · exact HB.out j (by omega)
          rw [decide_eq_true (rfl : u = u)] at hne
          simp only [decide_true] at hie
          clear hu hv
          obtain ⟨p, d, aa⟩ := u
          simp only at *
          go_wp2
          go_region
          go_wp2
          go_roundw
          case rel => exact ⟨k + 1, n + 1, by omega, by go_num, by simp, HB2⟩
          case measure => simp [intOf]; omega
        · have hres : decide (x = y) = false := by
            rw [decide_eq_false_iff_not]
            rintro rfl
            rw [hu] at hv
            exact huv (Option.some.inj hv)
          have HR := Lib.hid hres
          rw [decide_eq_false huv] at hne
          have hie2 : ∀ W, (Op.equalIn 10000 53 (.agg #[.int .i64 u.1, .int .i64 u.2.1, .int .i64 u.2.2]) (.agg #[.int .i64 v.1, .int .i64 v.2.1, .int .i64 v.2.2])).run Tryd.prog W = .ok false W := fun W => by rw [hie W, decide_eq_false (by exact huv)]
          clear hres hu hv hie huv
          obtain ⟨p, d, aa⟩ := u
          obtain ⟨q, e, bb⟩ := v
          simp only at *
          go_wp2
          go_region
          go_wp2
          go_ret
          exact ⟨ret_bool HR.out.symm, n + 1, by simp⟩
      · have hres : decide (x = y) = true := by
          rw [decide_eq_true_iff]
          apply List.ext_getElem?
          intro j
          by_cases hj : j < k
          · exact HB.out j hj
          · rw [List.getElem?_eq_none (by omega), List.getElem?_eq_none (by omega)]
        have HR := Lib.hid hres
        have e1 : ¬ (k : Int) < x.length := by omega
        clear hres
        go_wp2
        go_ret
        exact ⟨ret_bool HR.out.symm, n, rfl⟩
  · have hlb : ((x.length : Int) != (y.length : Int)) = true := by simp; omega
    have hres : decide (x = y) = false := by
      rw [decide_eq_false_iff_not]
      rintro rfl
      exact hl rfl
    have HR := Lib.hid hres
    clear hres
    go_enter Tryd.func76, Tryd.ntmps76
    go_wp2
    go_ret
    exact ⟨ret_bool HR.out.symm, 0, rfl⟩
theorem isame_any (a b : Option Addr) (ca cb : Nat) (x y : List It) (w : World) (hx : ItsAt w a x) (hy : ItsAt w b y) (hxl : x.length ≤ 1000000) (hyl : y.length ≤ 1000000) :
    Calls Tryd.prog 37 #[.slice a x.length ca, .slice b y.length cb] w fun e w' => e = .returned (.bool (decide (x = y))) ∧ ∃ n, w' = w.drewN n := by
  have HE := Lib.hid (iequal_any a b ca cb x y w hx hy hxl hyl)
  clear hx hy
  go_enter Tryd.func37, Tryd.ntmps37
  go_wp2_with (go_at_call 76; (with_reducible refine HE.out.mono ?_); rintro e w2 ⟨rfl, n, rfl⟩)
  go_ret
  exact ⟨rfl, n, rfl⟩
end Go.Proofs.YtejjdfmobiegdaaDoor
