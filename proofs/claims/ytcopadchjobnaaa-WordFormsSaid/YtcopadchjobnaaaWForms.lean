/- WordForms: walked. -/
import Derived.Test.YtcopadchjobnaaaWake7
import Derived.Test.YtcopadchjobnaaaWordC
import Derived.Test.YtcopadchjobnaaaRFormF
import Derived.Deep.RegionHeld3
import Derived.Deep.Cut
set_option linter.unusedVariables false
namespace Go.Proofs.Ytcopadchjobnaaa
open Go.RowKit
open Doc

def wf0 : Gr := ⟨[[99], [98], [97]], [[83], [84], [85], [86], [87]], [(100, [101, 101]), (100, [1]), (101, [2, 102]), (101, [3, 102]), (102, [3]), (102, [2]), (102, []), (103, [103, 3]), (104, [101, 101])]⟩
theorem wf0_parse : parse [83, 58, 32, 84, 32, 84, 32, 124, 32, 99, 10, 84, 58, 32, 98, 32, 85, 32, 124, 32, 97, 32, 85, 10, 85, 58, 32, 97, 32, 124, 32, 98, 32, 124, 10, 86, 58, 32, 86, 32, 97, 10, 87, 58, 32, 84, 32, 84, 10] = .ok wf0 := by decide +kernel
def wfK (k : Nat) : Gr := ⟨wf0.terms, wf0.nons, swapL wf0.prods k⟩
theorem wfK_ok (k : Nat) (hk : k < 9) : CheckG (wfK k) ∧ Wd.leastF (wfK k) = [some [1], some [2], some [], none, some [2, 2]] := by
  rcases (show k = 0 ∨ k = 1 ∨ k = 2 ∨ k = 3 ∨ k = 4 ∨ k = 5 ∨ k = 6 ∨ k = 7 ∨ k = 8 by omega) with rfl | rfl | rfl | rfl | rfl | rfl | rfl | rfl | rfl
  all_goals exact ⟨(chk_iff _).1 (by decide +kernel), by decide +kernel⟩
theorem words_of : ∀ {ls : List WL} {K : Wd.Kn}, kn ls = K → (∀ p ∈ ls, p.known = false → p.word = []) → ls.map (·.word) = K.map (·.getD [])
  | [], K, h, _ => by rw [← h]; rfl
  | p :: ls, K, h, hz => by
    rw [← h]
    have ih := words_of (ls := ls) rfl fun q hq => hz q (List.mem_cons_of_mem _ hq)
    show p.word :: ls.map (·.word) = p.opt.getD [] :: (kn ls).map (·.getD [])
    rw [ih]
    congr 1
    unfold WL.opt
    cases hk : p.known with
    | true => simp
    | false => simp; exact hz p List.mem_cons_self hk
theorem five_of {ls : List WL} {x0 x1 x2 x3 x4 : List Int} (h : ls.map (·.word) = [x0, x1, x2, x3, x4]) : ∃ p0 p1 p2 p3 p4 : WL, ls = [p0, p1, p2, p3, p4] ∧ p0.word = x0 ∧ p1.word = x1 ∧ p2.word = x2 ∧ p3.word = x3 ∧ p4.word = x4 := by
  match ls, h with
  | [], h => simp at h
  | [_], h => simp at h
  | [_, _], h => simp at h
  | [_, _, _], h => simp at h
  | [_, _, _, _], h => simp at h
  | [p0, p1, p2, p3, p4], h =>
    simp only [List.map_cons, List.map_nil, List.cons.injEq, and_true] at h
    exact ⟨p0, p1, p2, p3, p4, rfl, h.1, h.2.1, h.2.2.1, h.2.2.2.1, h.2.2.2.2⟩
  | _ :: _ :: _ :: _ :: _ :: _ :: _, h => simp at h
theorem swap4' {w : World} {F pb cp : Nat} {ls : List Lay} (h : w.ownsRow F 79 2 (.slice (some ⟨pb, 0, none⟩) ls.length cp) ls.length (lays ls)) (p q : Lay) (k : Nat) :
    ((((w.setCell ⟨pb, 0, none⟩ (.int .i64 q.left)).setCell ⟨pb, 1, none⟩ (.slice q.addr q.right.length q.cap)).setCell ⟨pb, k * 2, none⟩ (.int .i64 p.left)).setCell ⟨pb, k * 2 + 1, none⟩ (.slice p.addr p.right.length p.cap)).ownsRow F 79 2 (.slice (some ⟨pb, 0, none⟩) ls.length cp) ls.length (lays ((ls.set 0 q).set k p)) ∧
    w.grownBy ((((w.setCell ⟨pb, 0, none⟩ (.int .i64 q.left)).setCell ⟨pb, 1, none⟩ (.slice q.addr q.right.length q.cap)).setCell ⟨pb, k * 2, none⟩ (.int .i64 p.left)).setCell ⟨pb, k * 2 + 1, none⟩ (.slice p.addr p.right.length p.cap)) (some pb) := by
  have h1 := h.stored 0 (.int .i64 q.left)
  have h2 := h1.1.stored 1 (.slice q.addr q.right.length q.cap)
  have h3 := h2.1.stored (k * 2) (.int .i64 p.left)
  have h4 := h3.1.stored (k * 2 + 1) (.slice p.addr p.right.length p.cap)
  refine ⟨?_, gb_trans (gb_trans (gb_trans h1.2 h2.2 fun x hx => .inl hx) h3.2 fun x hx => .inl hx) h4.2 fun x hx => .inl hx⟩
  have e := h4.1
  rw [lays_set, lays_set]
  exact e
theorem swap_map' {ls : List Lay} {k : Nat} {p q : Lay} (h0 : ls[0]? = some p) (hk : ls[k]? = some q) : ((ls.set 0 q).set k p).map Lay.plain = swapL (ls.map Lay.plain) k := by
  unfold swapL
  rw [List.getElem?_map, List.getElem?_map, h0, hk]
  simp only [Option.map_some]
  rw [List.map_set, List.map_set]

theorem cells_blk {w : World} {b : Nat} {cs : Array Value} {T : TypeId} (h : w.heap[b]? = some (.cells cs T)) : Cells w (some ⟨b, 0, none⟩) cs.toList := .inr ⟨b, 0, rfl, heap_lt h, fun j u hj => by
  rw [Nat.zero_add]; exact (blk_cell h (by simpa using hj)).1⟩
theorem less_lit1 (W : World) (H : Nat) (hH : W.heap.size = H) : Calls Try.prog 61 #[.slice none 0 0, .slice (some ⟨H, 0, none⟩) 1 1] (W.alloc (.cells #[.int .i64 1] 3)) fun e w' => e = .returned (.bool true) ∧ w' = W.alloc (.cells #[.int .i64 1] 3) := by
  subst hH
  exact (wless_any none (some ⟨W.heap.size, 0, none⟩) 0 1 [] [1] _ (.inl rfl) (cells_new W _ _) (by decide) (by decide)).mono fun e w' ⟨he, hw⟩ => ⟨he, hw⟩
theorem less_lit0 (W : World) : Calls Try.prog 61 #[.slice none 0 0, .slice none 0 0] W fun e w' => e = .returned (.bool false) ∧ w' = W :=
  (wless_any none none 0 0 [] [] W (.inl rfl) (.inl rfl) (by decide) (by decide)).mono fun e w' ⟨he, hw⟩ => ⟨he, hw⟩
theorem less_lit2 (W : World) (H : Nat) (hH : W.heap.size = H) (x y : List Int) (b : Bool) (hb : Wd.lessI x y = b ∧ x.length ≤ 100 ∧ y.length ≤ 100) : Calls Try.prog 61 #[.slice (some ⟨H, 0, none⟩) x.length x.length, .slice (some ⟨H + 1, 0, none⟩) y.length y.length] ((W.alloc (.cells (nums x).toArray 3)).alloc (.cells (nums y).toArray 3)) fun e w' => e = .returned (.bool b) ∧ w' = (W.alloc (.cells (nums x).toArray 3)).alloc (.cells (nums y).toArray 3) := by
  subst hH
  have h1 := cells_new W (nums x).toArray 3
  have h2 := cells_new2 W (.cells (nums x).toArray 3) (nums y).toArray 3
  exact (wless_any _ _ x.length y.length x y _ ((by simpa using h1 : Cells (W.alloc (.cells (nums x).toArray 3)) _ (nums x)).below ((Below.refl _ _).alloc (Nat.le_refl _) _)) (by simpa using h2) (by omega) (by omega)).mono fun e w' ⟨he, hw⟩ => ⟨he.trans (by rw [hb.1]), hw⟩
theorem less_L3 (W : World) (H : Nat) (hH : W.heap.size = H) : Calls Try.prog 61 #[.slice (some ⟨H, 0, none⟩) 1 1, .slice (some ⟨H + 1, 0, none⟩) 2 2] ((W.alloc (.cells #[.int .i64 9] 3)).alloc (.cells #[.int .i64 1, .int .i64 1] 3)) fun e w' => e = .returned (.bool true) ∧ w' = (W.alloc (.cells #[.int .i64 9] 3)).alloc (.cells #[.int .i64 1, .int .i64 1] 3) := less_lit2 W H hH [9] [1, 1] true (by decide)
theorem less_L4 (W : World) (H : Nat) (hH : W.heap.size = H) : Calls Try.prog 61 #[.slice (some ⟨H, 0, none⟩) 2 2, .slice (some ⟨H + 1, 0, none⟩) 2 2] ((W.alloc (.cells #[.int .i64 1, .int .i64 2] 3)).alloc (.cells #[.int .i64 1, .int .i64 3] 3)) fun e w' => e = .returned (.bool true) ∧ w' = (W.alloc (.cells #[.int .i64 1, .int .i64 2] 3)).alloc (.cells #[.int .i64 1, .int .i64 3] 3) := less_lit2 W H hH [1, 2] [1, 3] true (by decide)
theorem four4 (w : World) (o0 o1 o2 o3 : Obj) : Below w.heap.size w ((((w.alloc o0).alloc o1).alloc o2).alloc o3) ∧ ((((w.alloc o0).alloc o1).alloc o2).alloc o3).heap[w.heap.size]? = some o0 ∧ ((((w.alloc o0).alloc o1).alloc o2).alloc o3).heap[w.heap.size + 1]? = some o1 ∧ ((((w.alloc o0).alloc o1).alloc o2).alloc o3).heap[w.heap.size + 1 + 1]? = some o2 ∧ ((((w.alloc o0).alloc o1).alloc o2).alloc o3).heap[w.heap.size + 1 + 1 + 1]? = some o3 := by
  have z1 : (w.alloc o0).heap.size = w.heap.size + 1 := by simp
  have z2 : ((w.alloc o0).alloc o1).heap.size = w.heap.size + 1 + 1 := by simp
  have z3 : (((w.alloc o0).alloc o1).alloc o2).heap.size = w.heap.size + 1 + 1 + 1 := by simp
  refine ⟨((((Below.refl _ _).alloc (Nat.le_refl _) _).alloc (by omega) _).alloc (by omega) _).alloc (by omega) _, ?_, ?_, ?_, ?_⟩
  · rw [Below.heap_alloc _ _ _ (by omega), Below.heap_alloc _ _ _ (by omega), Below.heap_alloc _ _ _ (by omega), heap_alloc_new]
  · rw [Below.heap_alloc _ _ _ (by omega), Below.heap_alloc _ _ _ (by omega), ← z1, heap_alloc_new]
  · rw [Below.heap_alloc _ _ _ (by omega), ← z2, heap_alloc_new]
  · rw [← z3, heap_alloc_new]

set_option maxRecDepth 100000 in
set_option maxHeartbeats 1000000 in
theorem wordForms_walk (turn : Int) (w : World) : Calls Try.prog 9 #[.int .i64 turn] w fun e w' => e = .returned (.bool true) ∧ Below w.heap.size w w' := by
  have HP := Lib.hid ((rparse_own ⟨#[83, 58, 32, 84, 32, 84, 32, 124, 32, 99, 10, 84, 58, 32, 98, 32, 85, 32, 124, 32, 97, 32, 85, 10, 85, 58, 32, 97, 32, 124, 32, 98, 32, 124, 10, 86, 58, 32, 86, 32, 97, 10, 87, 58, 32, 84, 32, 84, 10]⟩ w (by decide)).mono fun e w' ⟨hb, he⟩ => (⟨hb, by unfold ParseEndR at he; rw [wf0_parse] at he; exact he⟩ : Below w.heap.size w w' ∧ ∃ (F : Nat) (ts ns : List (List UInt8)) (ls : List Lay) (at_ an ap : Option Addr) (ct cn cp : Nat), e = Ending.returned (.tuple #[.agg #[.slice at_ ts.length ct, .slice an ns.length cn, .slice ap ls.length cp], .int .i64 0, .int .i64 0, .int .i64 0]) ∧ w.heap.size ≤ F ∧ Rws F w' ts ns ls at_ an ap ct cn cp ∧ (⟨ts, ns, ls.map Lay.plain⟩ : Gr) = wf0))
  obtain ⟨k, hk, hk9⟩ : ∃ k : Nat, turn % 9 = k ∧ k < 9 := ⟨(turn % 9).toNat, by omega, by omega⟩
  have HW := Lib.hid fun W => (within_any turn 9 (by omega) (by omega) W).mono fun e w' ⟨he, hw⟩ => (⟨he.trans (by rw [hk]), hw⟩ : e = Ending.returned (.int .i64 k) ∧ w' = W)
  clear hk
  go_enter Try.func9, Try.ntmps9
  go_upto_region 2 with (go_at_call 58; refine HP.out.mono ?_; rintro e w1 ⟨hb1, F, ts, ns, ls, at_, an, ap, ct, cn, cp, rfl, hF, hr, hgr⟩)
  have hts : ts.length = 3 := by have := congrArg Gr.terms hgr; simp only at this; rw [this]; rfl
  have hns : ns.length = 5 := by have := congrArg Gr.nons hgr; simp only at this; rw [this]; rfl
  have hlp : ls.map Lay.plain = wf0.prods := congrArg Gr.prods hgr
  have hls : ls.length = 9 := by have := congrArg List.length hlp; rw [List.length_map] at this; rw [this]; rfl
  have htsG : ts = wf0.terms := congrArg Gr.terms hgr
  have hnsG : ns = wf0.nons := congrArg Gr.nons hgr
  obtain ⟨pb, cpp, hpv, hpF, hpl⟩ := hr.p.form (by omega)
  simp only [Value.slice.injEq] at hpv
  obtain ⟨rfl, _, rfl⟩ := hpv
  have hbA := box_below w1 (.cells #[.slice at_ ts.length ct, .slice an ns.length cn, .slice (some ⟨pb, 0, none⟩) ls.length cp] 28)
  have qA := heap_alloc_new w1 (.cells #[.slice at_ ts.length ct, .slice an ns.length cn, .slice (some ⟨pb, 0, none⟩) ls.length cp] 28)
  have hrA := hr.below hbA
  have HBW := Lib.hid (hb1.trans (hbA.mono hb1.size))
  rw [hts, hns, hls] at qA
  rw [hts, hns, hls] at hrA HBW
  rw [hts, hns, hls]
  have hPB : pb < (w1.alloc (.cells #[.slice at_ 3 ct, .slice an 5 cn, .slice (some ⟨pb, 0, none⟩) 9 cp] 28)).heap.size := by simp; omega
  have hpB : pb ≠ w1.heap.size := by omega
  have hwp : w.heap.size ≤ pb := by omega
  have lA := heap_lt qA
  have HRA := Lib.hid hrA
  have HLP := Lib.hid hlp
  have HLS := Lib.hid hls
  have HTS := Lib.hid htsG
  have HNS := Lib.hid hnsG
  have HQA := Lib.hid qA
  clear hb1 hbA hF hr hgr hts hns hlp hls htsG hnsG hpF hpl hrA qA HP
  generalize hS : w1.alloc (.cells #[.slice at_ 3 ct, .slice an 5 cn, .slice (some ⟨pb, 0, none⟩) 9 cp] 28) = S at *
  clear hS
  generalize w1.heap.size = B at *
  have f0 := (blk_cell (i := 0) (u := .slice at_ 3 ct) HQA.out rfl).1
  have f1 := (blk_cell (i := 1) (u := .slice an 5 cn) HQA.out rfl).1
  have f2 := (blk_cell (i := 2) (u := .slice (some ⟨pb, 0, none⟩) 9 cp) HQA.out rfl).1
  go_upto_region 5 with (go_at_call 22; refine (HW.out _).mono ?_; rintro e w7 ⟨rfl, hw7⟩; obtain rfl := hw7.symm)
  have hP6 := HRA.out.p
  obtain ⟨p0, hp0⟩ : ∃ p, ls[0]? = some p := ⟨_, List.getElem?_eq_getElem (by rw [HLS.out]; omega)⟩
  obtain ⟨pk, hpk⟩ : ∃ p, ls[k]? = some p := ⟨_, List.getElem?_eq_getElem (by rw [HLS.out]; omega)⟩
  have hcell := fun j u (hj : (lays ls)[j]? = some u) => (World.ownsRow.cellAt hP6 j (by rw [← hP6.1]; exact (List.getElem?_eq_some_iff.1 hj).1)).trans hj
  have s0 := hcell _ _ (lays_at ls 0 p0 hp0).1
  have s1 := hcell _ _ (lays_at ls 0 p0 hp0).2
  have s2 := hcell _ _ (lays_at ls k pk hpk).1
  have s3 := hcell _ _ (lays_at ls k pk hpk).2
  have s4 := World.ownsRow.frozenAt hP6
  rw [Nat.zero_mul] at s0 s1
  have e1 : (k : Int) < 9 := by omega
  have HP6 := Lib.hid hP6
  have HP0 := Lib.hid hp0
  have HPK := Lib.hid hpk
  clear hP6 hp0 hpk hcell HW
  obtain ⟨l0, r0, a0, c0⟩ := p0
  obtain ⟨lk, rk, ak, ck⟩ := pk
  simp only at s0 s1 s2 s3
  go_cut [3] from 27 to 42 (fun p wx => p = .pointer (some ⟨B, 0, none⟩) ∧ Hid (wx.ownsRow F 79 2 (.slice (some ⟨pb, 0, none⟩) ls.length cp) ls.length (lays ((ls.set 0 ⟨lk, rk, ak, ck⟩).set k ⟨l0, r0, a0, c0⟩))) ∧ Hid (S.grownBy wx (some pb)))
  case first =>
    have e2 := s4 0
    have e3 := s4 1
    have e4 := s4 (k * 2)
    have e5 := s4 (k * 2 + 1)
    clear s4
    rw [Nat.zero_add] at s1
    by_cases hk0 : k = 0
    · subst hk0
      rw [Nat.zero_mul] at s2 s3 e4 e5
      rw [Nat.zero_add] at s3 e5
      obtain ⟨rfl, rfl, rfl, rfl⟩ : l0 = lk ∧ r0 = rk ∧ a0 = ak ∧ c0 = ck := by
        have := HP0.out.symm.trans HPK.out
        simp only [Option.some.injEq, Lay.mk.injEq] at this
        exact this
      clear s2 s3 e4 e5
      have HSW := Lib.hid (swap4' HP6.out ⟨l0, r0, a0, c0⟩ ⟨l0, r0, a0, c0⟩ 0)
      go_region
      all_goals
        go_wp2_with fail
        go_meet
        case rel => exact ⟨rfl, Lib.hid ⟨HSW.out.1.1, HSW.out.1.2⟩, Lib.hid ⟨HSW.out.2.os, HSW.out.2.tape, HSW.out.2.output, HSW.out.2.size, HSW.out.2.block⟩⟩
    · have n1 : k * 2 ≠ 0 := by omega
      have n2 : k * 2 ≠ 1 := by omega
      have n3 : k * 2 + 1 ≠ 0 := by omega
      have n4 : k * 2 + 1 ≠ 1 := by omega
      have HSW := Lib.hid (swap4' HP6.out ⟨l0, r0, a0, c0⟩ ⟨lk, rk, ak, ck⟩ k)
      go_region
      all_goals
        go_wp2_with fail
        go_meet
        case rel => exact ⟨rfl, Lib.hid ⟨HSW.out.1.1, HSW.out.1.2⟩, Lib.hid ⟨HSW.out.2.os, HSW.out.2.tape, HSW.out.2.output, HSW.out.2.size, HSW.out.2.block⟩⟩
  case rest =>
    obtain ⟨rfl, HOX, HGX⟩ := hcut
    rename World => wx
    have hkeep : ∀ {e size n : Nat} {v : Value} {xs : List Value}, S.ownsRow F e size v n xs → e ≠ 79 → wx.ownsRow F e size v n xs := fun ho he => own_same ho fun g hg hl => HGX.out.block g hl fun e' => own_apart ho HP6.out he hg e'.symm
    have hmem : ∀ q ∈ (ls.set 0 (⟨lk, rk, ak, ck⟩ : Lay)).set k ⟨l0, r0, a0, c0⟩, q ∈ ls := fun q hq => by
      rcases List.mem_or_eq_of_mem_set hq with hq | rfl
      · rcases List.mem_or_eq_of_mem_set hq with hq | rfl
        · exact hq
        · exact List.mem_of_getElem? HPK.out
      · exact List.mem_of_getElem? HP0.out
    have hlen : ((ls.set 0 (⟨lk, rk, ak, ck⟩ : Lay)).set k ⟨l0, r0, a0, c0⟩).length = 9 := by rw [List.length_set, List.length_set, HLS.out]
    have hGK : GramAt wx (.agg #[.slice at_ 3 ct, .slice an 5 cn, .slice (some ⟨pb, 0, none⟩) 9 cp]) (wfK k) := by
      have ht := own_cells (hkeep HRA.out.t (by decide))
      have hn := own_cells (hkeep HRA.out.n (by decide))
      have hpc := own_cells HOX.out
      refine ⟨at_, an, some ⟨pb, 0, none⟩, ct, cn, cp, (ls.set 0 ⟨lk, rk, ak, ck⟩).set k ⟨l0, r0, a0, c0⟩, by rw [hlen]; rfl, ?_, ?_, ?_, hpc.1, fun q hq => (own_cells (hkeep (HRA.out.r q (hmem q hq)) (by decide))).1, ?_, ?_, ?_⟩
      · rw [swap_map' HP0.out HPK.out, HLP.out]; rfl
      · have := ht.1; rw [HTS.out] at this; exact this
      · have := hn.1; rw [HNS.out] at this; exact this
      · have := ht.2; rw [HTS.out] at this; exact this
      · have := hn.2; rw [HNS.out] at this; exact this
      · rw [hlen]; have := hpc.2; rw [HLS.out] at this; exact this
    have hQB : wx.heap[B]? = some (.cells #[.slice at_ 3 ct, .slice an 5 cn, .slice (some ⟨pb, 0, none⟩) 9 cp] 28) := (HGX.out.block B lA (by simp; omega)).trans HQA.out
    have hbx : Below w.heap.size w wx := HBW.out.grown HGX.out HBW.out.size (by intro x hx; simp at hx; omega)
    have HBX := Lib.hid hbx
    have HGK := Lib.hid hGK
    have lB := heap_lt hQB
    have v0 := (blk_cell (i := 0) (u := .slice at_ 3 ct) hQB rfl).1
    have v1 := (blk_cell (i := 1) (u := .slice an 5 cn) hQB rfl).1
    have v2 := (blk_cell (i := 2) (u := .slice (some ⟨pb, 0, none⟩) 9 cp) hQB rfl).1
    have HQB := Lib.hid hQB
    have HLE := Lib.hid (least_any _ (wfK k) wx hGK (wfK_ok k hk9).1)
    rw [(wfK_ok k hk9).2] at HLE
    have HCO := Lib.hid fun W (hW : Below wx.heap.size wx W) => costs_any _ (wfK k) W (HGK.out.below hW) (wfK_ok k hk9).1
    rw [(wfK_ok k hk9).2] at HCO
    have hn5 : (wfK k).nons.length = 5 := rfl
    rw [hn5] at HLE HCO
    clear hkeep hmem hlen hGK hQB hbx HGX HOX HRA HP6 HPK HP0 HLP HLS HTS HNS HQA s0 s1 s2 s3 s4 hPB hpB HBW hk9 f0 f1 f2 e1 hn5
    go_upto_region 7 with (go_at_call 59; refine HLE.out.mono ?_; rintro e w3 ⟨hb3, b, rs, rfl, hkn, hrl, hout, hbb⟩)
    clear v0 v1 v2 HLE
    have hq3 := (hb3.block B lB).trans HQB.out
    have v0 := (blk_cell (i := 0) (u := .slice at_ 3 ct) hq3 rfl).1
    have v1 := (blk_cell (i := 1) (u := .slice an 5 cn) hq3 rfl).1
    have v2 := (blk_cell (i := 2) (u := .slice (some ⟨pb, 0, none⟩) 9 cp) hq3 rfl).1
    have lB3 := heap_lt hq3
    have HB3 := Lib.hid hb3
    have HCO3 := Lib.hid (HCO.out w3 hb3)
    clear HCO hq3 hb3
    go_upto_region 8 with (go_at_call 60; refine HCO3.out.mono ?_; rintro e w4 ⟨hb4, C, rfl, hfat, hCb⟩)
    clear v0 v1 v2 HCO3
    obtain ⟨p0, p1, p2, p3, p4, rfl, hw0, hw1, hw2, hw3, hw4⟩ := five_of (words_of hkn hout.z)
    obtain ⟨x0, k0, m0, d0⟩ := p0
    obtain ⟨x1, k1, m1, d1⟩ := p1
    obtain ⟨x2, k2, m2, d2⟩ := p2
    obtain ⟨x3, k3, m3, d3⟩ := p3
    obtain ⟨x4, k4, m4, d4⟩ := p4
    simp only [Option.getD_some, Option.getD_none] at hw0 hw1 hw2 hw3 hw4
    subst hw0 hw1 hw2 hw3 hw4
    have ho4 := hout.below hb4
    have HBW4 := Lib.hid (HBX.out.trans ((HB3.out.trans (hb4.mono HB3.out.size)).mono HBX.out.size))
    have q5 : w4.heap[C]? = some (.cells #[.float .f64 4607182418800017408, .float .f64 4607182418800017408, .float .f64 0, .float .f64 9218868437227405312, .float .f64 4611686018427387904] 85) := by
      rw [hfat]
      have z0 : Fl.ofNat 0 = 0 := Fl.ofNat_zero
      have z1 : Fl.ofNat 1 = 4607182418800017408 := by decide
      have z2 : Fl.ofNat 2 = 4611686018427387904 := by decide
      simp [flC, flV, Wd.fc, z0, z1, z2, Fl.inf]
    have HQ5 := Lib.hid q5
    have HQ4 := Lib.hid ho4.q
    have R0 := Lib.hid (ho4.r ⟨[1], k0, m0, d0⟩ (by simp))
    have R1 := Lib.hid (ho4.r ⟨[2], k1, m1, d1⟩ (by simp))
    have R2 := Lib.hid (ho4.r ⟨[], k2, m2, d2⟩ (by simp))
    have R3 := Lib.hid (ho4.r ⟨[], k3, m3, d3⟩ (by simp))
    have R4 := Lib.hid (ho4.r ⟨[2, 2], k4, m4, d4⟩ (by simp))
    clear hout ho4 hfat q5 hkn hrl hb4
    go_wp2
    have HFO := Lib.hid (four4 w4 (.cells #[.int .i64 1] 3) (.cells #[.int .i64 2] 3) (.cells #[.int .i64 2, .int .i64 2] 3) (.cells #[.slice (some ⟨w4.heap.size, 0, none⟩) 1 1, .slice (some ⟨w4.heap.size + 1, 0, none⟩) 1 1, .slice none 0 0, .slice none 0 0, .slice (some ⟨w4.heap.size + 1 + 1, 0, none⟩) 2 2] 45))
    generalize (((w4.alloc (.cells #[.int .i64 1] 3)).alloc (.cells #[.int .i64 2] 3)).alloc (.cells #[.int .i64 2, .int .i64 2] 3)).alloc (.cells #[.slice (some ⟨w4.heap.size, 0, none⟩) 1 1, .slice (some ⟨w4.heap.size + 1, 0, none⟩) 1 1, .slice none 0 0, .slice none 0 0, .slice (some ⟨w4.heap.size + 1 + 1, 0, none⟩) 2 2] 45) = W5 at *
    obtain ⟨hb5, n0, n1, n2, n3⟩ := HFO.out
    have HBW5 := Lib.hid (HBW4.out.trans (hb5.mono HBW4.out.size))
    have q4 := (hb5.block _ (heap_lt HQ4.out)).trans HQ4.out
    have q5 := (hb5.block _ (heap_lt HQ5.out)).trans HQ5.out
    have lb5 := heap_lt q4
    have lC5 := heap_lt q5
    have lR5 := heap_lt n3
    have b0 := (blk_cell (i := 0) (u := Value.slice m0 1 d0) q4 rfl).1
    have b1 := (blk_cell (i := 1) (u := Value.slice m1 1 d1) q4 rfl).1
    have b2 := (blk_cell (i := 2) (u := Value.slice m2 0 d2) q4 rfl).1
    have b3 := (blk_cell (i := 3) (u := Value.slice m3 0 d3) q4 rfl).1
    have b4 := (blk_cell (i := 4) (u := Value.slice m4 2 d4) q4 rfl).1
    have g0 := (blk_cell (i := 0) (u := Value.float .f64 4607182418800017408) q5 rfl).1
    have g1 := (blk_cell (i := 1) (u := Value.float .f64 4607182418800017408) q5 rfl).1
    have g2 := (blk_cell (i := 2) (u := Value.float .f64 0) q5 rfl).1
    have g3 := (blk_cell (i := 3) (u := Value.float .f64 9218868437227405312) q5 rfl).1
    have g4 := (blk_cell (i := 4) (u := Value.float .f64 4611686018427387904) q5 rfl).1
    have y0 := (blk_cell (i := 0) (u := Value.slice (some ⟨w4.heap.size, 0, none⟩) 1 1) n3 rfl).1
    have y1 := (blk_cell (i := 1) (u := Value.slice (some ⟨w4.heap.size + 1, 0, none⟩) 1 1) n3 rfl).1
    have y2 := (blk_cell (i := 2) (u := Value.slice none 0 0) n3 rfl).1
    have y3 := (blk_cell (i := 3) (u := Value.slice none 0 0) n3 rfl).1
    have y4 := (blk_cell (i := 4) (u := Value.slice (some ⟨w4.heap.size + 1 + 1, 0, none⟩) 2 2) n3 rfl).1
    have S0 := Lib.hid fun n => keepSame_any m0 (some ⟨w4.heap.size, 0, none⟩) d0 1 [1] [1] (W5.drewN n) ((R0.out.below hb5).below (below_drews (Below.refl _ _) n)) ((cells_blk n0).below (below_drews (Below.refl _ _) n)) (by decide) (by decide)
    have S1 := Lib.hid fun n => keepSame_any m1 (some ⟨w4.heap.size + 1, 0, none⟩) d1 1 [2] [2] (W5.drewN n) ((R1.out.below hb5).below (below_drews (Below.refl _ _) n)) ((cells_blk n1).below (below_drews (Below.refl _ _) n)) (by decide) (by decide)
    have S2 := Lib.hid fun n => keepSame_any m2 none d2 0 [] [] (W5.drewN n) (.inl rfl) (.inl rfl) (by decide) (by decide)
    have S3 := Lib.hid fun n => keepSame_any m3 none d3 0 [] [] (W5.drewN n) (.inl rfl) (.inl rfl) (by decide) (by decide)
    have S4 := Lib.hid fun n => keepSame_any m4 (some ⟨w4.heap.size + 1 + 1, 0, none⟩) d4 2 [2, 2] [2, 2] (W5.drewN n) ((R4.out.below hb5).below (below_drews (Below.refl _ _) n)) ((cells_blk n2).below (below_drews (Below.refl _ _) n)) (by decide) (by decide)
    simp only [decide_true, List.length_cons, List.length_nil, Nat.zero_add, Nat.reduceAdd] at S0 S1 S2 S3 S4
    have hf0 : floatOfInt .f64 0 = 0 := by decide
    have hf1 : floatOfInt .f64 1 = 4607182418800017408 := by decide
    have hf2 : floatOfInt .f64 2 = 4611686018427387904 := by decide
    have ho0 : (FloatKind.f64.format.order 0 0 == some .eq) = true := by decide
    have ho1 : (FloatKind.f64.format.order 4607182418800017408 4607182418800017408 == some .eq) = true := by decide
    have ho2 : (FloatKind.f64.format.order 4611686018427387904 4611686018427387904 == some .eq) = true := by decide
    have ho3 : (FloatKind.f64.format.order 9218868437227405312 9094988921128908188 == some .gt) = true := by decide
    clear n0 n1 n2 n3 HFO q4 q5 HQ4 HQ5 R0 R1 R2 R3 R4 HBW4 hb5
    go_loopw [74] (fun i wr => ∃ j n : Nat, j ≤ 5 ∧ i = .int .i64 j ∧ wr = W5.drewN n) (fun i _ => 5 - (intOf i).toNat)
    case atStart => exact ⟨0, 0, by omega, rfl, rfl⟩
    case round =>
      obtain ⟨j, n, hj, rfl, rfl⟩ := hrel
      rcases (show j = 0 ∨ j = 1 ∨ j = 2 ∨ j = 3 ∨ j = 4 ∨ j = 5 by omega) with rfl | rfl | rfl | rfl | rfl | rfl
      · go_wp2_with (go_at_call 42; refine (S0.out _).mono ?_; rintro e w9 ⟨rfl, n9, rfl⟩)
        exact ⟨⟨1, n + n9, by omega, rfl, by first | rfl | simp⟩, by simp [intOf]⟩
      · go_wp2_with (go_at_call 42; refine (S1.out _).mono ?_; rintro e w9 ⟨rfl, n9, rfl⟩)
        exact ⟨⟨2, n + n9, by omega, rfl, by first | rfl | simp⟩, by simp [intOf]⟩
      · go_wp2_with (go_at_call 42; refine (S2.out _).mono ?_; rintro e w9 ⟨rfl, n9, rfl⟩)
        exact ⟨⟨3, n + n9, by omega, rfl, by first | rfl | simp⟩, by simp [intOf]⟩
      · go_wp2_with (go_at_call 42; refine (S3.out _).mono ?_; rintro e w9 ⟨rfl, n9, rfl⟩)
        exact ⟨⟨4, n + n9, by omega, rfl, by first | rfl | simp⟩, by simp [intOf]⟩
      · go_wp2_with (go_at_call 42; refine (S4.out _).mono ?_; rintro e w9 ⟨rfl, n9, rfl⟩)
        exact ⟨⟨5, n + n9, by omega, rfl, by first | rfl | simp⟩, by simp [intOf]⟩
      · have L1 := Lib.hid fun W H (hH : W.heap.size = H) => less_lit1 W H hH
        have L2 := Lib.hid fun W => less_lit0 W
        have L3 := Lib.hid fun W H (hH : W.heap.size = H) => less_L3 W H hH
        have L4 := Lib.hid fun W H (hH : W.heap.size = H) => less_L4 W H hH
        have HWK := Lib.hid fun W => wakes7_any W
        clear S0 S1 S2 S3 S4
        go_wp2_with (first
          | (go_at_call 61; first
            | (with_reducible refine (L1.out _ _ (by simp)).mono ?_; rintro e w9 ⟨rfl, hw9⟩; obtain rfl := hw9.symm)
            | (with_reducible refine (L2.out _).mono ?_; rintro e w9 ⟨rfl, hw9⟩; obtain rfl := hw9.symm)
            | (with_reducible refine (L3.out _ _ (by simp)).mono ?_; rintro e w9 ⟨rfl, hw9⟩; obtain rfl := hw9.symm)
            | (with_reducible refine (L4.out _ _ (by simp)).mono ?_; rintro e w9 ⟨rfl, hw9⟩; obtain rfl := hw9.symm))
          | (go_at_call 62; refine (HWK.out _).mono ?_; rintro e w9 ⟨rfl, hb9⟩))
        go_ret
        refine ⟨rfl, ?_⟩
        have hz := HBW5.out.size
        have hx := (((((below_drews HBW5.out n).alloc (by simpa using hz) (.cells #[.int .i64 1] 3)).alloc (by simp; omega) (.cells #[.int .i64 9] 3)).alloc (by simp; omega) (.cells #[.int .i64 1, .int .i64 1] 3)).alloc (by simp; omega) (.cells #[.int .i64 1, .int .i64 2] 3)).alloc (by simp; omega) (.cells #[.int .i64 1, .int .i64 3] 3)
        exact hx.trans (hb9.mono hx.size)

end Go.Proofs.Ytcopadchjobnaaa
