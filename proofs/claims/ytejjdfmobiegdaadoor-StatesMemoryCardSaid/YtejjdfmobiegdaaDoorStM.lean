/- states: the machine in memory; symbols, find, add: walked. -/
import Derived.Test.YtejjdfmobiegdaaDoorStA
import Derived.Deep.RegionHeld3
set_option linter.unusedVariables false
namespace Go.Proofs.YtejjdfmobiegdaaDoor
open Go.RowKit
open Doc

/-- Where a grammar's rows are. -/
structure GrL where
  a1 : Option Addr
  a2 : Option Addr
  a3 : Option Addr
  c1 : Nat
  c2 : Nat
  c3 : Nat
  ls : List Lay
structure MacAt (w : World) (B base : Nat) (g : Gr) (G : GrL) (sa : Option Addr) (sc : Nat) (ss : List StL) : Prop where
  q : w.heap[B]? = some (.cells #[.slice G.a1 g.terms.length G.c1, .slice G.a2 g.nons.length G.c2, .slice G.a3 g.prods.length G.c3, .slice sa ss.length sc] 111)
  lo : base ≤ B
  gr : GrO w base G.a1 G.a2 G.a3 G.c1 G.c2 G.c3 g G.ls
  all : MsAt w base sa sc ss
theorem MacAt.below {w w' : World} {B base : Nat} {g : Gr} {G : GrL} {sa : Option Addr} {sc : Nat} {ss : List StL} (h : MacAt w B base g G sa sc ss) (hb : Below w.heap.size w w') : MacAt w' B base g G sa sc ss :=
  ⟨(hb.block _ (heap_lt h.q)).trans h.q, h.lo, h.gr.below hb, h.all.below hb⟩
/-- Blocks, but for rows of these elements, are as they were. -/
def StayM (es : List TypeId) (w w' : World) : Prop := ∀ (k : Nat) (o : Obj), w.heap[k]? = some o → (∀ cs e fr, o = .cells cs e fr → e ∉ es) → w'.heap[k]? = some o
theorem StayM.stays {es : List TypeId} {w w' : World} (h : StayM es w w') : Stays es w w' := fun k cs e fr hk he => h k _ hk fun cs' e' fr' ho => by cases ho; exact he
theorem StayM.trans {es : List TypeId} {a b c : World} (h : StayM es a b) (k : StayM es b c) : StayM es a c := fun i o hi he => k i o (h i o hi he) he
theorem StayM.of_below (es : List TypeId) {w w' : World} (h : Below w.heap.size w w') : StayM es w w' := fun k _ hk _ => (h.block k (heap_lt hk)).trans hk
theorem StayM.grown {es : List TypeId} {w w' : World} {v : Value} {B e size n : Nat} {xs : List Value} (ho : w.ownsRow B e size v n xs) (he : e ∈ es) (hg : w.grownBy w' v.ownBlock) : StayM es w w' := fun k o hk hn => by
  refine (hg.block k (heap_lt hk) fun hkk => ?_).trans hk
  obtain ⟨_, _, cur, hc⟩ := own_block ho hkk.symm
  rw [hk] at hc
  cases hc
  exact hn _ _ _ rfl he
theorem StayM.set {es : List TypeId} {w : World} {b i : Nat} {u : Value} {cs : Array Value} {t : TypeId} {fr : Nat × Nat} (hb : w.heap[b]? = some (.cells cs t fr)) (ht : t ∈ es) : StayM es w (w.setCell ⟨b, i, none⟩ u) := fun k o hk hn => by
  refine (Below.heap_setCell _ _ _ _ ?_).trans hk
  rintro rfl
  rw [hb] at hk
  cases hk
  exact hn _ _ _ rfl ht
theorem map_stay {es : List TypeId} {w w' : World} (h : StayM es w w') {P : Program} {k : TypeId} {κ : Type} {code : κ → Value} {b : Nat} {f : κ → Option Value} (hm : MapM w P k code b f) : MapM w' P k code b f := by
  obtain ⟨es', c, hb, r⟩ := hm
  exact ⟨es', c, h b _ hb (fun cs e fr ho => by cases ho), r⟩
def TM : List TypeId := [111, 117]
/-- One more state. -/
theorem MacAt.push {w w1 : World} {B base : Nat} {g : Gr} {G : GrL} {sa : Option Addr} {sc : Nat} {ss : List StL} (h : MacAt w B base g G sa sc ss) (hg : w.grownBy w1 (Value.slice sa ss.length sc).ownBlock) {sa' : Option Addr} {sc' : Nat} {x : StL}
    (ho : w1.ownsRow base 117 3 (.slice sa' (ss.length + 1) sc') (ss.length + 1) (stV (ss ++ [x]))) (hi : OwnI w base x.ia x.ic x.s.items ∧ x.s.items.length ≤ 11200) (hm : base ≤ x.mb ∧ MapM w Tryd.prog 3 codeI x.mb (mapF x.s)) (hf : ∀ y ∈ ss, y.mb ≠ x.mb) :
    (w1.heap[B]? = some (.cells #[.slice G.a1 g.terms.length G.c1, .slice G.a2 g.nons.length G.c2, .slice G.a3 g.prods.length G.c3, .slice sa ss.length sc] 111)) ∧
    MacAt (w1.setCell ⟨B, 3, none⟩ (.slice sa' (ss.length + 1) sc')) B base g G sa' sc' (ss ++ [x]) ∧ StayM TM w (w1.setCell ⟨B, 3, none⟩ (.slice sa' (ss.length + 1) sc')) := by
  have hs1 : StayM TM w w1 := StayM.grown h.all.own (by simp [TM]) hg
  have hB : ∀ k, (Value.slice sa ss.length sc).ownBlock = some k → k ≠ B := fun k hk e => by
    obtain ⟨_, _, c, hc⟩ := own_block h.all.own hk
    rw [e, h.q] at hc
    injection hc with hc
    injection hc with _ hc _
    exact absurd hc (by decide)
  have hq1 : w1.heap[B]? = some (.cells #[.slice G.a1 g.terms.length G.c1, .slice G.a2 g.nons.length G.c2, .slice G.a3 g.prods.length G.c3, .slice sa ss.length sc] 111) := (hg.block B (heap_lt h.q) fun e => hB B e.symm rfl).trans h.q
  have hs2 : StayM TM w (w1.setCell ⟨B, 3, none⟩ (.slice sa' (ss.length + 1) sc')) := hs1.trans (StayM.set hq1 (by simp [TM]))
  have hst := hs2.stays
  refine ⟨hq1, ⟨?_, h.lo, h.gr.stays hst (by decide) (by decide) (by decide), ?_, fun y hy => ?_, fun y hy => ?_, ?_⟩, hs2⟩
  · rw [heap_set w1 B 3 _ _ _ hq1 (by simp), List.length_append, List.length_singleton]
    rfl
  · rw [List.length_append, List.length_singleton]
    refine own_same ho fun k hk _ => Below.heap_setCell _ _ _ _ fun e => ?_
    have e : k = B := e
    obtain ⟨_, _, c, hc⟩ := own_block ho hk
    rw [e, hq1] at hc
    injection hc with hc
    injection hc with _ hc _
    exact absurd hc (by decide)
  · have hy' : OwnI w base y.ia y.ic y.s.items ∧ y.s.items.length ≤ 11200 := by
      rcases List.mem_append.1 hy with hy | hy
      · exact h.all.its y hy
      · rw [List.mem_singleton.1 hy]; exact hi
    exact ⟨⟨own_stays hst hy'.1.own (by decide)⟩, hy'.2⟩
  · have hy' : base ≤ y.mb ∧ MapM w Tryd.prog 3 codeI y.mb (mapF y.s) := by
      rcases List.mem_append.1 hy with hy | hy
      · exact h.all.map y hy
      · rw [List.mem_singleton.1 hy]; exact hm
    exact ⟨hy'.1, map_stay hs2 hy'.2⟩
  · rw [List.map_append, List.nodup_append]
    refine ⟨h.all.far, by simp, fun a ha b hb => ?_⟩
    obtain ⟨y, hy, rfl⟩ := List.mem_map.1 ha
    simp only [List.map_cons, List.map_nil, List.mem_singleton] at hb
    rw [hb]
    exact hf y hy
theorem stV_app2 (l m : List StL) : stV (l ++ m) = stV l ++ stV m := stV_app l m
theorem wpList_appSt {w : World} {ops : Array Oper} {rest : List Oper} {o : Oper} {a : Act} {Q : Exit → Act → World → Prop} (hgd : o.guard = none) (s x : Operand)
    (ho : o.op = .call { callee := .builtin .append, args := #[s, x], argTypes := #[109, 109] })
    (base : Nat) (va : Option Addr) (vc : Nat) (ks : List StL) (hs : a.eval s = .slice va ks.length vc) (hown : w.ownsRow base 117 3 (.slice va ks.length vc) ks.length (stV ks)) (hb : base ≤ w.heap.size)
    (xa : Option Addr) (l : List StL) (xc : Nat) (hx : a.eval x = .slice xa l.length xc) (hc : Cells w xa (stV l)) (hn : ks.length + l.length ≤ 1000000000)
    (h : ∀ va' vc' w', w'.ownsRow base 117 3 (.slice va' (ks ++ l).length vc') (ks ++ l).length (stV (ks ++ l)) → w.grownBy w' (Value.slice va ks.length vc).ownBlock → wpList Tryd.prog ops Q rest (a.put o.dst (.slice va' (ks ++ l).length vc')) w') : wpList Tryd.prog ops Q (o :: rest) a w := by
  obtain ⟨i0, hi0, hz0, hz1, hz2⟩ := info_of infoSt
  by_cases hl : l = []
  · subst hl
    have hnc := (own_cells hown).2
    refine wpList_nothing hgd s x 109 ho 117 i0 Tryd.underlying109 hi0 va ks.length vc hs hnc xa xc hx ?_
    have := h va vc w (by rw [List.append_nil]; exact hown) ⟨rfl, rfl, rfl, Nat.le_refl _, fun _ _ _ => rfl⟩
    simpa using this
  · have hm1 : 0 < l.length := List.length_pos_iff.2 hl
    obtain ⟨g, off, rfl, hn5⟩ := news_any hc (by intro e; have := stV_len l; rw [e] at this; simp at this; omega)
    refine wpList_append_lies _ hgd s x 109 ho base 117 i0 (.agg #[.slice none 0 0, .int .i64 0, .map none]) 3 40 Tryd.underlying109 hi0 hz0 hz1 hz2 rfl (by decide) _ ks.length (stV ks) hs hown ⟨g, off, none⟩ l.length xc (stV l) hx (stV_len l) hn5 (fun u hu => by
      obtain ⟨z, _, hz⟩ := List.mem_flatMap.1 hu
      simp only [stC, List.mem_cons, List.not_mem_nil, or_false] at hz
      rcases hz with rfl | rfl | rfl <;> rfl) hm1 (by unfold maxLen; omega) (by omega) hb _ rfl ?_
    intro g4 cap4 w4 hown4 hgrow4 _ _
    have := h (some ⟨g4, 0, none⟩) cap4 w4 (by rw [stV_app2, List.length_append]; exact hown4) hgrow4
    rwa [List.length_append] at this

def stVal (x : StL) : Value := .agg #[.slice x.ia x.s.items.length x.ic, .int .i64 x.s.by_, .map (some x.mb)]
set_option maxRecDepth 100000 in
set_option maxHeartbeats 4000000 in
/-- Is it this state? -/
theorem find1_any (x : StL) (ia : Option Addr) (ic : Nat) (items : List It) (sym : Int) (w : World) (BI BS : Nat) (hI : BI < w.heap.size) (hS : BS < w.heap.size) (h0 : w.cell? ⟨BI, 0, none⟩ = some (.slice ia items.length ic)) (h1 : w.cell? ⟨BS, 0, none⟩ = some (.int .i64 sym))
    (hi : ItsAt w ia items) (hx : ItsAt w x.ia x.s.items) (hil : items.length ≤ 1000000) (hxl : x.s.items.length ≤ 1000000) :
    Calls Tryd.prog 114 #[stVal x, .pointer (some ⟨BS, 0, none⟩), .pointer (some ⟨BI, 0, none⟩)] w fun e w' => e = .returned (.bool (hitS items sym x.s)) ∧ Below w.heap.size w w' := by
  have HB := Lib.hid fun o => (((Below.refl w.heap.size w).alloc (Nat.le_refl _) o) : Below w.heap.size w (w.alloc o))
  have HSM := Lib.hid fun (W : World) (hW : Below w.heap.size w W) => isame_any x.ia ia x.ic ic x.s.items items W (Cells.below hx hW) (Cells.below hi hW) hxl hil
  have HD := Lib.hid (show hitS items sym x.s = (x.s.by_ == sym && decide (x.s.items = items)) from rfl)
  obtain ⟨xa, xc, mb, ⟨its, by_, ov⟩⟩ := x
  unfold stVal
  simp only at *
  clear hi hx
  by_cases hs : by_ = sym
  · subst hs
    have hb : (by_ == by_) = true := by simp
    go_enter Tryd.func114, Tryd.ntmps114
    go_wp2_with (first
      | (go_at_call 37; (with_reducible refine (HSM.out _ (HB.out _)).mono ?_); rintro e w2 ⟨rfl, n, rfl⟩)
      | (go_region_with (go_at_call 37; (with_reducible refine (HSM.out _ (by first | exact HB.out _ | exact (HB.out _).drew)).mono ?_); rintro e w2 ⟨rfl, n, rfl⟩)))
    all_goals
      go_ret
      exact ⟨ret_bool (by rw [HD.out]; simp), by first | exact below_drews (HB.out _) _ | exact below_drews (HB.out _).drew _⟩
  · have hb : (by_ == sym) = false := by simpa using hs
    go_enter Tryd.func114, Tryd.ntmps114
    go_wp2
    all_goals
      go_ret
      exact ⟨ret_bool (by rw [HD.out, hb]; rfl), by first | exact HB.out _ | exact (HB.out _).drew⟩
set_option maxHeartbeats 1000000 in
theorem indexSt_any (c1 c2 : Value) (f : StL → Bool) (a : Option Addr) (cap : Nat) (ls : List StL) (w : World) (h : Cells w a (stV ls)) (hl : ls.length ≤ 1000000)
    (hF : ∀ q ∈ ls, ∀ W, Below w.heap.size w W → Calls Tryd.prog 114 #[stVal q, c1, c2] W fun e w' => e = .returned (.bool (f q)) ∧ Below W.heap.size W w') :
    Calls Tryd.prog 113 #[.slice a ls.length cap, .func (.func 114) #[] #[c1, c2]] w fun e w' => e = .returned (.int .i64 (oint (ls.findIdx? f))) ∧ Below w.heap.size w w' := by
  have HH := Lib.hid h
  have HF := Lib.hid hF
  clear h hF
  go_enter Tryd.func113, Tryd.ntmps113
  go_wp2
  go_loopw [8] (fun i wr => ∃ k : Nat, k ≤ ls.length ∧ i = .int .i64 k ∧ Below w.heap.size w wr ∧ Hid (∀ j q, j < k → ls[j]? = some q → f q = false)) (fun i _ => ls.length - (intOf i).toNat)
  case atStart => exact ⟨0, Nat.zero_le _, rfl, Below.refl _ _, Lib.hid (by intro j q hj; omega)⟩
  case round =>
    obtain ⟨k, hk, rfl, hb, HB⟩ := hrel
    by_cases hlt : k < ls.length
    · obtain ⟨q, hq⟩ : ∃ q, ls[k]? = some q := ⟨_, List.getElem?_eq_getElem hlt⟩
      obtain ⟨b, off, rfl, hbl, hc⟩ := (HH.out.below hb).get (by intro e; have := (st_at hq).1; rw [e] at this; simp at this)
      have c0 := hc _ _ (st_at hq).1
      have c1 := hc _ _ (st_at hq).2.1
      have c2 := hc _ _ (st_at hq).2.2
      rw [← Nat.add_assoc] at c1 c2
      have e1 : (k : Int) < ls.length := by omega
      have HC := Lib.hid (HF.out q (List.mem_of_getElem? hq) wr hb)
      have HQ := Lib.hid hq
      have HW := Lib.hid hb
      unfold stVal at HC
      clear hc hq
      cases hf : f q with
      | true =>
        go_wp2_with (go_at_call 114; refine HC.out.mono ?_; rintro e w2 ⟨rfl, hb2⟩; simp only [hf])
        go_ret
        refine ⟨ret_int ?_, HW.out.trans (hb2.mono HW.out.size)⟩
        rw [findIdx_first HQ.out hf HB.out]; rfl
      | false =>
        go_wp2_with (go_at_call 114; refine HC.out.mono ?_; rintro e w2 ⟨rfl, hb2⟩; simp only [hf])
        refine ⟨⟨k + 1, by omega, by go_num, HW.out.trans (hb2.mono HW.out.size), Lib.hid fun j q hj hq => ?_⟩, by simp [intOf]; omega⟩
        by_cases hjk : j = k
        · subst hjk; rw [HQ.out] at hq; cases hq; exact hf
        · exact HB.out j q (by omega) hq
    · have e1 : ¬ (k : Int) < ls.length := by omega
      go_wp2
      go_ret
      refine ⟨ret_int ?_, hb⟩
      rw [findIdx_never fun j q hq => HB.out j q (by have := (List.getElem?_eq_some_iff.1 hq).1; omega) hq]; rfl
def plS (ss : List StL) : List StP := ss.map (·.s)
theorem find_toS (ss : List StL) (items : List It) (sym : Int) : oint (ss.findIdx? fun x => hitS items sym x.s) = if toS (plS ss) items sym < (plS ss).length then (toS (plS ss) items sym : Int) else -1 := by
  have e : ss.findIdx? (fun x => hitS items sym x.s) = (plS ss).findIdx? (hitS items sym) := by
    unfold plS; rw [List.findIdx?_map]; rfl
  rw [e]
  unfold toS
  cases h : (plS ss).findIdx? (hitS items sym) with
  | none =>
    have := List.findIdx?_eq_none_iff_findIdx_eq.1 h
    rw [this, if_neg (by omega)]; rfl
  | some k =>
    have := List.findIdx?_eq_some_iff_findIdx_eq.1 h
    rw [this.2, if_pos this.1]; rfl
set_option maxRecDepth 100000 in
set_option maxHeartbeats 4000000 in
theorem mfind_any (B base : Nat) (g : Gr) (G : GrL) (sa : Option Addr) (sc : Nat) (ss : List StL) (ia : Option Addr) (ic : Nat) (items : List It) (sym : Int) (w : World) (h : MacAt w B base g G sa sc ss) (hi : ItsAt w ia items) (hil : items.length ≤ 1000000) (hsl : ss.length ≤ 1000000) :
    Calls Tryd.prog 92 #[.pointer (some ⟨B, 0, none⟩), .slice ia items.length ic, .int .i64 sym] w fun e w' => e = .returned (.int .i64 (if toS (plS ss) items sym < (plS ss).length then (toS (plS ss) items sym : Int) else -1)) ∧ Below w.heap.size w w' := by
  have hA : Below w.heap.size w ((w.alloc (.cells #[.slice ia items.length ic] 54)).alloc (.cells #[.int .i64 sym] 3)) := ((Below.refl _ _).alloc (Nat.le_refl _) _).alloc (by simp) _
  have hA0 : ((w.alloc (.cells #[.slice ia items.length ic] 54)).alloc (.cells #[.int .i64 sym] 3)).heap[w.heap.size]? = some (.cells #[.slice ia items.length ic] 54) := (Below.heap_alloc _ _ _ (by simp)).trans (heap_alloc_new w _)
  have hA1 : ((w.alloc (.cells #[.slice ia items.length ic] 54)).alloc (.cells #[.int .i64 sym] 3)).heap[w.heap.size + 1]? = some (.cells #[.int .i64 sym] 3) := by
    have := heap_alloc_new (w.alloc (.cells #[.slice ia items.length ic] 54)) (.cells #[.int .i64 sym] 3)
    rwa [show (w.alloc (.cells #[.slice ia items.length ic] 54)).heap.size = w.heap.size + 1 by simp] at this
  have hM := h.below hA
  have x0 := (blk_cell (i := 3) hM.q rfl).1
  have x1 := heap_lt hM.q
  have HI := Lib.hid (indexSt_any (.pointer (some ⟨w.heap.size + 1, 0, none⟩)) (.pointer (some ⟨w.heap.size, 0, none⟩)) (fun x => hitS items sym x.s) sa sc ss _ (own_cells hM.all.own).1 hsl fun q hq W hW =>
    find1_any q ia ic items sym W w.heap.size (w.heap.size + 1) (Nat.lt_of_lt_of_le (heap_lt hA0) hW.size) (Nat.lt_of_lt_of_le (heap_lt hA1) hW.size) (blk_cell (i := 0) ((hW.block _ (heap_lt hA0)).trans hA0) rfl).1 (blk_cell (i := 0) ((hW.block _ (heap_lt hA1)).trans hA1) rfl).1 (Cells.below hi (hA.trans (hW.mono hA.size))) ((hM.all.its q hq).1.below hW).its hil (by have := (hM.all.its q hq).2; omega))
  rw [find_toS] at HI
  have HA := Lib.hid hA
  generalize (if toS (plS ss) items sym < (plS ss).length then (toS (plS ss) items sym : Int) else -1) = r at *
  clear h hi hA hA0 hA1 hM
  go_enter Tryd.func92, Tryd.ntmps92
  go_wp2_with (go_at_call 113; (with_reducible refine HI.out.mono ?_); rintro e w2 ⟨rfl, hb2⟩)
  go_ret
  exact ⟨rfl, HA.out.trans (hb2.mono HA.out.size)⟩
def AddTo (B base : Nat) (g : Gr) (G : GrL) (ss : List StL) (ia : Option Addr) (ic : Nat) (items : List It) (sym : Int) (w : World) (e : Ending) (w' : World) : Prop := e = .returned (.int .i64 ss.length) ∧ Below base w w' ∧ Stays TM w w' ∧ ∃ sa sc mb, MacAt w' B base g G sa sc (ss ++ [⟨ia, ic, mb, ⟨items, sym, []⟩⟩])
set_option maxRecDepth 100000 in
set_option maxHeartbeats 4000000 in
theorem madd_any (B base : Nat) (g : Gr) (G : GrL) (sa : Option Addr) (sc : Nat) (ss : List StL) (ia : Option Addr) (ic : Nat) (items : List It) (sym : Int) (w : World) (h : MacAt w B base g G sa sc ss) (hi : OwnI w base ia ic items) (hil : items.length ≤ 11200) (hsl : ss.length ≤ 1000000) :
    Calls Tryd.prog 66 #[.pointer (some ⟨B, 0, none⟩), .slice ia items.length ic, .int .i64 sym] w (AddTo B base g G ss ia ic items sym w) := by
  have hbase : base ≤ w.heap.size := Nat.le_trans h.lo (Nat.le_of_lt (heap_lt h.q))
  have hA : Below w.heap.size w ((w.alloc (.map #[] 0)).alloc (.cells #[.slice ia items.length ic, .int .i64 sym, .map (some w.heap.size)] 117)) := ((Below.refl _ _).alloc (Nat.le_refl _) _).alloc (by simp) _
  have hM := h.below hA
  have hQ1 : ((w.alloc (.map #[] 0)).alloc (.cells #[.slice ia items.length ic, .int .i64 sym, .map (some w.heap.size)] 117)).heap[w.heap.size + 1]? = some (.cells #[.slice ia items.length ic, .int .i64 sym, .map (some w.heap.size)] 117) := by
    have := heap_alloc_new (w.alloc (.map #[] 0)) (.cells #[.slice ia items.length ic, .int .i64 sym, .map (some w.heap.size)] 117)
    rwa [show (w.alloc (.map #[] 0)).heap.size = w.heap.size + 1 by simp] at this
  have hmp : MapM ((w.alloc (.map #[] 0)).alloc (.cells #[.slice ia items.length ic, .int .i64 sym, .map (some w.heap.size)] 117)) Tryd.prog 3 codeI w.heap.size (mapF ⟨items, sym, []⟩) := ((MapM.made w Tryd.prog 3 codeI).congr (fun q => rfl)).alloc _
  have HF := Lib.hid (show ∀ y ∈ ss, y.mb ≠ w.heap.size from fun y hy e => by have := (h.all.map y hy).2.lt; omega)
  have HC := Lib.hid (show Cells ((w.alloc (.map #[] 0)).alloc (.cells #[.slice ia items.length ic, .int .i64 sym, .map (some w.heap.size)] 117)) (some ⟨w.heap.size + 1, 0, none⟩) (stV [⟨ia, ic, w.heap.size, ⟨items, sym, []⟩⟩]) from .inr ⟨_, 0, rfl, heap_lt hQ1, fun j u hu => by
    rw [Nat.zero_add]
    exact (blk_cell hQ1 (by rw [List.getElem?_toArray]; exact hu)).1⟩)
  have HI := Lib.hid (hi.below hA)
  have HM := Lib.hid hM
  have HMP := Lib.hid hmp
  have HA := Lib.hid hA
  have HBS := Lib.hid hbase
  have x0 := (blk_cell (i := 3) h.q rfl).1
  have x1 := heap_lt h.q
  clear h hi hA hM hQ1 hmp
  have hmm := @run_makeMap Tryd.prog
  go_enter Tryd.func66, Tryd.ntmps66
  go_wp2_with (at_builtin; refine wpList_appSt rfl (.tmp 11) (.tmp 16) rfl base sa sc ss rfl HM.out.all.own (Nat.le_trans HBS.out HA.out.size) (some ⟨w.heap.size + 1, 0, none⟩) [⟨ia, ic, w.heap.size, ⟨items, sym, []⟩⟩] 1 rfl HC.out (by simp; omega) ?_; intro va vc w4 ho4 hg4; rw [List.length_append, List.length_singleton] at ho4 ⊢; have hp := HM.out.push hg4 (x := ⟨ia, ic, w.heap.size, ⟨items, sym, []⟩⟩) ho4 ⟨HI.out, hil⟩ ⟨HBS.out, HMP.out⟩ HF.out; have y0 := (blk_cell (i := 3) hp.1 rfl).1; have y1 := (blk_cell (i := 3) hp.1 rfl).2; have y2 := heap_lt hp.1; have HP := Lib.hid hp.2; have HB4 := Lib.hid ((HA.out.mono HBS.out).grown hg4 (Nat.le_trans HBS.out HA.out.size) fun k hk => (own_block HM.out.all.own hk).1); clear hp ho4 hg4 x0 x1)
  go_ret
  exact ⟨rfl, HB4.out.setCell (p := ⟨B, 3, none⟩) HP.out.1.lo _, (Stays.of_below TM HA.out).trans HP.out.2.stays, _, _, _, HP.out.1⟩
end Go.Proofs.YtejjdfmobiegdaaDoor
