/- TreeParses: walked (TreeV, TreeNP, TreeW and the law in one, for the claims' limit of 60 files). -/
import Derived.Test.YtflfmcikfiaoiaaTreeS
import Derived.Test.YtflfmcikfiaoiaaTreeN
import Derived.Test.YtflfmcikfiaoiaaTreeT
import Derived.Test.YtflfmcikfiaoiaaTreeF
import Derived.Test.YtflfmcikfiaoiaaTreeD
import Derived.Test.YtflfmcikfiaoiaaPlay
import Derived.Test.YtflfmcikfiaoiaaTreeO
import Derived.Test.YtflfmcikfiaoiaaTreeE
import Derived.Test.YtflfmcikfiaoiaaPlayG0
import Derived.Test.YtflfmcikfiaoiaaText
import Derived.Deep.QuietTactic
import Derived.BigQuiet
import Derived.Deep.Cut
import Derived.Test.YtflfmcikfiaoiaaRowC
set_option linter.unusedVariables false
namespace Go.Proofs.Ytflfmcikfiaoiaa
open Go.RowKit
open Doc

theorem name_inj {g : Gr} (h : CheckG g) {s s' : Int} (h1 : symB g s = true) (h2 : symB g s' = true) (e : nameG g s = nameG g s') : s = s' := by
  have a := (name_kind h h1).2
  have b := (name_kind h h2).2
  rw [e, b] at a
  exact (congrArg Prod.fst a).symm
theorem name_cut {g : Gr} (h : CheckG g) {s s' : Int} {R R' : List UInt8} (h1 : symB g s = true) (h2 : symB g s' = true) (hR : Cut0 R) (hR' : Cut0 R') (e : nameG g s ++ R = nameG g s' ++ R') : s = s' ∧ R = R' := by
  have a := cut_name (R := R) (kind_signs (name_kind h h1).1) hR
  have b := cut_name (R := R') (kind_signs (name_kind h h2).1) hR'
  rw [e] at a
  exact ⟨name_inj h h1 h2 (a.1.symm.trans b.1), a.2.symm.trans b.2⟩
theorem textK_cons (g : Gr) (t : Tr) (l : List Tr) (R : List UInt8) : textK g (t :: l) ++ 41 :: R = 32 :: (textT g t ++ (textK g l ++ 41 :: R)) := by simp [textK]

theorem text_inj {g : Gr} (h : CheckG g) (t : Tr) : ∀ (u : Tr) (R R' : List UInt8), checkT g t t.sym = true → checkT g u u.sym = true → Cut0 R → Cut0 R' → textT g t ++ R = textT g u ++ R' → t = u ∧ R = R' := by
  induction t using Tr.ind with
  | h s p ks ih =>
    intro u R R' hc hd hR hR' e
    cases u with
    | mk s' p' ks' =>
      obtain ⟨_, hcase⟩ := check_cases hc
      obtain ⟨_, hdase⟩ := check_cases hd
      rcases hcase with ⟨rfl, rfl, hs⟩ | ⟨m, rfl, hq, hks⟩
      · rcases hdase with ⟨rfl, rfl, hs'⟩ | ⟨m', rfl, hq', hks'⟩
        · simp only [textT, if_true] at e
          obtain ⟨e1, e2⟩ := name_cut h hs hs' hR hR' e
          exact ⟨by rw [e1], e2⟩
        · have hm1 : ¬ ((m' : Int) = -1) := by omega
          simp only [textT, if_true, if_neg hm1] at e
          obtain ⟨c, l, e3, hc40⟩ := head_name h hs (R := R)
          rw [e3] at e
          simp only [List.cons_append, List.cons.injEq] at e
          exact absurd e.1 hc40
      · have hm1 : ¬ ((m : Int) = -1) := by omega
        rcases hdase with ⟨rfl, rfl, hs'⟩ | ⟨m', rfl, hq', hks'⟩
        · simp only [textT, if_true, if_neg hm1] at e
          obtain ⟨c, l, e3, hc40⟩ := head_name h hs' (R := R')
          rw [e3] at e
          simp only [List.cons_append, List.cons.injEq] at e
          exact absurd e.1.symm hc40
        · have hm2 : ¬ ((m' : Int) = -1) := by omega
          simp only [textT, if_neg hm1, if_neg hm2] at e
          have e4 : nameG g s ++ (textK g ks ++ 41 :: R) = nameG g s' ++ (textK g ks' ++ 41 :: R') := by simpa using e
          obtain ⟨e5, e6⟩ := name_cut h (left_symB h hq).1 (left_symB h hq').1 (text_cut g) (text_cut g) e4
          have hK : ∀ (l l' : List Tr), (∀ k ∈ l, k ∈ ks) → (∀ k ∈ l', k ∈ ks') → textK g l ++ 41 :: R = textK g l' ++ 41 :: R' → l = l' ∧ R = R' := by
            intro l
            induction l with
            | nil =>
              intro l' _ _ e7
              cases l' with
              | nil => exact ⟨rfl, by simpa [textK] using e7⟩
              | cons t' l' => rw [textK_cons] at e7; simp [textK] at e7
            | cons t l ih2 =>
              intro l' hl hl' e7
              cases l' with
              | nil => rw [textK_cons] at e7; simp [textK] at e7
              | cons t' l' =>
                rw [textK_cons, textK_cons] at e7
                have e8 := (List.cons.inj e7).2
                obtain ⟨e9, e10⟩ := ih t (hl t List.mem_cons_self) t' _ _ (hks t (hl t List.mem_cons_self)) (hks' t' (hl' t' List.mem_cons_self)) (text_cut g) (text_cut g) e8
                obtain ⟨e11, e12⟩ := ih2 l' (fun k hk => hl k (List.mem_cons_of_mem _ hk)) (fun k hk => hl' k (List.mem_cons_of_mem _ hk)) e10
                exact ⟨by rw [e9, e11], e12⟩
          obtain ⟨e13, e14⟩ := hK ks ks' (fun _ hk => hk) (fun _ hk => hk) e6
          subst e5
          subst e13
          exact ⟨by rw [prod_nodup h hq hq'], e14⟩

theorem text_same {g : Gr} (h : CheckG g) {t u : Tr} (hc : checkT g t t.sym = true) (hd : checkT g u u.sym = true) : textT g t = textT g u ↔ t = u := by
  refine ⟨fun e => ?_, fun e => by rw [e]⟩
  have hn : Cut0 [] := fun c l e => by cases e
  exact (text_inj h t u [] [] hc hd hn hn (by rw [e])).1

theorem name_none {g : Gr} (h : CheckG g) {s : Int} (hs : symB g s = true) {c : UInt8} (hc : notSign c = false) : (nameG g s).count c = 0 := by
  refine List.count_eq_zero.2 fun hm => ?_
  have := kind_signs (name_kind h hs).1 c hm
  rw [hc] at this
  cases this

theorem text_signs {g : Gr} (h : CheckG g) (t : Tr) : checkT g t t.sym = true →
    (textT g t).count 40 + (leavesT t).length = sizeT t ∧ (textT g t).count 41 = (textT g t).count 40 ∧ (textT g t).count 32 + 1 = sizeT t ∧ (0 < (textT g t).count 40 ↔ t.prod ≠ -1) := by
  induction t using Tr.ind with
  | h s p ks ih =>
    intro hc
    obtain ⟨_, hcase⟩ := check_cases hc
    rcases hcase with ⟨rfl, rfl, hs⟩ | ⟨m, rfl, hq, hks⟩
    · simp only [textT, if_true, leavesT, sizeT, sizeK, Tr.prod]
      rw [name_none h hs (by decide), name_none h hs (by decide), name_none h hs (by decide)]
      simp
    · have hm1 : ¬ ((m : Int) = -1) := by omega
      have hs := (left_symB h hq).1
      simp only at hs
      simp only [textT, if_neg hm1, leavesT, sizeT, Tr.prod]
      have hK : ∀ l : List Tr, (∀ k ∈ l, k ∈ ks) → (textK g l).count 40 + (leavesK l).length = sizeK l ∧ (textK g l).count 41 = (textK g l).count 40 ∧ (textK g l).count 32 = sizeK l := by
        intro l
        induction l with
        | nil => intro _; simp [textK, leavesK, sizeK]
        | cons t l ih2 =>
          intro hl
          obtain ⟨a1, a2, a3, _⟩ := ih t (hl t List.mem_cons_self) (hks t (hl t List.mem_cons_self))
          obtain ⟨b1, b2, b3⟩ := ih2 (fun k hk => hl k (List.mem_cons_of_mem _ hk))
          simp only [textK, leavesK, sizeK, List.count_append, List.length_append, List.count_cons]
          simp
          omega
      obtain ⟨b1, b2, b3⟩ := hK ks (fun _ hk => hk)
      have n0 := name_none h hs (c := 40) (by decide)
      have n1 := name_none h hs (c := 41) (by decide)
      have n2 := name_none h hs (c := 32) (by decide)
      simp only [List.count_append, List.count_cons, List.cons_append]
      simp
      omega

theorem text_some {g : Gr} (h : CheckG g) {t : Tr} (hc : checkT g t t.sym = true) : textT g t ≠ [] := by
  cases t with
  | mk s p ks =>
    obtain ⟨_, hcase⟩ := check_cases hc
    rcases hcase with ⟨rfl, rfl, hs⟩ | ⟨m, rfl, hq, hks⟩
    · obtain ⟨c, l, e, _⟩ := head_name h hs (R := [])
      simp only [textT, if_true]
      rw [List.append_nil] at e
      rw [e]
      intro e2
      cases e2
    · have hm1 : ¬ ((m : Int) = -1) := by omega
      simp [textT]

end Go.Proofs.Ytflfmcikfiaoiaa

namespace Go.Proofs.Ytflfmcikfiaoiaa
open Go.RowKit
open Doc

theorem readG_none {g : Gr} {l : List UInt8} (h : readG g l = none) : rdT g (l.length + 1) l 0 = none ∨ ∃ t r n, rdT g (l.length + 1) l 0 = some (t, r, n) ∧ r ≠ [] := by
  unfold readG at h
  cases hx : rdT g (l.length + 1) l 0 with
  | none => exact .inl rfl
  | some x =>
    rw [hx] at h
    simp only at h
    split at h
    · cases h
    · rename_i he
      exact .inr ⟨x.1, x.2.1, x.2.2, rfl, he⟩
set_option maxRecDepth 100000 in
set_option maxHeartbeats 4000000 in
theorem tread_no (v : Value) (g : Gr) (s : ByteArray) (w : World) (hg : GramAt w v g) (hf : Fits g) (ha : Asc s) (hs : s.size ≤ 970000) (hr : readG g s.data.toList = none) :
    Calls Try.prog 85 #[v, .string s] w fun e w' => e = .panicked [{ v := fT, recovered := false }] ∧ Below w.heap.size w w' := by
  obtain ⟨a1, a2, a3, c1, c2, c3, rfl⟩ := gram_form3 hg
  obtain ⟨hb3, hsz, q0, q1, q2⟩ := three w (.cells #[.slice a1 g.terms.length c1, .slice a2 g.nons.length c2, .slice a3 g.prods.length c3] 28) (.cells #[.int .i64 0, .int .i64 0, .slice none 0 0] 71) (.cells #[.slice a1 g.terms.length c1, .slice a2 g.nons.length c2, .slice a3 g.prods.length c3, .string s, .int .i64 0] 161)
  have HB := Lib.hid hb3
  have HSZ := Lib.hid hsz
  rcases readG_none hr with hrd | ⟨t, r, n, hrd, hne⟩
  · have HT := Lib.hid (tree_no (w.heap.size + 1 + 1) a1 a2 a3 c1 c2 c3 g w hg hf (by omega) (s.data.toList.length + 1) s 0 _ q2 hb3 ha (by rw [size_list]; omega) (by rw [← size_list]; omega) (by omega) hrd)
    unfold NoEnd at HT
    clear hb3 q0 q1 q2 hsz hrd hr hg hf ha hs
    go_enter Try.func85, Try.ntmps85
    go_wp2_with (go_at_call 114; refine HT.out.mono ?_; rintro e w4 ⟨rfl, hk⟩)
    exact ⟨rfl, rfl, HB.out.trans (hk.b.mono (by omega))⟩
  · have HT := Lib.hid (tree_any (w.heap.size + 1 + 1) a1 a2 a3 c1 c2 c3 g w hg hf (by omega) (s.data.toList.length + 1) s 0 _ _ q2 hb3 ha (by rw [size_list]; omega) (by rw [← size_list]; omega) (by omega) hrd)
    have HMN := Lib.hid fun W => must_no (w.heap.size + 1 + 1) W
    have HNE := Lib.hid hne
    clear hb3 q0 q1 q2 hsz hrd hr hg hf ha hs hne
    go_enter Try.func85, Try.ntmps85
    go_upto_region 3 with (go_at_call 114; refine HT.out.mono ?_; rintro e w4 ⟨hk, tl, s', hpl, rfl, hli, hs', hrd⟩)
    obtain ⟨hbS, -, qS⟩ := one_alloc w4 (.cells #[.int .i64 tl.sym, .int .i64 tl.prod, .slice tl.a tl.kids.length tl.c] 71)
    have d3 := (blk_cell (i := 3) (hrd.below hbS) rfl).1
    have lR := heap_lt (hrd.below hbS)
    have HBW := Lib.hid ((HB.out.trans (hk.b.mono (by omega))).trans (hbS.mono (by have := hk.s; have := HSZ.out; omega)))
    have hse : s'.data.toList = [] → False := fun e => HNE.out (by rw [← hs']; exact e)
    have hsl : s'.toList.isEmpty = false := by
      rw [ByteArray.toList_eq]
      cases hl : s'.data.toList with
      | nil => exact absurd hl (fun e => hse e)
      | cons c l => rfl
    clear hbS qS hrd hk hli HT HB hs' hse
    generalize w4.alloc (.cells #[.int .i64 tl.sym, .int .i64 tl.prod, .slice tl.a tl.kids.length tl.c] 71) = S at *
    go_wp2_with (go_at_call 115; refine (HMN.out _).mono ?_; rintro e w7 ⟨rfl, hw⟩; rw [← hw]; clear hw)
    exact ⟨rfl, rfl, HBW.out⟩

theorem ta_faultT (v : Value) (w : World) : (Instr.typeAssert (.iface 128 v) 20 128 true).run Try.prog w = .ok (.tuple #[v, .bool true]) w := by kernel_rfl

set_option maxRecDepth 100000 in
set_option maxHeartbeats 1000000 in
theorem catchT_fault (B : Nat) (cc : Value) (w : World) (hc : w.heap[B]? = some (.cells #[cc] 42)) :
    CallsD Try.prog 84 #[.pointer (some ⟨B, 0, none⟩)] (.panicking ({ v := fT, recovered := false } :: [])) w fun e u' w' =>
      e = .returned (.tuple #[]) ∧ u' = .panicking ({ v := fT, recovered := true } :: []) ∧ Below B w w' ∧ (∀ q, q < w.heap.size → q ≠ B → w'.heap[q]? = w.heap[q]?) ∧ w'.heap[B]? = some (.cells #[.int .i64 2] 42) := by
  refine callsD_of_wpS Try.func84 rfl fun c₀ cs hu => ?_
  unfold fT at *
  apply wpS_seq
  apply wpS_region
  simp [wpOpsS, go_sem, recoverD, hu, Try.ntmps84, Exit.thenS]
  refine wpS_of_wp ?_
  have h1 := ta_faultT
  have hl := heap_lt hc
  have hS : ∀ o, Below w.heap.size w (w.alloc o) := fun o => (Below.refl _ _).alloc (Nat.le_refl _) o
  have hne : ∀ o : Obj, ¬ w.heap.size = B := fun _ => by omega
  obtain ⟨c0, cz⟩ := blk_cell (i := 0) hc rfl
  have HC := Lib.hid hc
  have HS := Lib.hid hS
  have hlt2 : ¬ B = w.heap.size := by omega
  have hlt3 : ¬ w.heap.size = B := by omega
  clear hc hS hne
  rw [frame14]
  go_wp2
  refine ⟨rfl, _, rfl, .tuple #[], results_none rfl _ _ _, rfl, rfl, ?_, ?_, ?_⟩
  · exact ((Below.refl _ _).setCell (p := ⟨B, 0, none⟩) (Nat.le_refl _) _).alloc (by simp; omega) _
  · intro q hq hne
    rw [Below.heap_alloc _ _ _ (by simp; omega), Below.heap_setCell _ _ _ _ hne]
  · rw [Below.heap_alloc _ _ _ (by simp; omega), heap_set w B 0 (.int .i64 2) _ _ HC.out (by simp)]
    rfl

set_option maxRecDepth 100000 in
set_option maxHeartbeats 2000000 in
theorem tparse_no (v : Value) (g : Gr) (s : ByteArray) (w : World) (hg : GramAt w v g) (hf : Fits g) (ha : Asc s) (hs : s.size ≤ 970000) (hr : readG g s.data.toList = none) :
    Calls Try.prog 41 #[v, .string s] w fun e w' => e = .returned (.tuple #[.agg #[.int .i64 0, .int .i64 0, .slice none 0 0], .int .i64 2]) ∧ Below w.heap.size w w' := by
  obtain ⟨a1, a2, a3, c1, c2, c3, rfl⟩ := gram_form3 hg
  obtain ⟨hb3, hsz, q0, q1, q2⟩ := three w (.cells #[.slice a1 g.terms.length c1, .slice a2 g.nons.length c2, .slice a3 g.prods.length c3] 28) (.cells #[.int .i64 0, .int .i64 0, .slice none 0 0] 71) (.cells #[.int .i64 0] 42)
  have hT := tread_no _ g s _ (hg.below hb3) hf ha hs hr
  have HT := Lib.hid hT
  have HB := Lib.hid hb3
  have HQ1 := Lib.hid q1
  have HQ2 := Lib.hid q2
  have HSZ := Lib.hid hsz
  clear hT hb3 q0 q1 q2 hsz hr hg hf ha hs
  go_enter_defers Try.func41, Try.ntmps41
  go_wp2_with (go_at_call 85; refine HT.out.mono ?_; rintro e w2 ⟨rfl, hb2⟩; have R1 := Lib.hid ((hb2.block _ (heap_lt HQ1.out)).trans HQ1.out); have R2 := Lib.hid ((hb2.block _ (heap_lt HQ2.out)).trans HQ2.out); have HBW := Lib.hid (HB.out.trans (hb2.mono HB.out.size)); clear hb2)
  refine leaves_cons (f := 84) (args := #[.pointer (some ⟨w.heap.size + 1 + 1, 0, none⟩)]) (by simp) (by simp [go_sem]) ?_
  refine (catchT_fault (w.heap.size + 1 + 1) _ w2 R2.out).mono ?_
  rintro e u' w4 ⟨rfl, rfl, hb4, hk4, r2⟩
  have r1 := (hk4 _ (heap_lt R1.out) (by omega)).trans R1.out
  refine ⟨_, results_cells2 (p0 := 4) (p1 := 5) (t0 := 71) (t1 := 42) rfl rfl rfl
    (run_loadVar_row _ (w.heap.size + 1) 71 71 _ (0, 0) _ r1 Try.underlying71 rfl (by kernel_rfl)) (loadErr r2), ?_⟩
  exact ⟨rfl, HBW.out.trans (hb4.mono (by omega))⟩

end Go.Proofs.Ytflfmcikfiaoiaa

namespace Go.Proofs.Ytflfmcikfiaoiaa
open Go.RowKit
open Doc

def wkG : Gr := ⟨[[97], [98]], [[83]], [(100, [1, 100]), (100, [2])]⟩
def wkT : Tr := .mk 100 0 [.mk 1 (-1) [], .mk 100 1 [.mk 2 (-1) []]]
def wkS : List UInt8 := [40, 83, 32, 97, 32, 40, 83, 32, 98, 41, 41]
theorem wk_read : readG wkG wkS = some wkT := by rfl
theorem wk_check : checkT wkG wkT 100 = true := by rfl
theorem wk_print : printT wkG wkT = wkS := by decide +kernel
theorem wk_leaves : leavesT wkT = [1, 2] := by decide +kernel
theorem wk_size : sizeT wkT = 4 := by decide +kernel
theorem wk_mild : mildT wkT := by simp [wkT, mildT, mildK, mildI]
theorem wk_fits : Fits wkG := by refine ⟨by decide, by decide, by decide, by decide⟩
theorem wk_short : ShortN wkG := by refine ⟨by decide, by decide⟩
theorem wk_asc : Asc ⟨wkS.toArray⟩ := trivial
theorem good1_any (w : World) : Calls Try.prog 47 #[.int .i64 1] w fun e w' => Below w.heap.size w w' ∧ ∃ (a1 a2 a3 : Option Addr) (c1 c2 c3 : Nat), e = .returned (.agg #[.slice a1 2 c1, .slice a2 1 c2, .slice a3 2 c3]) ∧ GramAt w' (.agg #[.slice a1 2 c1, .slice a2 1 c2, .slice a3 2 c3]) wkG := by
  refine (good_any 1 w).mono ?_
  rintro e w' ⟨hb, ts, ns, ls, at_, an, ap, ct, cn, cp, he, hr, hp⟩
  have hw : parse [83, 58, 32, 97, 32, 83, 32, 124, 32, 98, 10] = .ok wkG := by decide +kernel
  have hg : (⟨ts, ns, ls.map Lay.plain⟩ : Gr) = wkG := End.ok.inj (hp.symm.trans hw)
  have h1 : ts = [[97], [98]] := congrArg Gr.terms hg
  have h2 : ns = [[83]] := congrArg Gr.nons hg
  have h3 : ls.length = 2 := by
    have := congrArg (fun g : Gr => g.prods.length) hg
    simp only [List.length_map] at this
    exact this
  have hgr := hr.gram
  rw [hg] at hgr
  subst h1
  subst h2
  rw [h3] at he hgr
  exact ⟨hb, at_, an, ap, ct, cn, cp, he, hgr⟩

set_option maxRecDepth 100000 in
set_option maxHeartbeats 4000000 in
theorem wakes8_any (w : World) : Calls Try.prog 46 #[] w fun e w' => e = .returned (.bool true) ∧ Below w.heap.size w w' := by
  have HGO := Lib.hid (good1_any w)
  go_enter Try.func46, Try.ntmps46
  go_upto_region 2 with (go_at_call 47; refine HGO.out.mono ?_; rintro e w1 ⟨hb1, a1, a2, a3, c1, c2, c3, rfl, hg1⟩)
  obtain ⟨hbA, _, qA⟩ := one_alloc w1 (.cells #[.slice a1 2 c1, .slice a2 1 c2, .slice a3 2 c3] 28)
  have HG := Lib.hid (hg1.below hbA)
  have HQ := Lib.hid qA
  have HB := Lib.hid (hb1.trans (hbA.mono hb1.size))
  have HPA := Lib.hid (tparse_ok _ wkG ⟨wkS.toArray⟩ wkT _ HG.out wk_fits wk_asc (by decide) wk_read)
  clear hb1 hg1 hbA qA HGO
  generalize w1.alloc (.cells #[.slice a1 2 c1, .slice a2 1 c2, .slice a3 2 c3] 28) = S at *
  generalize w1.heap.size = BG at *
  have g0 := (blk_cell (i := 0) HQ.out rfl).1
  have g1 := (blk_cell (i := 1) HQ.out rfl).1
  have g2 := (blk_cell (i := 2) HQ.out rfl).1
  have lG := heap_lt HQ.out
  go_upto_region 3 with (go_at_call 41; refine HPA.out.mono ?_; rintro e w2 ⟨hb2, tl, hpl, rfl, hli⟩)
  obtain ⟨hbT, _, qT⟩ := one_alloc w2 (.cells #[.int .i64 tl.sym, .int .i64 tl.prod, .slice tl.a tl.kids.length tl.c] 71)
  have hb2T := hb2.trans (hbT.mono hb2.size)
  have HG2 := Lib.hid (HG.out.below hb2T)
  have HQ2 := Lib.hid ((hb2T.block _ lG).trans HQ.out)
  have HQT := Lib.hid qT
  have HB2 := Lib.hid (HB.out.trans (hb2T.mono HB.out.size))
  have HL2 := Lib.hid (hli.under hbT)
  have HPL := Lib.hid hpl
  clear hb2 hbT hb2T qT hli hpl g0 g1 g2 lG HPA
  generalize w2.alloc (.cells #[.int .i64 tl.sym, .int .i64 tl.prod, .slice tl.a tl.kids.length tl.c] 71) = S2 at *
  generalize w2.heap.size = BT at *
  have hsz : sizeT tl.plain ≤ 9600 := by rw [HPL.out, wk_size]; decide
  have HCL : Hid (∀ W, Below S2.heap.size S2 W → (W.cell? ⟨BG, 0, none⟩ = some (.slice a1 2 c1) ∧ W.cell? ⟨BG, 1, none⟩ = some (.slice a2 1 c2) ∧ W.cell? ⟨BG, 2, none⟩ = some (.slice a3 2 c3) ∧ W.cell? ⟨BT, 0, none⟩ = some (.int .i64 tl.sym) ∧ W.cell? ⟨BT, 1, none⟩ = some (.int .i64 tl.prod) ∧ W.cell? ⟨BT, 2, none⟩ = some (.slice tl.a tl.kids.length tl.c)) ∧ BG < W.heap.size ∧ BT < W.heap.size) := Lib.hid fun W hW => by
    have z0 := (hW.block _ (heap_lt HQ2.out)).trans HQ2.out
    have z1 := (hW.block _ (heap_lt HQT.out)).trans HQT.out
    exact ⟨⟨(blk_cell z0 rfl).1, (blk_cell z0 rfl).1, (blk_cell z0 rfl).1, (blk_cell z1 rfl).1, (blk_cell z1 rfl).1, (blk_cell z1 rfl).1⟩, heap_lt z0, heap_lt z1⟩
  have HCK := Lib.hid (tcheck_any tl _ _ wkG 100 S2 HG2.out wk_fits HL2.out (by rw [HPL.out]; exact wk_mild) (by omega))
  have HPR := Lib.hid fun W (hW : Below S2.heap.size S2 W) => tprint_any tl _ _ wkG W (HG2.out.below hW) wk_fits wk_short (HL2.out.under hW) (by rw [HPL.out]; exact wk_mild) hsz
  have HLV := Lib.hid fun W (hW : Below S2.heap.size S2 W) => tleaves_any tl _ W (HL2.out.under hW) (by omega)
  rw [HPL.out] at HCK HPR HLV
  rw [wk_check] at HCK
  rw [wk_print] at HPR
  rw [wk_leaves] at HLV
  have HKS := Lib.hid fun (a b : Option Addr) (ca cb : Nat) (W : World) (h1 : Cells W a (nums [1, 2])) (h2 : Cells W b (nums [1, 2])) => (keepSame_any a b ca cb [1, 2] [1, 2] W h1 h2 (by decide) (by decide)).mono fun e w' ⟨he, hw⟩ => (⟨he.trans (by rw [decide_eq_true rfl]), hw⟩ : e = Ending.returned (.bool true) ∧ ∃ n, w' = W.drewN n)
  obtain ⟨⟨g0, g1, g2, t0, t1, t2⟩, lG, lT⟩ := HCL.out S2 (Below.refl _ _)
  unfold Tl.v at HCK HPR HLV
  unfold wkS at HPR
  clear HG HQ HB hsz
  go_wp2_with (first
    | (go_at_call 87; refine HCK.out.mono ?_; rintro e w3 ⟨rfl, hb3⟩; clear g0 g1 g2 t0 t1 t2 lG lT; obtain ⟨⟨g0, g1, g2, t0, t1, t2⟩, lG, lT⟩ := HCL.out _ hb3)
    | (go_at_call 88; refine (HPR.out _ hb3).mono ?_; rintro e w4 ⟨rfl, hb4⟩; have hb34 := hb3.trans (hb4.mono hb3.size); clear g0 g1 g2 t0 t1 t2 lG lT; obtain ⟨⟨g0, g1, g2, t0, t1, t2⟩, lG, lT⟩ := HCL.out _ hb34)
    | (go_at_call 89; refine (HLV.out _ hb34).mono ?_; rintro e w5 ⟨hb5, a5, c5, rfl, ho5⟩; have HC5 := Lib.hid (own_cells ho5).1; have HO5 := Lib.hid ho5; clear ho5)
    | (go_at_call 32; refine (HKS.out _ _ _ _ _ (HC5.out.below (box_belowT _ _)) (cells_new _ #[.int .i64 1, .int .i64 2] 3)).mono ?_; rintro e w6 ⟨rfl, n6, rfl⟩))
  go_ret
  exact ⟨rfl, below_drews (((HB2.out.trans (hb34.mono HB2.out.size)).trans (hb5.mono (Nat.le_trans HB2.out.size hb34.size))).alloc (Nat.le_trans HB2.out.size (Nat.le_trans hb34.size hb5.size)) _) _⟩

end Go.Proofs.Ytflfmcikfiaoiaa

namespace Go.Proofs.Ytflfmcikfiaoiaa
open Go.RowKit
open Doc

def RawX.calmP (x : RawX) : RawX := ⟨x.pick, x.terms, x.nons, 0, x.rows, x.ra, x.rc, x.word⟩
theorem calmP_at {w : World} {x : RawX} (h : RawAt w x) : RawAt w x.calmP := ⟨h.cells, h.each, h.wide⟩
theorem calmP_wide {x : RawX} (h : RawWide x) : RawWide x.calmP := ⟨h.1, h.2.1, h.2.2.1, ⟨by show (-9223372036854775808 : Int) ≤ 0; omega, by show (0 : Int) ≤ 9223372036854775807; omega⟩, h.2.2.2.2⟩
theorem shortN_P {g : Gr} (h : CheckG g) : ShortN g := ⟨fun x hx => by have := kind_len (x := x) (by rw [h.tk x hx]; decide); omega, fun x hx => by have := kind_len (x := x) (by rw [h.nk x hx]; decide); omega⟩
theorem fits_P {g : Gr} (h : CheckG g) : Fits g := ⟨by have := h.t8; omega, by have := h.n8; omega, by have := h.p24; omega, fun p hp => by have := (h.pv p hp).2.1; omega⟩
/-- What is read has at most 400 symbols. -/
theorem readG_size {g : Gr} (h : CheckG g) {l : List UInt8} {t : Tr} (hr : readG g l = some t) : sizeT t ≤ 400 := by
  unfold readG at hr
  cases hx : rdT g (l.length + 1) l 0 with
  | none => rw [hx] at hr; cases hr
  | some x =>
    rw [hx] at hr
    simp only at hr
    obtain ⟨_, _, h3⟩ := (read_ok h _ _ _).1 x hx
    have h4 := ((rd_num g _ l 0 (by omega)).1 x hx).1
    split at hr
    · cases hr; omega
    · cases hr
def zeroT : Tl := .mk 0 0 none 0 []
/-- How tree.Parse ends, whatever the text: a derivation whose text it is, or none. -/
def ParEnd (g : Gr) (s : ByteArray) (w : World) (e : Ending) (w' : World) : Prop :=
  Below w.heap.size w w' ∧ ∃ (tl : Tl) (z : Int), e = .returned (.tuple #[.agg #[.int .i64 tl.sym, .int .i64 tl.prod, .slice tl.a tl.kids.length tl.c], .int .i64 z]) ∧ Lies (fun b => w.heap.size ≤ b) w' tl ∧ ((z = 0 ∧ readG g s.data.toList = some tl.plain) ∨ (z = 2 ∧ readG g s.data.toList = none ∧ tl = zeroT))
theorem add_P (a b : ByteArray) (w : World) (h : a.size + b.size ≤ 10000000) : (Op.stringOp .add a b).run Try.prog w = .ok (.string (a ++ b)) w := run_string_add_sum w a b (by omega)
def oneP (c : Nat) : ByteArray := ⟨#[UInt8.ofNat c]⟩
theorem conv_P (W : World) (b c : Nat) (hc : c < 256) (h : W.cell? ⟨b, 0, none⟩ = some (.int .u8 c)) :
    (convert 78 9 (.slice (some ⟨b, 0, none⟩) 1 1)).run Try.prog W = .ok (.string (oneP c)) W := by
  refine run_convert_bytes_back (P := Try.prog) _ _ _ 5 ⟨b, 0, none⟩ 1 [UInt8.ofNat c] (by kernel_rfl) (by kernel_rfl) (by kernel_rfl) fun j hj => ?_
  have hj0 : j = 0 := by simpa using hj
  subst hj0
  refine h.trans ?_
  simp only [List.getElem_cons_zero]
  rw [UInt8.toNat_ofNat', Nat.mod_eq_of_lt (by omega)]
theorem ext_size (s : ByteArray) (i j : Nat) : (s.extract i j).size ≤ s.size := by
  simp [ByteArray.size_extract]; omega
theorem tparse_end (v : Value) (g : Gr) (s : ByteArray) (w : World) (hg : GramAt w v g) (hf : Fits g) (hs : s.size ≤ 970000) :
    Calls Try.prog 41 #[v, .string s] w (ParEnd g s w) := by
  cases hr : readG g s.data.toList with
  | some t => exact (tparse_ok v g s t w hg hf trivial hs hr).mono fun e w' ⟨hb, tl, ht, he, hl⟩ => ⟨hb, tl, 0, he, hl, .inl ⟨rfl, by rw [ht]; exact hr⟩⟩
  | none => exact (tparse_no v g s w hg hf trivial hs hr).mono fun e w' ⟨he, hb⟩ => ⟨hb, zeroT, 2, he, .leaf _ _ _ _ _ _, .inr ⟨rfl, hr, rfl⟩⟩

set_option maxRecDepth 100000 in
set_option maxHeartbeats 16000000 in
theorem treeParses_walk (x : RawX) (a : Option Addr) (len cap : Nat) (zs : List Int) (deep cut at_ c : Int) (raw : ByteArray) (w : World) (hx : RawAt w x) (hwd : RawWide x) (hr : IsRow .i64 w a len cap zs) (hcap : cap * 8 ≤ 140737488351232) (hcu : -9223372036854775808 ≤ cut ∧ cut ≤ 9223372036854775807) (haw : -9223372036854775808 ≤ at_ ∧ at_ ≤ 9223372036854775807) (hcw : 0 ≤ c ∧ c ≤ 255) (hraw : raw.size ≤ 9223372036854775807) :
    Calls Try.prog 8 #[x.v, .slice a len cap, .int .i64 deep, .int .i64 cut, .int .i64 at_, .int .u8 c, .string raw] w fun e w' => e = .returned (.bool true) ∧ Below w.heap.size w w' := by
  have hln := row_len hr
  have HGR := Lib.hid fun W (h : Below w.heap.size w W) => grammar_0 x.calmP W ((calmP_at hx).below h) (calmP_wide hwd) (by show (0 : Int) % 40 < 28; omega)
  have HZ := Lib.hid (row_cells hr)
  have HZW := Lib.hid (row_wide hr)
  have HZL := Lib.hid hln
  have HCP := Lib.hid hcap
  have HCW := Lib.hid hcw
  have HWK := Lib.hid fun W => wakes8_any W
  obtain ⟨xp, xt, xn, xh, rows, xa, xc, word⟩ := x
  unfold RawX.calmP RawX.v at *
  simp only at *
  have hb0 := box_belowT w (.cells #[.int .i64 xp, .int .i64 xt, .int .i64 xn, .int .i64 0, .slice xa rows.length xc, .string word] 24)
  have HG1 := Lib.hid (HGR.out _ hb0)
  have HB1 := Lib.hid hb0
  clear hb0 HGR hx hwd hr hcap hln hcw
  go_enter Try.func8, Try.ntmps8
  go_upto_region 3 with (go_at_call 18; (with_reducible refine HG1.out.mono ?_); rintro e w2 ⟨hb2, a1, a2, a3, c1, c2, c3, g, rfl, hg2, hc2⟩)
  obtain ⟨hbG, -, qG⟩ := one_alloc w2 (.cells #[.slice a1 g.terms.length c1, .slice a2 g.nons.length c2, .slice a3 g.prods.length c3] 28)
  have HBG := Lib.hid ((HB1.out.trans (hb2.mono HB1.out.size)).trans (hbG.mono (Nat.le_trans HB1.out.size hb2.size)))
  have HQG := Lib.hid qG
  have HGG := Lib.hid (hg2.below hbG)
  have HCG := Lib.hid hc2
  clear hb2 hg2 hc2 hbG qG HG1 HB1
  generalize w2.alloc (.cells #[.slice a1 g.terms.length c1, .slice a2 g.nons.length c2, .slice a3 g.prods.length c3] 28) = S at *
  generalize w2.heap.size = BG at *
  have HOF := Lib.hid (treeOf_any g HCG.out a1 a2 a3 c1 c2 c3 a cap (zs.take len) deep 0 0 S HGG.out (HZ.out.below HBG.out) (by have := HZL.out; omega) (by have := HCP.out; omega) HZW.out (by decide))
  rw [HZL.out.1] at HOF
  unfold OfEnd at HOF
  have g0 := (blk_cell (i := 0) HQG.out rfl).1
  have g1 := (blk_cell (i := 1) HQG.out rfl).1
  have g2 := (blk_cell (i := 2) HQG.out rfl).1
  have lG := heap_lt HQG.out
  go_upto_region 4 with (go_at_call 39; (with_reducible refine HOF.out.mono ?_); rintro e w3 ⟨hb3, tl, rfl, hli, hck, hsz, hsy⟩)
  have hmi := tiny_mild _ (check_tinyT HCG.out _ _ hck)
  have hrd : checkT g tl.plain tl.plain.sym = true := by rw [tl.plain_sym]; exact hck
  have hpt : printT g tl.plain = textT g tl.plain := by unfold printT; rw [if_pos hrd]
  have HTX := Lib.hid (text_some HCG.out hrd)
  have htl := text_len (shortN_P HCG.out) tl.plain
  have HRT : Hid (sizeT tl.plain ≤ 400 → readG g (textT g tl.plain) = some tl.plain) := Lib.hid fun h => readG_text HCG.out hrd h
  obtain ⟨hbT, -, qT⟩ := one_alloc w3 (.cells #[.int .i64 tl.sym, .int .i64 tl.prod, .slice tl.a tl.kids.length tl.c] 71)
  have hb3T := hb3.trans (hbT.mono hb3.size)
  have HBT := Lib.hid (HBG.out.trans (hb3T.mono HBG.out.size))
  have HQT := Lib.hid qT
  have HLI := Lib.hid (hli.under hbT)
  have HGT := Lib.hid (HGG.out.below hb3T)
  have HQ2 := Lib.hid ((hb3T.block _ lG).trans HQG.out)
  have HMI := Lib.hid hmi
  have HSZ := Lib.hid hsz
  clear hb3 hbT qT hli hmi hck hrd hsy hb3T g0 g1 g2 lG HOF HGG HQG HBG hsz
  generalize w3.alloc (.cells #[.int .i64 tl.sym, .int .i64 tl.prod, .slice tl.a tl.kids.length tl.c] 71) = S3 at *
  generalize w3.heap.size = T at *
  have HCL : Hid (∀ W, Below S3.heap.size S3 W → (W.cell? ⟨BG, 0, none⟩ = some (.slice a1 g.terms.length c1) ∧ W.cell? ⟨BG, 1, none⟩ = some (.slice a2 g.nons.length c2) ∧ W.cell? ⟨BG, 2, none⟩ = some (.slice a3 g.prods.length c3) ∧ W.cell? ⟨T, 0, none⟩ = some (.int .i64 tl.sym) ∧ W.cell? ⟨T, 1, none⟩ = some (.int .i64 tl.prod) ∧ W.cell? ⟨T, 2, none⟩ = some (.slice tl.a tl.kids.length tl.c)) ∧ BG < W.heap.size ∧ T < W.heap.size) := Lib.hid fun W hW => by
    have z0 := (hW.block _ (heap_lt HQ2.out)).trans HQ2.out
    have z1 := (hW.block _ (heap_lt HQT.out)).trans HQT.out
    exact ⟨⟨(blk_cell z0 rfl).1, (blk_cell z0 rfl).1, (blk_cell z0 rfl).1, (blk_cell z1 rfl).1, (blk_cell z1 rfl).1, (blk_cell z1 rfl).1⟩, heap_lt z0, heap_lt z1⟩
  have HB0 := Lib.hid (Below.refl S3.heap.size S3)
  have HFT := Lib.hid (fits_P HCG.out)
  have HSH := Lib.hid (shortN_P HCG.out)
  have HPR := Lib.hid (rprint_any tl _ _ g S3 HGT.out HFT.out HSH.out HLI.out HMI.out (by have := HSZ.out; omega))
  rw [hpt] at HPR
  unfold Tl.v at HPR
  have HPA := Lib.hid fun (s : ByteArray) (hs : s.size ≤ 970000) W (hW : Below S3.heap.size S3 W) => tparse_end _ g s W (HGT.out.below hW) HFT.out hs
  have HSI := Lib.hid fun W (hW : Below S3.heap.size S3 W) => rsize_any tl _ W (HLI.out.under hW) (by have := HSZ.out; omega)
  have HRC := Lib.hid fun (u : Tl) (P : Nat → Prop) W (hW : Below S3.heap.size S3 W) (hl : Lies P W u) (hm : mildT u.plain) (hz : sizeT u.plain ≤ 400) => rcheck_any u P _ g u.sym W (HGT.out.below hW) HFT.out hl hm (by omega)
  have HRP := Lib.hid fun (u : Tl) (P : Nat → Prop) W (hW : Below S3.heap.size S3 W) (hl : Lies P W u) (hm : mildT u.plain) (hz : sizeT u.plain ≤ 400) => rprint_any u P _ g W (HGT.out.below hW) HFT.out HSH.out hl hm (by omega)
  obtain ⟨⟨g0, g1, g2, t0, t1, t2⟩, lG, lT⟩ := HCL.out S3 HB0.out
  clear hpt
  unfold Tl.v at HSI HRC HRP
  go_upto_region 5 with (go_at_call 40; (with_reducible refine HPR.out.mono ?_); rintro e w4 ⟨rfl, hb4⟩)
  have hTL : (textT g tl.plain).length ≤ 961093 := by have := HSZ.out; omega
  have hTP : 0 < (textT g tl.plain).length := List.length_pos_iff.2 HTX.out
  obtain ⟨tx, htx⟩ : ∃ tx : ByteArray, tx = ⟨(textT g tl.plain).toArray⟩ := ⟨_, rfl⟩
  have hxl : tx.data.toList = textT g tl.plain := by rw [htx]
  have hxs : tx.size = (textT g tl.plain).length := by rw [htx]; simp [ByteArray.size]
  rw [← htx]
  rw [← hxl] at HRT
  rw [← hxs] at hTL hTP
  have HP5 := Lib.hid (HPA.out tx (by omega) w4 hb4)
  have HB4 := Lib.hid hb4
  obtain ⟨⟨g0, g1, g2, t0, t1, t2⟩, lG, lT⟩ := HCL.out w4 hb4
  clear htx hxl hxs htl HTX HPR hb4
  go_upto_region 6 with (go_at_call 41; (with_reducible refine HP5.out.mono ?_); rintro e w5 ⟨hb5, ul, z, rfl, hlu, hcase⟩)
  have hb35 := HB4.out.trans (hb5.mono HB4.out.size)
  obtain ⟨hbU, -, qU⟩ := one_alloc w5 (.cells #[.int .i64 ul.sym, .int .i64 ul.prod, .slice ul.a ul.kids.length ul.c] 71)
  have HB5 := Lib.hid (hb35.trans (hbU.mono hb35.size))
  have HQU := Lib.hid qU
  have HLU := Lib.hid (hlu.under hbU)
  have HC5 := Lib.hid hcase
  clear hb5 hb35 hbU qU hlu hcase HP5 HB4 g0 g1 g2 t0 t1 t2 lG lT
  generalize w5.alloc (.cells #[.int .i64 ul.sym, .int .i64 ul.prod, .slice ul.a ul.kids.length ul.c] 71) = S5 at *
  generalize w5.heap.size = U at *
  obtain ⟨⟨g0, g1, g2, t0, t1, t2⟩, lG, lT⟩ := HCL.out S5 HB5.out
  have u0 := (blk_cell (i := 0) HQU.out rfl).1
  have u1 := (blk_cell (i := 1) HQU.out rfl).1
  have u2 := (blk_cell (i := 2) HQU.out rfl).1
  have lU := heap_lt HQU.out
  have HSI5 := Lib.hid (HSI.out S5 HB5.out)
  clear HSI
  go_cut [53] from 41 to 53 (fun v W => v = .bool false ∧ Hid (Below S3.heap.size S3 W))
  case first =>
    by_cases h4 : sizeT tl.plain ≤ 400
    · have hrd := HRT.out h4
      obtain ⟨rfl, hru⟩ : z = 0 ∧ readG g tx.data.toList = some ul.plain := by
        rcases HC5.out with h | ⟨_, h, _⟩
        · exact h
        · rw [hrd] at h; cases h
      have hpl : tl.plain = ul.plain := Option.some.inj (hrd.symm.trans hru)
      have HSM := Lib.hid fun W (hW : Below S5.heap.size S5 W) => (tsame_any tl ul _ _ W (HLI.out.under (HB5.out.trans (hW.mono HB5.out.size))) (HLU.out.under hW) (by omega) (by rw [← hpl]; omega)).mono fun e w' ⟨he, hb⟩ => (⟨he.trans (by rw [(same_iff _ _).2 hpl]), hb⟩ : e = Ending.returned (.bool true) ∧ Below W.heap.size W w')
      have hle : ((sizeT tl.plain : Nat) : Int) ≤ 400 := by omega
      clear hrd hru hpl h4
      unfold Tl.v at HSM
      go_wp2_with (first
        | (go_at_call 42; refine HSI5.out.mono ?_; rintro e w6 ⟨rfl, hb6⟩; obtain ⟨⟨y0, y1, y2, y3, y4, y5⟩, y6, y7⟩ := HCL.out w6 (HB5.out.trans (hb6.mono HB5.out.size)); have x0 := (blk_cell (i := 0) ((hb6.block _ lU).trans HQU.out) rfl).1; have x1 := (blk_cell (i := 1) ((hb6.block _ lU).trans HQU.out) rfl).1; have x2 := (blk_cell (i := 2) ((hb6.block _ lU).trans HQU.out) rfl).1; have x3 := heap_lt ((hb6.block _ lU).trans HQU.out))
        | (go_at_call 43; refine (HSM.out _ hb6).mono ?_; rintro e w7 ⟨rfl, hb7⟩))
      go_meet
      exact ⟨rfl, Lib.hid (HB5.out.trans ((hb6.trans (hb7.mono hb6.size)).mono HB5.out.size))⟩
    · have hle : ¬ ((sizeT tl.plain : Nat) : Int) ≤ 400 := by omega
      go_wp2_with (go_at_call 42; refine HSI5.out.mono ?_; rintro e w6 ⟨rfl, hb6⟩)
      go_meet
      exact ⟨rfl, Lib.hid (HB5.out.trans (hb6.mono HB5.out.size))⟩
  case rest =>
    obtain ⟨rfl, HB6⟩ := hcut
    rename World => S6
    clear HSI5 HLU HC5 HQU HB5 g0 g1 g2 t0 t1 t2 lG lT u0 u1 u2 lU HRT
    obtain ⟨k, hk, hkl⟩ : ∃ k : Nat, at_ % (tx.size : Int) = k ∧ k < tx.size := by
      have h1 := Int.emod_nonneg at_ (show (tx.size : Int) ≠ 0 by omega)
      have h2 := Int.emod_lt_of_pos at_ (show (0 : Int) < tx.size by omega)
      exact ⟨(at_ % (tx.size : Int)).toNat, by omega, by omega⟩
    have HW1 := Lib.hid fun W => (within_any at_ tx.size (by omega) (by omega) W).mono fun e w' ⟨he, hw⟩ => (⟨he.trans (by rw [hk]), hw⟩ : e = Ending.returned (.int .i64 k) ∧ w' = W)
    obtain ⟨d, hd, hdl⟩ : ∃ d : Nat, cut % 4 = d ∧ d < 4 := ⟨(cut % 4).toNat, by omega, by omega⟩
    have HW2 := Lib.hid fun W => (within_any cut 4 (by omega) (by omega) W).mono fun e w' ⟨he, hw⟩ => (⟨he.trans (by rw [hd]), hw⟩ : e = Ending.returned (.int .i64 d) ∧ w' = W)
    have hpos : (0 : Int) < tx.size := by omega
    clear hk hd
    obtain ⟨cn, rfl⟩ : ∃ cn : Nat, c = cn := ⟨c.toNat, by have := HCW.out; omega⟩
    have hcn : cn < 256 := by have := HCW.out; omega
    clear HCW
    go_upto_if 56 with fail
    go_cut [17] from 57 to 99 (fun v W => ∃ s2 : ByteArray, v = .string s2 ∧ s2.size ≤ 970000 ∧ Hid (Below S3.heap.size S3 W))
    case first =>
      have hk0 : (0 : Int) ≤ k := by omega
      have hk1 : (k : Int) ≤ tx.size := by omega
      have hk2 : (0 : Int) ≤ (k : Int) + 1 := by omega
      have hk3 : (k : Int) + 1 ≤ tx.size := by omega
      have hk4 : ((k : Int) + 1).toNat = k + 1 := by omega
      have hz1 := ext_size tx 0 k
      have hz2 := ext_size tx (k + 1) tx.size
      have hz3 := ext_size tx k tx.size
      have hs1 : (oneP cn).size = 1 := rfl
      have hs2 : (⟨#[32]⟩ : ByteArray).size = 1 := rfl
      have q1 : ∀ W, (Op.stringOp .add (tx.extract 0 k) (tx.extract (k + 1) tx.size)).run Try.prog W = .ok (.string (tx.extract 0 k ++ tx.extract (k + 1) tx.size)) W := fun W => add_P _ _ W (by omega)
      have q2 : ∀ W, (Op.stringOp .add (tx.extract 0 k) (oneP cn)).run Try.prog W = .ok (.string (tx.extract 0 k ++ oneP cn)) W := fun W => add_P _ _ W (by omega)
      have q3 : ∀ W, (Op.stringOp .add (tx.extract 0 k ++ oneP cn) (tx.extract (k + 1) tx.size)).run Try.prog W = .ok (.string (tx.extract 0 k ++ oneP cn ++ tx.extract (k + 1) tx.size)) W := fun W => add_P _ _ W (by rw [ByteArray.size_append]; omega)
      have q4 : ∀ W, (Op.stringOp .add (tx.extract 0 k) ⟨#[32]⟩).run Try.prog W = .ok (.string (tx.extract 0 k ++ ⟨#[32]⟩)) W := fun W => add_P _ _ W (by omega)
      have q5 : ∀ W, (Op.stringOp .add (tx.extract 0 k ++ ⟨#[32]⟩) (tx.extract k tx.size)).run Try.prog W = .ok (.string (tx.extract 0 k ++ ⟨#[32]⟩ ++ tx.extract k tx.size)) W := fun W => add_P _ _ W (by rw [ByteArray.size_append]; omega)
      have q6 := fun W b => conv_P W b cn hcn
      have HZA : Hid ((tx.extract 0 k).size ≤ 970000 ∧ (tx.extract 0 k ++ tx.extract (k + 1) tx.size).size ≤ 970000 ∧ (tx.extract 0 k ++ oneP cn ++ tx.extract (k + 1) tx.size).size ≤ 970000 ∧ (tx.extract 0 k ++ ⟨#[32]⟩ ++ tx.extract k tx.size).size ≤ 970000) := Lib.hid (by
        simp only [ByteArray.size_append, ByteArray.size_extract, hs1, hs2]
        omega)
      go_upto_region 12 with (go_at_call 27; first
        | (with_reducible refine (HW1.out _).mono ?_; rintro e w7 ⟨rfl, hw7⟩; obtain rfl := hw7.symm)
        | (with_reducible refine (HW2.out _).mono ?_; rintro e w7 ⟨rfl, hw7⟩; obtain rfl := hw7.symm))
      rcases (show d = 0 ∨ d = 1 ∨ d = 2 ∨ d = 3 by omega) with rfl | rfl | rfl | rfl
      · go_wp2
        go_meet
        exact ⟨_, rfl, HZA.out.1, HB6⟩
      · go_wp2
        go_quiet (fail)
        go_wp2
        go_meet
        exact ⟨_, rfl, HZA.out.2.1, Lib.hid (below_drews HB6.out _)⟩
      · go_wp2
        have HBO := Lib.hid fun o => (HB6.out.alloc HB6.out.size o).drew
        go_region
        all_goals
          go_wp2
          go_meet
          exact ⟨_, rfl, HZA.out.2.2.1, Lib.hid (HBO.out _)⟩
      · go_wp2
        go_quiet (fail)
        go_wp2
        go_meet
        exact ⟨_, rfl, HZA.out.2.2.2, Lib.hid (below_drews HB6.out _)⟩
    case rest =>
      obtain ⟨s2, rfl, hs2, HB7⟩ := hcut
      rename World => S7
      clear HW1 HW2 HB6
      have HTR := Lib.hid fun W => cut9_any raw 20 W (by unfold maxLen; omega) (by omega)
      have hr20 : (raw.extract 0 (min raw.size 20)).size ≤ 970000 := by simp only [ByteArray.size_extract]; omega
      generalize raw.extract 0 (min raw.size 20) = r20 at *
      go_upto_region 19 with (go_at_call 44; refine (HTR.out _).mono ?_; rintro e w8 ⟨rfl, hw8⟩; obtain rfl := hw8.symm)
      obtain ⟨hb8, -, q8⟩ := one_alloc S7 (.cells #[.string s2, .string r20] 9)
      have HB8 := Lib.hid (HB7.out.trans (hb8.mono HB7.out.size))
      have HQ8 := Lib.hid q8
      clear hb8 q8 HB7
      generalize S7.alloc (.cells #[.string s2, .string r20] 9) = S8 at *
      generalize S7.heap.size = LB at *
      go_loopw [105] (fun i wr => ∃ j : Nat, j ≤ 2 ∧ i = .int .i64 j ∧ Hid (Below S8.heap.size S8 wr)) (fun i _ => 2 - (intOf i).toNat)
      case atStart => exact ⟨0, by omega, rfl, Lib.hid (Below.refl _ _)⟩
      case round =>
        rename World => wr
        obtain ⟨j, hj, rfl, HBR⟩ := hrel
        have hqr := (HBR.out.block LB (heap_lt HQ8.out)).trans HQ8.out
        have hbr := HB8.out.trans (HBR.out.mono HB8.out.size)
        by_cases hjl : j < 2
        · have e1 : (j : Int) < 2 := by omega
          obtain ⟨y, hy, x0⟩ : ∃ y : ByteArray, y.size ≤ 970000 ∧ wr.cell? ⟨LB, j, none⟩ = some (.string y) := by
            rcases (show j = 0 ∨ j = 1 by omega) with rfl | rfl
            · exact ⟨s2, hs2, (blk_cell (i := 0) hqr rfl).1⟩
            · exact ⟨r20, hr20, (blk_cell (i := 1) hqr rfl).1⟩
          have x2 := heap_lt hqr
          have HPY := Lib.hid (HPA.out y hy wr hbr)
          have HBQ := Lib.hid hbr
          obtain ⟨⟨g0, g1, g2, _⟩, lG, _⟩ := HCL.out wr hbr
          clear hqr hbr
          go_upto_region 21 with fail
          go_upto_region 22 with (go_at_call 41; (with_reducible refine HPY.out.mono ?_); rintro e w9 ⟨hb9, vl, z2, rfl, hlv, hcase⟩)
          obtain ⟨hbV, -, qV⟩ := one_alloc w9 (.cells #[.int .i64 vl.sym, .int .i64 vl.prod, .slice vl.a vl.kids.length vl.c] 71)
          have hb9V := hb9.trans (hbV.mono hb9.size)
          have HBV := Lib.hid (HBQ.out.trans (hb9V.mono HBQ.out.size))
          have HBL := Lib.hid (HBR.out.trans (hb9V.mono HBR.out.size))
          have HLV := Lib.hid (hlv.under hbV)
          have HQV := Lib.hid qV
          clear hb9 hbV qV hlv hb9V g0 g1 g2 lG x0 x2 HPY HBQ HBR
          generalize w9.alloc (.cells #[.int .i64 vl.sym, .int .i64 vl.prod, .slice vl.a vl.kids.length vl.c] 71) = SV at *
          generalize w9.heap.size = V at *
          have HCV : Hid (∀ W, Below SV.heap.size SV W → ((W.cell? ⟨BG, 0, none⟩ = some (.slice a1 g.terms.length c1) ∧ W.cell? ⟨BG, 1, none⟩ = some (.slice a2 g.nons.length c2) ∧ W.cell? ⟨BG, 2, none⟩ = some (.slice a3 g.prods.length c3)) ∧ W.cell? ⟨V, 0, none⟩ = some (.int .i64 vl.sym) ∧ W.cell? ⟨V, 1, none⟩ = some (.int .i64 vl.prod) ∧ W.cell? ⟨V, 2, none⟩ = some (.slice vl.a vl.kids.length vl.c)) ∧ BG < W.heap.size ∧ V < W.heap.size) := Lib.hid fun W hW => by
            obtain ⟨⟨y0, y1, y2, _⟩, y3, _⟩ := HCL.out W (HBV.out.trans (hW.mono HBV.out.size))
            have z1 := (hW.block _ (heap_lt HQV.out)).trans HQV.out
            exact ⟨⟨⟨y0, y1, y2⟩, (blk_cell z1 rfl).1, (blk_cell z1 rfl).1, (blk_cell z1 rfl).1⟩, y3, heap_lt z1⟩
          obtain ⟨⟨⟨g0, g1, g2⟩, v0, v1, v2⟩, lG, lV⟩ := HCV.out SV (Below.refl _ _)
          rcases hcase with ⟨rfl, hrd⟩ | ⟨rfl, hrd, rfl⟩
          · obtain ⟨hck, htx⟩ := readG_ok HCG.out hrd
            have hz := readG_size HCG.out hrd
            have hpt : (⟨(printT g vl.plain).toArray⟩ : ByteArray) = y := by
              unfold printT; rw [if_pos hck, htx, Array.toArray_toList]
            rw [vl.plain_sym] at hck
            have hmi := tiny_mild _ (check_tinyT HCG.out _ _ hck)
            have HC1 := Lib.hid ((HRC.out vl _ SV HBV.out HLV.out hmi hz).mono fun e w' ⟨he, hb⟩ => (⟨he.trans (by rw [hck]), hb⟩ : e = Ending.returned (.bool true) ∧ Below SV.heap.size SV w'))
            have HP1 := Lib.hid fun W (hW : Below SV.heap.size SV W) => (HRP.out vl _ W (HBV.out.trans (hW.mono HBV.out.size)) (HLV.out.under hW) hmi hz).mono fun e w' ⟨he, hb⟩ => (⟨he.trans (by rw [hpt]), hb⟩ : e = Ending.returned (.string y) ∧ Below W.heap.size W w')
            clear hck htx hz hpt hmi hrd
            go_wp2_with (first
              | (go_at_call 45; (with_reducible refine HC1.out.mono ?_); rintro e w10 ⟨rfl, hb10⟩; obtain ⟨⟨⟨y0, y1, y2⟩, y3, y4, y5⟩, y6, y7⟩ := HCV.out w10 hb10)
              | (go_at_call 40; (with_reducible refine (HP1.out _ hb10).mono ?_); rintro e w11 ⟨rfl, hb11⟩))
            exact ⟨⟨j + 1, by omega, by go_num, Lib.hid (HBL.out.trans ((hb10.trans (hb11.mono hb10.size)).mono HBL.out.size))⟩, by simp [intOf]; omega⟩
          · have HSM := Lib.hid ((tsame_any zeroT zeroT _ _ SV HLV.out HLV.out (by decide) (by decide)).mono fun e w' ⟨he, hb⟩ => (⟨he.trans (by rw [(same_iff _ _).2 rfl]), hb⟩ : e = Ending.returned (.bool true) ∧ Below SV.heap.size SV w'))
            unfold Tl.v zeroT at HSM
            unfold zeroT at v0 v1 v2
            simp only [Tl.sym, Tl.prod, Tl.a, Tl.c, Tl.kids, List.length_nil] at v0 v1 v2 HSM
            clear hrd
            go_wp2_with (go_at_call 43; refine HSM.out.mono ?_; rintro e w10 ⟨rfl, hb10⟩)
            exact ⟨⟨j + 1, by omega, by go_num, Lib.hid (HBL.out.trans (hb10.mono HBL.out.size))⟩, by simp [intOf]; omega⟩
        · have e1 : ¬ (j : Int) < 2 := by omega
          have HBQ := Lib.hid hbr
          clear hqr hbr
          go_wp2_with (go_at_call 46; refine (HWK.out _).mono ?_; rintro e w9 ⟨rfl, hb9⟩)
          go_ret
          exact ⟨rfl, HBT.out.trans ((HBQ.out.trans (hb9.mono HBQ.out.size)).mono HBT.out.size)⟩
end Go.Proofs.Ytflfmcikfiaoiaa

namespace Go.Proofs.Ytflfmcikfiaoiaa
open Go.RowKit

theorem wf_u8P {x : Int} (h : (Lit.int .u8 x).wf = true) : 0 ≤ x ∧ x ≤ 255 := by
  simp [Lit.wf, IntKind.min, IntKind.max, IntKind.signed, IntKind.bits] at h
  omega
theorem treeParses_row (x : RawX) (a : Option Addr) (len cap : Nat) (zs : List Int) (deep cut at_ c : Int) (raw : ByteArray) (w : World) (hx : RawAt w x) (hwd : RawWide x) (hr : IsRow .i64 w a len cap zs) (hcap : cap * 8 ≤ 140737488351232) (hcu : (Lit.int .i64 cut).wf = true) (haw : (Lit.int .i64 at_).wf = true) (hcw : (Lit.int .u8 c).wf = true) (hraw : raw.size ≤ maxLen) :
    Calls Try.prog 8 #[x.v, .slice a len cap, .int .i64 deep, .int .i64 cut, .int .i64 at_, .int .u8 c, .string raw] w fun e w' => e = .returned (.bool true) ∧ Below w.heap.size w w' :=
  treeParses_walk x a len cap zs deep cut at_ c raw w hx hwd hr hcap (wf_i64 hcu) (wf_i64 haw) (wf_u8P hcw) (by unfold maxLen at hraw; omega)

end Go.Proofs.Ytflfmcikfiaoiaa
