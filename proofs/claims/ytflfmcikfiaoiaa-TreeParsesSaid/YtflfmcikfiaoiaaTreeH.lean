/- Trees: which production makes of a symbol just its kids: the program's small functions ahead of reading: contracts over any world. -/
import Derived.Test.YtflfmcikfiaoiaaTreeB
import Derived.Deep.QuietTactic
import Derived.BigQuiet
set_option linter.unusedVariables false
namespace Go.Proofs.Ytflfmcikfiaoiaa
open Go.RowKit
open Doc

theorem derives1_any (x s p : Int) (a : Option Addr) (len c : Nat) (w : World) :
    Calls Try.prog 170 #[.int .i64 x, .agg #[.int .i64 s, .int .i64 p, .slice a len c]] w fun e w' => e = .returned (.bool (x == s)) ∧ Below w.heap.size w w' := by
  obtain ⟨hbS, hsS, q0⟩ := one_alloc w (.cells #[.int .i64 s, .int .i64 p, .slice a len c] 71)
  have HB := Lib.hid hbS
  have x0 := (blk_cell (i := 0) q0 rfl).1
  have l0 := heap_lt q0
  clear q0 hbS
  go_enter Try.func170, Try.ntmps170
  go_wp2
  go_ret
  exact ⟨rfl, HB.out⟩

set_option maxHeartbeats 1000000 in
theorem equalIT_any (x : List Int) (a : Option Addr) (ca : Nat) (P : Nat → Prop) (s p : Int) (b : Option Addr) (cb : Nat) (ks : List Tl) (w : World) (hx : Cells w a (nums x)) (hl : Lies P w (.mk s p b cb ks)) (hxl : x.length ≤ 1000000) (hkl : ks.length ≤ 1000000) :
    Calls Try.prog 169 #[.slice a x.length ca, .slice b ks.length cb, .func (.func 170) #[] #[]] w fun e w' => e = .returned (.bool (decide (x = ks.map Tl.sym))) ∧ Below w.heap.size w w' := by
  have HX := Lib.hid hx
  have HL := Lib.hid hl
  clear hx hl
  by_cases hlen : x.length = ks.length
  · have hlb : ((x.length : Int) != (ks.length : Int)) = false := by simp [hlen]
    have HLE := Lib.hid hlen
    clear hlen
    go_enter Try.func169, Try.ntmps169
    go_wp2
    go_loopw [17] (fun i wr => ∃ k : Nat, k ≤ x.length ∧ i = .int .i64 k ∧ Below w.heap.size w wr ∧ Hid (∀ j, j < k → x[j]? = (ks.map Tl.sym)[j]?)) (fun i _ => x.length - (intOf i).toNat)
    case atStart => exact ⟨0, Nat.zero_le _, rfl, Below.refl _ _, Lib.hid (by intro j hj; omega)⟩
    case round =>
      obtain ⟨k, hk, rfl, hbe, HR⟩ := hrel
      by_cases hlt : k < x.length
      · obtain ⟨u, hu⟩ : ∃ u, x[k]? = some u := ⟨_, List.getElem?_eq_getElem hlt⟩
        obtain ⟨kt, hkt⟩ : ∃ kt, ks[k]? = some kt := ⟨_, List.getElem?_eq_getElem (by have := HLE.out; omega)⟩
        obtain ⟨b1, o1, rfl, hb1, hc1⟩ := (HX.out.below hbe).get (by unfold nums; intro e; rw [List.map_eq_nil_iff] at e; rw [e] at hlt; simp at hlt)
        obtain ⟨b2, o2, rfl, hb2, _, d0, d1, d2⟩ := kid_at (HL.out.under hbe) hkt
        have c0 := hc1 k _ (nums_at hu)
        have e1 : (k : Int) < x.length := by omega
        have e2 : (k : Int) < ks.length := by have := HLE.out; omega
        have gk : (ks.map Tl.sym)[k]? = some kt.sym := by rw [List.getElem?_map, hkt]; rfl
        have HU := Lib.hid hu
        have HGK := Lib.hid gk
        have HBE := Lib.hid hbe
        have hbA := box_belowT wr (.cells #[.int .i64 kt.sym, .int .i64 kt.prod, .slice kt.a kt.kids.length kt.c] 71)
        have HBA := Lib.hid (hbe.trans (hbA.mono hbe.size))
        clear hc1 hu hkt gk hbe hbA
        obtain ⟨ksy, kp, ka, kc, kk⟩ := kt
        simp only [Tl.sym, Tl.prod, Tl.a, Tl.c, Tl.kids] at *
        have HD := Lib.hid fun W => derives1_any u ksy kp ka kk.length kc W
        by_cases huv : u = ksy
        · subst huv
          have HR2 : Hid (∀ j, j < k + 1 → x[j]? = (ks.map Tl.sym)[j]?) := Lib.hid fun j hj => by
            by_cases hjk : j = k
            · subst hjk; rw [HU.out, HGK.out]
            · exact HR.out j (by omega)
          clear HR HGK HU
          go_wp2_with (go_at_call 170; refine (HD.out _).mono ?_; rintro e w2 ⟨rfl, hb2⟩)
          go_roundw
          case rel => exact ⟨k + 1, by omega, by go_num, HBA.out.trans (hb2.mono HBA.out.size), HR2⟩
          case measure => simp [intOf]; omega
        · have hbs : (u == ksy) = false := by simpa using huv
          have HN := Lib.hid (show decide (x = ks.map Tl.sym) = false by
            rw [decide_eq_false_iff_not]
            intro e
            have h1 := HU.out
            rw [e, HGK.out] at h1
            exact huv (Option.some.inj h1).symm)
          clear huv HR HGK HU
          go_wp2_with (go_at_call 170; refine (HD.out _).mono ?_; rintro e w2 ⟨rfl, hb2⟩)
          go_ret
          exact ⟨ret_bool HN.out.symm, HBA.out.trans (hb2.mono HBA.out.size)⟩
      · have HN := Lib.hid (show decide (x = ks.map Tl.sym) = true by
          rw [decide_eq_true_iff]
          apply List.ext_getElem?
          intro j
          by_cases hj : j < k
          · exact HR.out j hj
          · rw [List.getElem?_eq_none (by omega), List.getElem?_eq_none (by have := HLE.out; simp; omega)])
        have e1 : ¬ (k : Int) < x.length := by omega
        clear HR
        go_wp2
        go_ret
        exact ⟨ret_bool HN.out.symm, hbe⟩
  · have hlb : ((x.length : Int) != (ks.length : Int)) = true := by simp; omega
    have HN := Lib.hid (show decide (x = ks.map Tl.sym) = false by
      rw [decide_eq_false_iff_not]
      intro e
      have := congrArg List.length e
      simp only [List.length_map] at this
      exact hlen this)
    clear hlen
    go_enter Try.func169, Try.ntmps169
    go_wp2
    go_ret
    exact ⟨ret_bool HN.out.symm, Below.refl _ _⟩

theorem derP_tl (s : Int) (ks : List Tl) (q : Lay) : derP s (ks.map Tl.plain) q.plain = (q.left == s && decide (q.right = ks.map Tl.sym)) := by
  unfold derP
  have e : (ks.map Tl.plain).map Tr.sym = ks.map Tl.sym := by rw [List.map_map]; exact List.map_congr_left fun t _ => t.plain_sym
  show (decide (q.left = s) && decide (q.right = (ks.map Tl.plain).map Tr.sym)) = _
  rw [e]
  by_cases h : q.left = s <;> simp [h]

set_option maxHeartbeats 1000000 in
theorem derives_any (q : Lay) (P : Nat → Prop) (s p : Int) (b : Option Addr) (cb : Nat) (ks : List Tl) (w : World) (hq : Cells w q.addr (nums q.right)) (hl : Lies P w (.mk s p b cb ks)) (hxl : q.right.length ≤ 1000000) (hkl : ks.length ≤ 1000000) :
    Calls Try.prog 147 #[.agg #[.int .i64 q.left, .slice q.addr q.right.length q.cap], .agg #[.int .i64 s, .int .i64 p, .slice b ks.length cb]] w fun e w' => e = .returned (.bool (derP s (ks.map Tl.plain) q.plain)) ∧ Below w.heap.size w w' := by
  have HDP := Lib.hid (derP_tl s ks q)
  obtain ⟨hbS, hsS, q0, q1⟩ := twin_alloc w (.cells #[.int .i64 q.left, .slice q.addr q.right.length q.cap] 94) (.cells #[.int .i64 s, .int .i64 p, .slice b ks.length cb] 71)
  have HB := Lib.hid hbS
  have HE := Lib.hid (equalIT_any q.right q.addr q.cap P s p b cb ks _ (hq.below hbS) (hl.under hbS) hxl hkl)
  have x0 := (blk_cell (i := 0) q0 rfl).1
  have x1 := (blk_cell (i := 1) q0 rfl).1
  have y0 := (blk_cell (i := 0) q1 rfl).1
  have y1 := (blk_cell (i := 1) q1 rfl).1
  have y2 := (blk_cell (i := 2) q1 rfl).1
  have l0 := heap_lt q0
  have l1 := heap_lt q1
  obtain ⟨ql, qr, qa, qc⟩ := q
  simp only at *
  clear hq hl hbS q0 q1 hsS
  by_cases h : ql = s
  · have e0 : (ql == s) = true := beq_iff_eq.2 h
    have HD2 := Lib.hid (HDP.out.trans (by rw [e0, Bool.true_and]))
    clear h HDP
    go_enter Try.func147, Try.ntmps147
    go_wp2_with (go_at_call 169; refine HE.out.mono ?_; rintro e w2 ⟨rfl, hb2⟩)
    go_ret
    exact ⟨ret_bool HD2.out.symm, HB.out.trans (hb2.mono HB.out.size)⟩
  · have e0 : (ql == s) = false := beq_eq_false_iff_ne.2 h
    have HD2 := Lib.hid (HDP.out.trans (by rw [e0, Bool.false_and]))
    clear h HDP
    go_enter Try.func147, Try.ntmps147
    go_wp2
    go_ret
    exact ⟨ret_bool HD2.out.symm, HB.out⟩

set_option maxHeartbeats 1000000 in
theorem tree1_any (q : Lay) (P : Nat → Prop) (T : Nat) (s p : Int) (b : Option Addr) (cb : Nat) (ks : List Tl) (w : World) (hT : w.heap[T]? = some (.cells #[.int .i64 s, .int .i64 p, .slice b ks.length cb] 71)) (hq : Cells w q.addr (nums q.right)) (hl : Lies P w (.mk s p b cb ks)) (hxl : q.right.length ≤ 1000000) (hkl : ks.length ≤ 1000000) :
    Calls Try.prog 146 #[.agg #[.int .i64 q.left, .slice q.addr q.right.length q.cap], .pointer (some ⟨T, 0, none⟩)] w fun e w' => e = .returned (.bool (derP s (ks.map Tl.plain) q.plain)) ∧ Below w.heap.size w w' := by
  obtain ⟨hbS, hsS, q0⟩ := one_alloc w (.cells #[.int .i64 q.left, .slice q.addr q.right.length q.cap] 94)
  have HB := Lib.hid hbS
  have HE := Lib.hid (derives_any q P s p b cb ks _ (hq.below hbS) (hl.under hbS) hxl hkl)
  have hT2 := (hbS.block _ (heap_lt hT)).trans hT
  have x0 := (blk_cell (i := 0) q0 rfl).1
  have x1 := (blk_cell (i := 1) q0 rfl).1
  have y0 := (blk_cell (i := 0) hT2 rfl).1
  have y1 := (blk_cell (i := 1) hT2 rfl).1
  have y2 := (blk_cell (i := 2) hT2 rfl).1
  have l0 := heap_lt q0
  have l1 := heap_lt hT2
  obtain ⟨ql, qr, qa, qc⟩ := q
  simp only at *
  clear hq hl hbS q0 hT hT2 hsS
  go_enter Try.func146, Try.ntmps146
  go_wp2_with (go_at_call 147; refine HE.out.mono ?_; rintro e w2 ⟨rfl, hb2⟩)
  go_ret
  exact ⟨rfl, HB.out.trans (hb2.mono HB.out.size)⟩

theorem fidx_first {α : Type} {p : α → Bool} {l : List α} {k : Nat} {x : α} (hx : l[k]? = some x) (hp : p x = true) (hb : ∀ j y, j < k → l[j]? = some y → p y = false) : l.findIdx? p = some k := by
  have hl := (List.getElem?_eq_some_iff.1 hx).1
  rw [List.findIdx?_eq_some_iff_getElem]
  refine ⟨hl, ?_, fun j hj => ?_⟩
  · rw [(List.getElem?_eq_some_iff.1 hx).2]; exact hp
  · have := hb j l[j] hj (List.getElem?_eq_getElem (by omega))
    rw [this]; exact Bool.false_ne_true
theorem fidx_never {α : Type} {p : α → Bool} {l : List α} (hb : ∀ j y, j < l.length → l[j]? = some y → p y = false) : l.findIdx? p = none := by
  rw [List.findIdx?_eq_none_iff]
  intro x hx
  obtain ⟨j, hj, rfl⟩ := List.mem_iff_getElem.1 hx
  exact hb j _ hj (List.getElem?_eq_getElem hj)
def idxP (l : List (Int × List Int)) (s : Int) (ks : List Tr) : Int := match l.findIdx? (derP s ks) with | some k => k | none => -1
theorem idxP_some {l : List (Int × List Int)} {s : Int} {ks : List Tr} {k : Nat} (h : l.findIdx? (derP s ks) = some k) : idxP l s ks = k := by unfold idxP; rw [h]
theorem idxP_none {l : List (Int × List Int)} {s : Int} {ks : List Tr} (h : l.findIdx? (derP s ks) = none) : idxP l s ks = -1 := by unfold idxP; rw [h]

set_option maxHeartbeats 1000000 in
theorem indexTree_any (ls : List Lay) (a : Option Addr) (ca : Nat) (P : Nat → Prop) (T : Nat) (s p : Int) (b : Option Addr) (cb : Nat) (ks : List Tl) (w : World) (ha : Cells w a (lays ls)) (hll : ls.length ≤ 1000000)
    (hT : w.heap[T]? = some (.cells #[.int .i64 s, .int .i64 p, .slice b ks.length cb] 71)) (hq : ∀ q ∈ ls, Cells w q.addr (nums q.right) ∧ q.right.length ≤ 1000000) (hl : Lies P w (.mk s p b cb ks)) (hkl : ks.length ≤ 1000000) :
    Calls Try.prog 145 #[.slice a ls.length ca, .func (.func 146) #[] #[.pointer (some ⟨T, 0, none⟩)]] w fun e w' => e = .returned (.int .i64 (idxP (ls.map Lay.plain) s (ks.map Tl.plain))) ∧ Below w.heap.size w w' := by
  have HA := Lib.hid ha
  have HT := Lib.hid hT
  have HQ := Lib.hid hq
  have HL := Lib.hid hl
  clear ha hT hq hl
  go_enter Try.func145, Try.ntmps145
  go_wp2
  go_loopw [8] (fun i wr => ∃ k : Nat, k ≤ ls.length ∧ i = .int .i64 k ∧ Below w.heap.size w wr ∧ Hid (∀ j y, j < k → (ls.map Lay.plain)[j]? = some y → derP s (ks.map Tl.plain) y = false)) (fun i _ => ls.length - (intOf i).toNat)
  case atStart => exact ⟨0, Nat.zero_le _, rfl, Below.refl _ _, Lib.hid (by intro j y hj; omega)⟩
  case round =>
    obtain ⟨k, hk, rfl, hbe, HR⟩ := hrel
    by_cases hlt : k < ls.length
    · obtain ⟨q, hq⟩ : ∃ q, ls[k]? = some q := ⟨_, List.getElem?_eq_getElem hlt⟩
      have hqm := HQ.out q (List.mem_of_getElem? hq)
      obtain ⟨b3, o3, rfl, hb3, hc3⟩ := (HA.out.below hbe).get (by intro e; have := (lays_at ls k q hq).1; rw [e] at this; simp at this)
      have y0 := hc3 _ _ (lays_at ls k q hq).1
      have y1 := hc3 _ _ (lays_at ls k q hq).2
      rw [← Nat.add_assoc] at y1
      have e1 : (k : Int) < ls.length := by omega
      have gq : (ls.map Lay.plain)[k]? = some q.plain := by rw [List.getElem?_map, hq]; rfl
      have HC := Lib.hid (tree1_any q P T s p b cb ks wr ((hbe.block _ (heap_lt HT.out)).trans HT.out) (hqm.1.below hbe) (HL.out.under hbe) hqm.2 hkl)
      have HGQ := Lib.hid gq
      have HBE := Lib.hid hbe
      clear hc3 hqm gq hbe hq
      obtain ⟨ql, qr, qa, qc⟩ := q
      simp only at *
      cases hd : derP s (ks.map Tl.plain) (Lay.mk ql qr qa qc).plain with
      | true =>
        rw [hd] at HC
        have HF := Lib.hid (idxP_some (fidx_first HGQ.out hd HR.out))
        clear hd HR HGQ
        go_wp2_with (go_at_call 146; refine HC.out.mono ?_; rintro e w2 ⟨rfl, hb2⟩)
        go_ret
        exact ⟨by rw [HF.out]; rfl, HBE.out.trans (hb2.mono HBE.out.size)⟩
      | false =>
        rw [hd] at HC
        have HR2 : Hid (∀ j y, j < k + 1 → (ls.map Lay.plain)[j]? = some y → derP s (ks.map Tl.plain) y = false) := Lib.hid fun j y hj hy => by
          by_cases hjk : j = k
          · subst hjk
            rw [HGQ.out] at hy
            rw [← Option.some.inj hy]; exact hd
          · exact HR.out j y (by omega) hy
        clear hd HR HGQ
        go_wp2_with (go_at_call 146; refine HC.out.mono ?_; rintro e w2 ⟨rfl, hb2⟩)
        go_roundw
        case rel => exact ⟨k + 1, by omega, by go_num, HBE.out.trans (hb2.mono HBE.out.size), HR2⟩
        case measure => simp [intOf]; omega
    · have HF := Lib.hid (idxP_none (fidx_never (l := ls.map Lay.plain) (p := derP s (ks.map Tl.plain)) fun j y hj hy => HR.out j y (by rw [List.length_map] at hj; omega) hy))
      have e1 : ¬ (k : Int) < ls.length := by omega
      clear HR
      go_wp2
      go_ret
      exact ⟨by rw [HF.out]; rfl, hbe⟩

end Go.Proofs.Ytflfmcikfiaoiaa
