/- The document's own least words: walked. -/
import Derived.Test.YtflfmcikfiaoiaaWordsS
import Derived.Test.YtflfmcikfiaoiaaWordL
import Derived.Test.YtflfmcikfiaoiaaWPartF
import Derived.Test.YtflfmcikfiaoiaaAppAll
import Derived.Test.YtflfmcikfiaoiaaRLess
import Derived.Test.YtflfmcikfiaoiaaRReach
import Derived.Deep.Cut
import Derived.Deep.CutRange
set_option linter.unusedVariables false
namespace Go.Proofs.Ytflfmcikfiaoiaa
open Go.RowKit
open Doc

def knV (p : WL) : Value := .bool p.known
/-- Words, and whether there are any, as they lie. -/
structure WsAt (w : World) (WB HB : Nat) (ls : List WL) : Prop where
  q : w.heap[WB]? = some (.cells (ls.map slV).toArray 34)
  h : w.heap[HB]? = some (.cells (ls.map knV).toArray 4)
  r : ∀ p ∈ ls, Cells w p.addr (nums p.word)
  far : ∀ p ∈ ls, ∀ x, p.addr = some x → x.block ≠ WB ∧ x.block ≠ HB
  z : ∀ p ∈ ls, p.known = false → p.word = []
  ne : WB ≠ HB
theorem WsAt.keep {w w' : World} {WB HB : Nat} {ls : List WL} (h : WsAt w WB HB ls) (hb : Below w.heap.size w w') : WsAt w' WB HB ls :=
  ⟨(hb.block WB (heap_lt h.q)).trans h.q, (hb.block HB (heap_lt h.h)).trans h.h, fun p hp => (h.r p hp).below hb, h.far, h.z, h.ne⟩
theorem WsAt.cells {w : World} {WB HB : Nat} {ls : List WL} (h : WsAt w WB HB ls) {k : Nat} {p : WL} (hp : ls[k]? = some p) : w.cell? ⟨WB, k, none⟩ = some (.slice p.addr p.word.length p.cap) ∧ w.frozen? ⟨WB, k, none⟩ = false ∧ w.cell? ⟨HB, k, none⟩ = some (.bool p.known) ∧ w.frozen? ⟨HB, k, none⟩ = false ∧ WB < w.heap.size ∧ HB < w.heap.size := by
  have h1 := blk_cell (i := k) (u := .slice p.addr p.word.length p.cap) h.q (by rw [List.getElem?_toArray, List.getElem?_map, hp]; rfl)
  have h2 := blk_cell (i := k) (u := .bool p.known) h.h (by rw [List.getElem?_toArray, List.getElem?_map, hp]; rfl)
  exact ⟨h1.1, h1.2, h2.1, h2.2, heap_lt h.q, heap_lt h.h⟩
theorem ws_zero (n : Nat) : (List.replicate n wl0).map slV = List.replicate n (Value.slice none 0 0) ∧ (List.replicate n wl0).map knV = List.replicate n (Value.bool false) := by
  constructor <;> simp [wl0, slV, knV]
theorem ws_start {w : World} {WB HB n : Nat} (h1 : w.heap[WB]? = some (.cells (Array.replicate n (Value.slice none 0 0)) 34)) (h2 : w.heap[HB]? = some (.cells (bs n 0).toArray 4)) (hne : WB ≠ HB) : WsAt w WB HB (List.replicate n wl0) where
  q := by rw [(ws_zero n).1]; simpa using h1
  h := by rw [(ws_zero n).2, ← bs_zero]; exact h2
  r := fun p hp => by obtain rfl := List.eq_of_mem_replicate hp; exact .inl rfl
  far := fun p hp x hx => by obtain rfl := List.eq_of_mem_replicate hp; cases hx
  z := fun p hp _ => by obtain rfl := List.eq_of_mem_replicate hp; rfl
  ne := hne
theorem WsAt.put {w : World} {WB HB : Nat} {ls : List WL} (h : WsAt w WB HB ls) {k : Nat} (hk : k < ls.length) {x : List Int} {a : Option Addr} {c : Nat} (hc : Cells w a (nums x)) (hf : ∀ y, a = some y → y.block ≠ WB ∧ y.block ≠ HB) :
    WsAt ((w.setCell ⟨WB, k, none⟩ (.slice a x.length c)).setCell ⟨HB, k, none⟩ (.bool true)) WB HB (ls.set k ⟨x, true, a, c⟩) := by
  have hq1 : (w.setCell ⟨WB, k, none⟩ (.slice a x.length c)).heap[WB]? = some (.cells ((ls.set k ⟨x, true, a, c⟩).map slV).toArray 34) := by
    rw [heap_set w WB k _ _ _ h.q (by simp; exact hk)]
    simp only [Array.set!_eq_setIfInBounds, List.setIfInBounds_toArray, List.map_set]
    rfl
  have hh1 : (w.setCell ⟨WB, k, none⟩ (.slice a x.length c)).heap[HB]? = some (.cells (ls.map knV).toArray 4) := (Below.heap_setCell _ _ _ _ (Ne.symm h.ne)).trans h.h
  have hfar : ∀ p ∈ ls.set k ⟨x, true, a, c⟩, ∀ y, p.addr = some y → y.block ≠ WB ∧ y.block ≠ HB := fun p hp y hy => by
    rcases List.mem_or_eq_of_mem_set hp with hm | rfl
    · exact h.far p hm y hy
    · exact hf y hy
  have keepc : ∀ (a' : Option Addr) (xs : List Value), Cells w a' xs → (∀ y, a' = some y → y.block ≠ WB ∧ y.block ≠ HB) → Cells ((w.setCell ⟨WB, k, none⟩ (.slice a x.length c)).setCell ⟨HB, k, none⟩ (.bool true)) a' xs := fun a' xs hc' hf' => by
    rcases hc' with h0 | ⟨b, off, e, hl, hcc⟩
    · exact .inl h0
    · have hn := hf' _ e
      refine .inr ⟨b, off, e, by simp [World.setCell]; exact hl, fun j u hj => ?_⟩
      exact (World.cell?_of_block (a := ⟨b, off + j, none⟩) ((Below.heap_setCell _ _ _ _ hn.2).trans (Below.heap_setCell _ _ _ _ hn.1))).trans (hcc j u hj)
  refine ⟨(Below.heap_setCell _ _ _ _ h.ne).trans hq1, ?_, fun p hp => ?_, hfar, fun p hp hz => ?_, h.ne⟩
  · rw [heap_set _ HB k _ _ _ hh1 (by simp; exact hk)]
    simp only [Array.set!_eq_setIfInBounds, List.setIfInBounds_toArray, List.map_set]
    rfl
  · refine keepc _ _ ?_ (hfar p hp)
    rcases List.mem_or_eq_of_mem_set hp with hm | rfl
    · exact h.r p hm
    · exact hc
  · rcases List.mem_or_eq_of_mem_set hp with hm | rfl
    · exact h.z p hm hz
    · cases hz
/-- What is known is told by the world alone. -/
theorem ws_uniq {w : World} {WB HB : Nat} {ls ms : List WL} (h : WsAt w WB HB ls) (k : WsAt w WB HB ms) : ls = ms ∨ kn ls = kn ms := by
  refine .inr ?_
  have h1 := h.q.symm.trans k.q
  have h2 := h.h.symm.trans k.h
  simp only [Option.some.injEq, Obj.cells.injEq, and_true] at h1 h2
  replace h1 : ls.map slV = ms.map slV := congrArg Array.toList h1
  replace h2 : ls.map knV = ms.map knV := congrArg Array.toList h2
  have hl : ls.length = ms.length := by have := congrArg List.length h1; simpa using this
  unfold kn
  apply List.ext_getElem?
  intro i
  rw [List.getElem?_map, List.getElem?_map]
  by_cases hi : i < ls.length
  · obtain ⟨p, hp⟩ : ∃ p, ls[i]? = some p := ⟨_, List.getElem?_eq_getElem hi⟩
    obtain ⟨q, hq⟩ : ∃ q, ms[i]? = some q := ⟨_, List.getElem?_eq_getElem (by omega)⟩
    rw [hp, hq]
    have e1 := congrArg (fun l => l[i]?) h1
    have e2 := congrArg (fun l => l[i]?) h2
    simp only [List.getElem?_map, hp, hq, Option.map_some, Option.some.injEq] at e1 e2
    unfold slV at e1
    unfold knV at e2
    have ea : p.addr = q.addr := by injection e1
    have el : p.word.length = q.word.length := by injection e1
    have e2 : p.known = q.known := by injection e2
    have hw : p.word = q.word := by
      apply List.ext_getElem?
      intro j
      by_cases hj : j < p.word.length
      · obtain ⟨u, hu⟩ : ∃ u, p.word[j]? = some u := ⟨_, List.getElem?_eq_getElem hj⟩
        obtain ⟨v, hv⟩ : ∃ v, q.word[j]? = some v := ⟨_, List.getElem?_eq_getElem (by omega)⟩
        have hne : ∀ z : List Int, 0 < z.length → nums z ≠ [] := fun z hz e => by unfold nums at e; rw [List.map_eq_nil_iff] at e; rw [e] at hz; simp at hz
        obtain ⟨b1, o1, ha1, _, hc1⟩ := (h.r p (List.mem_of_getElem? hp)).get (hne _ (by omega))
        obtain ⟨b2, o2, ha2, _, hc2⟩ := (k.r q (List.mem_of_getElem? hq)).get (hne _ (by omega))
        rw [ea, ha2] at ha1
        cases ha1
        have c1 := hc1 j _ (nums_at hu)
        have c2 := hc2 j _ (nums_at hv)
        rw [c1] at c2
        cases c2
        rw [hu, hv]
      · rw [List.getElem?_eq_none (by omega), List.getElem?_eq_none (by omega)]
    unfold WL.opt
    simp only [Option.map_some, e2, hw]
  · rw [List.getElem?_eq_none (by omega), List.getElem?_eq_none (by omega)]
open Classical in
/-- How much there is left to fall, as the world has it. -/
noncomputable def massWs (M WB HB : Nat) (w : World) : Nat := if h : ∃ ls, WsAt w WB HB ls then Wd.massW M (kn h.choose) else 0
theorem massWs_eq {M WB HB : Nat} {w : World} {ls : List WL} (h : WsAt w WB HB ls) : massWs M WB HB w = Wd.massW M (kn ls) := by
  have hex : ∃ ls, WsAt w WB HB ls := ⟨ls, h⟩
  unfold massWs
  rw [dif_pos hex]
  rcases ws_uniq hex.choose_spec h with e | e
  · rw [e]
  · rw [e]
theorem ws_two1 (S1 : World) (n : Nat) : ∃ WB HB, Value.slice (some ⟨S1.heap.size + 1, 0, none⟩) n n = .slice (some ⟨WB, 0, none⟩) n n ∧ Value.slice (some ⟨S1.heap.size, 0, none⟩) n n = .slice (some ⟨HB, 0, none⟩) n n ∧
    Hid (WsAt ((S1.alloc (.cells (bs n 0).toArray 4)).alloc (.cells (Array.replicate n (Value.slice none 0 0)) 34)).drew WB HB (List.replicate n wl0)) ∧ S1.heap.size ≤ WB ∧ S1.heap.size ≤ HB ∧ Hid (Below S1.heap.size S1 ((S1.alloc (.cells (bs n 0).toArray 4)).alloc (.cells (Array.replicate n (Value.slice none 0 0)) 34)).drew) := by
  have hb := box_below S1 (.cells (bs n 0).toArray 4)
  have hb2 := box_below (S1.alloc (.cells (bs n 0).toArray 4)) (.cells (Array.replicate n (Value.slice none 0 0)) 34)
  have hs : (S1.alloc (.cells (bs n 0).toArray 4)).heap.size = S1.heap.size + 1 := by simp
  refine ⟨S1.heap.size + 1, S1.heap.size, rfl, rfl, Lib.hid (ws_start ?_ ?_ (by omega)), by omega, by omega, Lib.hid (below_drews (hb.trans (hb2.mono (B' := S1.heap.size) (by omega))) 1)⟩
  · have := heap_alloc_new (S1.alloc (.cells (bs n 0).toArray 4)) (.cells (Array.replicate n (Value.slice none 0 0)) 34)
    rw [hs] at this
    exact this
  · exact (hb2.block S1.heap.size (by omega)).trans (heap_alloc_new S1 _)
theorem ws_two2 (S1 : World) (n : Nat) : ∃ WB HB, Value.slice (some ⟨S1.heap.size, 0, none⟩) n n = .slice (some ⟨WB, 0, none⟩) n n ∧ Value.slice (some ⟨S1.heap.size + 1, 0, none⟩) n n = .slice (some ⟨HB, 0, none⟩) n n ∧
    Hid (WsAt ((S1.alloc (.cells (Array.replicate n (Value.slice none 0 0)) 34)).alloc (.cells (bs n 0).toArray 4)).drew WB HB (List.replicate n wl0)) ∧ S1.heap.size ≤ WB ∧ S1.heap.size ≤ HB ∧ Hid (Below S1.heap.size S1 ((S1.alloc (.cells (Array.replicate n (Value.slice none 0 0)) 34)).alloc (.cells (bs n 0).toArray 4)).drew) := by
  have hb := box_below S1 (.cells (Array.replicate n (Value.slice none 0 0)) 34)
  have hb2 := box_below (S1.alloc (.cells (Array.replicate n (Value.slice none 0 0)) 34)) (.cells (bs n 0).toArray 4)
  have hs : (S1.alloc (.cells (Array.replicate n (Value.slice none 0 0)) 34)).heap.size = S1.heap.size + 1 := by simp
  refine ⟨S1.heap.size, S1.heap.size + 1, rfl, rfl, Lib.hid (ws_start ?_ ?_ (by omega)), by omega, by omega, Lib.hid (below_drews (hb.trans (hb2.mono (B' := S1.heap.size) (by omega))) 1)⟩
  · exact (hb2.block S1.heap.size (by omega)).trans (heap_alloc_new S1 _)
  · have := heap_alloc_new (S1.alloc (.cells (Array.replicate n (Value.slice none 0 0)) 34)) (.cells (bs n 0).toArray 4)
    rw [hs] at this
    exact this

def WordsEnd (B : Nat) (g : Gr) (e : Ending) (w' : World) : Prop := ∃ WB HB ls, e = .returned (.tuple #[.slice (some ⟨WB, 0, none⟩) g.nons.length g.nons.length, .slice (some ⟨HB, 0, none⟩) g.nons.length g.nons.length]) ∧ WsAt w' WB HB ls ∧ kn ls = Wd.leastF g ∧ ls.length = g.nons.length
/-- A round of the words. -/
structure RoundW (M : Nat) (L0 L : Wd.Kn) (c : Bool) : Prop where
  same : c = false → L = L0
  less : c = true → Wd.massW M L < Wd.massW M L0

theorem rs_atW {rs : List WL} (hz : ∀ p ∈ rs, p.known = false → p.word = []) {i : Nat} {p : WL} (hp : rs[i]? = some p) : Wd.known (kn rs) i = p.opt ∧ (Wd.known (kn rs) i).getD [] = p.word ∧ (Wd.known (kn rs) i).isSome = p.known := by
  have e : Wd.known (kn rs) i = p.opt := by unfold Wd.known kn; rw [List.getElem?_map, hp]; rfl
  refine ⟨e, ?_, ?_⟩
  · rw [e]; unfold WL.opt
    cases h : p.known with
    | true => rfl
    | false => rw [hz p (List.mem_of_getElem? hp) h]; rfl
  · rw [e]; unfold WL.opt
    cases h : p.known <;> rfl
theorem kn_setW {rs : List WL} {i : Nat} {x : List Int} {a : Option Addr} {c : Nat} : kn (rs.set i ⟨x, true, a, c⟩) = (kn rs).set i (some x) := by
  unfold kn; rw [List.map_set]; rfl
theorem rowAll_le {L : Wd.Kn} {B : Nat} (hB : 1 ≤ B) (h : ∀ k w, Wd.known L k = some w → w.length ≤ B) : ∀ r : List Int, (Wd.rowAll L r).length ≤ r.length * B
  | [] => by simp [Wd.rowAll]
  | s :: r => by
    have ih := rowAll_le hB h r
    have e2 : Wd.rowAll L (s :: r) = Wd.partW L s ++ Wd.rowAll L r := by simp [Wd.rowAll]
    have h1 : (Wd.partW L s).length ≤ B := by
      unfold Wd.partW
      split
      · simpa using hB
      · cases hk : Wd.known L (s - 100).toNat with
        | none => simp
        | some w => exact h _ _ hk
    rw [e2, List.length_append, List.length_cons, Nat.add_mul, Nat.one_mul]
    omega
/-- A row is taken. -/
theorem roundW_put {M : Nat} {L0 : Wd.Kn} {rs : List WL} {cb : Bool} (h : RoundW M L0 (kn rs) cb) {i : Nat} {x : List Int} {a : Option Addr} {c : Nat} (hl : Wd.massW M ((kn rs).set i (some x)) < Wd.massW M (kn rs)) : RoundW M L0 (kn (rs.set i ⟨x, true, a, c⟩)) true := by
  refine ⟨fun h => (by cases h), fun _ => ?_⟩
  rw [kn_setW]
  cases cb
  · rw [h.same rfl] at hl ⊢; exact hl
  · have := h.less rfl; omega
theorem pow69 {L : Wd.Kn} {n : Nat} (hl : L.length = n) (hn : n ≤ 8) : 6 ^ (Wd.howMany L + 1) ≤ 10077696 ∧ 6 ^ Wd.howMany L ≤ 1679616 := by
  have h1 := Wd.many_le L
  exact ⟨Nat.le_trans (Nat.pow_le_pow_right (by decide) (show Wd.howMany L + 1 ≤ 9 by omega)) (by decide), Nat.le_trans (Nat.pow_le_pow_right (by decide) (show Wd.howMany L ≤ 8 by omega)) (by decide)⟩

set_option maxRecDepth 100000 in
set_option maxHeartbeats 32000000 in
theorem rwords_any (v : Value) (g : Gr) (w : World) (hg : GramAt w v g) (hck : CheckG g) :
    Calls Try.prog 38 #[v] w fun e w' => Below w.heap.size w w' ∧ WordsEnd w.heap.size g e w' := by
  obtain ⟨M, hM⟩ := Wd.code_top 10077696
  obtain ⟨a1, a2, a3, c1, c2, c3, ls, rfl, hp, k1, k2, k3, k4, k5, k6, k7⟩ := hg
  have hS := box_below w (.cells #[.slice a1 g.terms.length c1, .slice a2 g.nons.length c2, .slice a3 ls.length c3] 28)
  have q0 := heap_alloc_new w (.cells #[.slice a1 g.terms.length c1, .slice a2 g.nons.length c2, .slice a3 ls.length c3] 28)
  have H3 := Lib.hid (k3.below hS)
  have H4 := Lib.hid (fun p hp => (k4 p hp).below hS)
  have HP := Lib.hid hp
  have HS := Lib.hid hS
  have HQ0 := Lib.hid q0
  have HCK := Lib.hid hck
  have HMM := Lib.hid hM
  have ht8 := hck.t8
  have hn8 := hck.n8
  have hn1 := hck.n1
  have hp24 := hck.p24
  have l0 := heap_lt q0
  have hll : ls.length ≤ 24 := by have : ls.length = g.prods.length := by rw [← hp, List.length_map]
                                  omega
  have y1 := (blk_cell (i := 1) (u := .slice a2 g.nons.length c2) q0 rfl).1
  have hmk := fun W => make_bools g.nons.length (by omega) W
  have hmr := fun W => make_rows g.nons.length (by omega) W
  clear hp k1 k2 k3 k4 hS q0 hck hp24 hM
  go_enter Try.func38, Try.ntmps38
  go_upto_region 1 with fail
  generalize hS1 : w.alloc (.cells #[.slice a1 g.terms.length c1, .slice a2 g.nons.length c2, .slice a3 ls.length c3] 28) = S1 at *
  clear hS1
  go_cut [4, 5] from 14 to 21 (fun v4 v5 W => ∃ (WB HB : Nat), v4 = .slice (some ⟨WB, 0, none⟩) g.nons.length g.nons.length ∧ v5 = .slice (some ⟨HB, 0, none⟩) g.nons.length g.nons.length ∧ Hid (WsAt W WB HB (List.replicate g.nons.length wl0)) ∧ S1.heap.size ≤ WB ∧ S1.heap.size ≤ HB ∧ Hid (Below S1.heap.size S1 W))
  case first =>
    go_region
    all_goals
      go_wp2
      go_meet
      first | exact ws_two1 S1 _ | exact ws_two2 S1 _
  case rest =>
    obtain ⟨WB, HB, rfl, rfl, HW0, hWB, hHB, HB0⟩ := hcut
    rename World => W0
    go_upto_region 3 with fail
    go_loopw [6] (fun c wr => ∃ (cb : Bool) (rs : List WL), c = .bool cb ∧ rs.length = g.nons.length ∧ Hid (WsAt wr WB HB rs) ∧ Hid (Wd.GoodW g.prods (kn rs)) ∧ Hid (Below S1.heap.size S1 wr) ∧ Hid (cb = false → ∀ p ∈ g.prods, Wd.ClosedW (kn rs) p)) (fun c wr => 2 * massWs M WB HB wr + (match c with | .bool true => 1 | _ => 0))
    case atStart => exact ⟨true, List.replicate g.nons.length wl0, rfl, by simp, HW0, Lib.hid (by rw [kn0]; exact Wd.goodW_none _ _), HB0, Lib.hid fun h => by cases h⟩
    case round =>
      clear HW0 HB0
      obtain ⟨cb, rs0, rfl, hrl0, HWS0, HGD0, HBR, HCL⟩ := hrel
      cases cb
      · have hc := HCL.out rfl
        have HL := Lib.hid (Wd.closedW_least (n := g.nons.length) (by unfold kn; rw [List.length_map]; exact hrl0) HGD0.out hc)
        have HFIN := Lib.hid (HS.out.trans (HBR.out.mono (by omega)))
        have HRL := Lib.hid hrl0
        clear hc HCL hrl0
        go_wp2
        go_ret2
        exact ⟨HFIN.out, WB, HB, rs0, rfl, HWS0.out, HL.out.uniq (Wd.least_is (lefts_in HCK.out)), HRL.out⟩
      · clear HCL
        have hq := (HBR.out.block w.heap.size l0).trans HQ0.out
        have y2 := (blk_cell (i := 2) (u := .slice a3 ls.length c3) hq rfl).1
        have y3 := heap_lt hq
        have HR0 := Lib.hid hrl0
        clear hq hrl0
        go_upto_region 6 with fail
        go_loopw [6, 26] (fun c a wx => ∃ (cb : Bool) (k : Nat) (rs : List WL), k ≤ ls.length ∧ c = .bool cb ∧ a = .int .i64 k ∧ Hid (rs.length = g.nons.length) ∧ Hid (WsAt wx WB HB rs) ∧ Hid (Wd.GoodW g.prods (kn rs)) ∧ Hid (Below S1.heap.size S1 wx) ∧ Hid (RoundW M (kn rs0) (kn rs) cb) ∧ Hid (cb = false → ∀ (k' : Nat) p, k' < k → g.prods[k']? = some p → Wd.ClosedW (kn rs0) p)) (fun _ a _ => ls.length - (intOf a).toNat)
        case atStart => exact ⟨false, 0, rs0, by omega, rfl, rfl, HR0, HWS0, HGD0, HBR, Lib.hid ⟨fun _ => rfl, fun h => by cases h⟩, Lib.hid fun _ k' p hk => by omega⟩
        case round =>
          rename World => wx
          obtain ⟨cb, k, rs, hk, rfl, rfl, HRL, HWS, HGD, HBX, HRD, HCL⟩ := hrel
          by_cases hkl : k < ls.length
          · obtain ⟨p, hp⟩ : ∃ p, ls[k]? = some p := ⟨_, List.getElem?_eq_getElem hkl⟩
            obtain ⟨pl, pr, pa, pc⟩ := p
            have hpm := List.mem_of_getElem? hp
            obtain ⟨b3, o3, rfl, hb3, hc3⟩ := (H3.out.below HBX.out).get (by intro e; have := (lays_at ls k _ hp).1; rw [e] at this; simp at this)
            have x0 := hc3 _ _ (lays_at ls k _ hp).1
            have x1 := hc3 _ _ (lays_at ls k _ hp).2
            rw [← Nat.add_assoc] at x1
            simp only at x0 x1
            have e2 : (k : Int) < ls.length := by omega
            have hpp : g.prods[k]? = some (pl, pr) := by rw [← HP.out, List.getElem?_map, hp]; rfl
            have hpg := List.mem_of_getElem? hpp
            obtain ⟨⟨hpl1, hpl2⟩, hpr6, hps⟩ := HCK.out.pv _ hpg
            simp only at hpl1 hpl2 hpr6 hps
            have hsy : ∀ s ∈ pr, 0 ≤ s ∧ s < 100 + (g.nons.length : Int) := fun s hs => by
              have := hps s hs
              unfold symOk at this
              omega
            have HSY := Lib.hid hsy
            have HPP := Lib.hid hpp
            have HPG := Lib.hid hpg
            have hlk : (kn rs).length = g.nons.length := by unfold kn; rw [List.length_map]; exact HRL.out
            have HLK := Lib.hid hlk
            have HLE : Hid (∀ k w, Wd.known (kn rs) k = some w → w.length ≤ 1679616) := Lib.hid fun k w h => Nat.le_trans (HGD.out.len k w h) (pow69 hlk hn8).2
            have hbA := box_below wx (.cells #[.int .i64 pl, .slice pa pr.length pc] 94)
            have qA := heap_alloc_new wx (.cells #[.int .i64 pl, .slice pa pr.length pc] 94)
            have HBX2 := Lib.hid (HBX.out.trans (hbA.mono HBX.out.size))
            have HRR := Lib.hid ((H4.out _ hpm).below HBX2.out)
            have HWS2 := Lib.hid (HWS.out.keep hbA)
            have HQA := Lib.hid qA
            have z0 := (blk_cell (i := 0) (u := .int .i64 pl) qA rfl).1
            have z1 := (blk_cell (i := 1) (u := .slice pa pr.length pc) qA rfl).1
            have z2 := heap_lt qA
            have hWX : WB < wx.heap.size ∧ HB < wx.heap.size := ⟨heap_lt HWS.out.q, heap_lt HWS.out.h⟩
            have lX : wx.heap.size < (wx.alloc (.cells #[.int .i64 pl, .slice pa pr.length pc] 94)).heap.size := z2
            simp only at HRR
            clear hc3 hp hpp hpg hpm hps hsy hlk hbA qA
            go_upto_region 8 with fail
            generalize hX2 : wx.alloc (.cells #[.int .i64 pl, .slice pa pr.length pc] 94) = X2 at *
            clear hX2 x0 x1
            generalize wx.heap.size = PB at *
            go_upto_region 11 with fail
            go_loopw [9, 10, 33] (fun v ok j wy => ∃ (m : Nat) (u : List Int) (a : Option Addr) (c : Nat) (o : Bool), m ≤ pr.length ∧ j = .int .i64 m ∧ v = .slice a u.length c ∧ ok = .bool o ∧ Hid (u = Wd.rowAll (kn rs) (pr.take m)) ∧ Hid (o = Wd.okF (kn rs) (pr.take m)) ∧ Hid (wy.ownsRow X2.heap.size 3 1 (.slice a u.length c) u.length (nums u)) ∧ Hid (Below X2.heap.size X2 wy)) (fun _ _ j _ => pr.length - (intOf j).toNat)
            case atStart => exact ⟨0, [], none, 0, true, by omega, rfl, rfl, rfl, Lib.hid rfl, Lib.hid rfl, Lib.hid (World.ownsRow_nil _ _ _ _), Lib.hid (Below.refl _ _)⟩
            case round =>
              rename World => wy
              obtain ⟨m, u, a, c, o, hm, rfl, rfl, rfl, HU, HO, HOW, HBY⟩ := hrel
              have hul : u.length ≤ 10077696 := by
                rw [HU.out]
                have := rowAll_le (by decide) HLE.out (pr.take m)
                have h2 : (pr.take m).length ≤ 6 := by rw [List.length_take]; omega
                have h3 : (pr.take m).length * 1679616 ≤ 6 * 1679616 := Nat.mul_le_mul_right _ h2
                omega
              have hsz := HBY.out.size
              have hsX := HBX2.out.size
              by_cases hml : m < pr.length
              · obtain ⟨s, hs⟩ : ∃ s, pr[m]? = some s := ⟨_, List.getElem?_eq_getElem hml⟩
                obtain ⟨b2, o2, rfl, hb2, hc2⟩ := (HRR.out.below (HBY.out.mono (Nat.le_refl _))).get (by unfold nums; intro e; rw [List.map_eq_nil_iff] at e; rw [e] at hml; simp at hml)
                have u0 := hc2 m _ (nums_at hs)
                have e4 : (m : Int) < pr.length := by omega
                have HRS := Lib.hid (Wd.rowAll_snoc (L := kn rs) hs)
                have HOS := Lib.hid (Wd.okF_snoc (L := kn rs) hs)
                obtain ⟨hs1, hs2⟩ := HSY.out s (List.mem_of_getElem? hs)
                clear hc2 hs
                by_cases ht : s < 100
                · have HU2 : Hid (u ++ [s] = Wd.rowAll (kn rs) (pr.take (m + 1))) := Lib.hid (by rw [HRS.out, ← HU.out]; unfold Wd.partW; rw [if_pos ht])
                  have HO2 : Hid (o = Wd.okF (kn rs) (pr.take (m + 1))) := Lib.hid (by rw [HOS.out, ← HO.out]; simp [Wd.okS, ht])
                  go_wp2_with (at_builtin; refine wpList_app rfl (.tmp 39) (.tmp 41) rfl X2.heap.size a u.length c u rfl (HOW.out.alloc _) (by simp; omega) (some ⟨wy.heap.size, 0, none⟩) [s] 1 rfl (cells_new wy _ _) (by simp; omega) ?_; intro va vc w9 ho9 hg9)
                  have HB9 := Lib.hid ((HBY.out.alloc hsz (.cells #[.int .i64 s] 3)).grown hg9 (by simp; omega) (fun k hk => (own_block HOW.out hk).1))
                  exact ⟨⟨m + 1, u ++ [s], va, vc, o, by omega, by go_num, by simp, rfl, HU2, HO2, Lib.hid (by rw [List.length_append]; exact ho9), HB9⟩, by simp [intOf]; omega⟩
                · obtain ⟨i2, hi2⟩ := Int.eq_ofNat_of_zero_le (show 0 ≤ s - 100 by omega)
                  have hin2 : i2 < g.nons.length := by omega
                  obtain ⟨p2, hp2⟩ : ∃ p, rs[i2]? = some p := ⟨_, List.getElem?_eq_getElem (by rw [HRL.out]; exact hin2)⟩
                  have hwy := HWS2.out.keep HBY.out
                  obtain ⟨g1, g2, g3⟩ := rs_atW HWS.out.z hp2
                  have HPC := Lib.hid (hwy.r p2 (List.mem_of_getElem? hp2))
                  obtain ⟨t0, t1, t2, t3, t4, t5⟩ := hwy.cells hp2
                  have hpl : p2.word.length ≤ 1679616 := by
                    rw [← g2]
                    cases hk2 : Wd.known (kn rs) i2 with
                    | none => simp
                    | some w2 => exact HLE.out i2 w2 hk2
                  have hs100 : (s - 100).toNat = i2 := by rw [hi2]; rfl
                  have HU2 : Hid (u ++ p2.word = Wd.rowAll (kn rs) (pr.take (m + 1))) := Lib.hid (by rw [HRS.out, ← HU.out]; unfold Wd.partW; rw [if_neg ht, hs100, g2])
                  have HO2 : Hid ((o && p2.known) = Wd.okF (kn rs) (pr.take (m + 1))) := Lib.hid (by rw [HOS.out, ← HO.out]; unfold Wd.okS; rw [hs100, g3, decide_eq_false ht, Bool.false_or])
                  have hz2 : p2.known = false → p2.word = [] := HWS.out.z p2 (List.mem_of_getElem? hp2)
                  have e5 : (i2 : Int) < g.nons.length := by omega
                  obtain ⟨pw, pk, pa2, pc2⟩ := p2
                  simp only at t0 t2 HPC hpl HU2 HO2 hz2
                  clear hwy g1 g2 g3 hp2
                  cases pk
                  · obtain rfl := hz2 rfl
                    rw [List.append_nil] at HU2
                    rw [Bool.and_false] at HO2
                    go_wp2
                    exact ⟨⟨m + 1, u, a, c, false, by omega, by go_num, rfl, rfl, HU2, HO2, HOW, HBY⟩, by simp [intOf]; omega⟩
                  · rw [Bool.and_true] at HO2
                    go_wp2_with (at_builtin; refine wpList_app rfl (.tmp 48) (.tmp 53) rfl X2.heap.size a u.length c u rfl HOW.out hsz pa2 pw pc2 rfl HPC.out (by omega) ?_; intro va vc w9 ho9 hg9)
                    have HB9 := Lib.hid (HBY.out.grown hg9 hsz (fun k hk => (own_block HOW.out hk).1))
                    exact ⟨⟨m + 1, u ++ pw, va, vc, o, by omega, by go_num, by simp, rfl, HU2, HO2, Lib.hid (by rw [List.length_append]; exact ho9), HB9⟩, by simp [intOf]; omega⟩
              · have e4 : ¬ (m : Int) < pr.length := by omega
                have hUF : u = Wd.rowAll (kn rs) pr := by have := HU.out; rwa [List.take_of_length_le (by omega)] at this
                have hOF : o = Wd.okF (kn rs) pr := by have := HO.out; rwa [List.take_of_length_le (by omega)] at this
                have HBN := Lib.hid (HBX2.out.trans (HBY.out.mono hsX))
                have HWY := Lib.hid (HWS2.out.keep HBY.out)
                have HQY := Lib.hid ((HBY.out.block PB z2).trans HQA.out)
                have s0 := (blk_cell (i := 0) (u := .int .i64 pl) HQY.out rfl).1
                have s1 := heap_lt HQY.out
                clear z0 z1
                obtain ⟨i, hi⟩ := Int.eq_ofNat_of_zero_le (show 0 ≤ pl - 100 by omega)
                have hin : i < g.nons.length := by omega
                have hki : (pl - 100).toNat = i := by rw [hi]; rfl
                cases o with
                | false =>
                  have HC9 : Hid (cb = false → ∀ (k' : Nat) p, k' < k + 1 → g.prods[k']? = some p → Wd.ClosedW (kn rs0) p) := Lib.hid fun hcb k' p' hk' hp' => by
                    by_cases he : k' = k
                    · subst he
                      rw [HPP.out] at hp'; cases hp'
                      intro y hy
                      rw [← HRD.out.same hcb, Wd.row_is] at hy
                      simp only at hy
                      rw [← hOF, if_neg (by decide)] at hy
                      cases hy
                    · exact HCL.out hcb k' p' (by omega) hp'
                  clear hUF hOF
                  go_wp2
                  exact ⟨⟨cb, k + 1, rs, by omega, rfl, by go_num, HRL, HWY, HGD, HBN, HRD, HC9⟩, by simp [intOf]; omega⟩
                | true =>
                  have HRW : Hid (Wd.rowW (kn rs) pr = some u) := Lib.hid (by rw [Wd.row_is, ← hOF, if_pos rfl, hUF])
                  obtain ⟨p2, hp2⟩ : ∃ p, rs[i]? = some p := ⟨_, List.getElem?_eq_getElem (by rw [HRL.out]; exact hin)⟩
                  obtain ⟨g1, g2, g3⟩ := rs_atW HWS.out.z hp2
                  obtain ⟨t0, t1, t2, t3, t4, t5⟩ := HWY.out.cells hp2
                  have HPC := Lib.hid (HWY.out.r p2 (List.mem_of_getElem? hp2))
                  have hpl2' : p2.word.length ≤ 1679616 := by
                    rw [← g2]
                    cases hk2 : Wd.known (kn rs) i with
                    | none => simp
                    | some w2 => exact HLE.out i w2 hk2
                  have HDG := Lib.hid (Wd.rowW_dig HGD.out pr u (fun s hs => (HSY.out s hs).1) HRW.out)
                  have HCD := Lib.hid (HMM.out u HDG.out (Nat.le_trans (Wd.rowW_len HGD.out hpr6 HRW.out) (pow69 HLK.out hn8).1))
                  have HOC := Lib.hid (own_cells HOW.out).1
                  have HFA : Hid (∀ y, a = some y → y.block ≠ WB ∧ y.block ≠ HB) := Lib.hid fun y hy => by
                    subst hy
                    have h1 := (own_block HOW.out (g := y.block) rfl).1
                    omega
                  have e5 : (i : Int) < g.nons.length := by omega
                  have hrl2 : i < rs.length := by rw [HRL.out]; exact hin
                  have hGP : (Wd.known (kn rs) i = none ∨ ∃ w, Wd.known (kn rs) i = some w ∧ Wd.lessI u w = true) → Wd.GoodW g.prods (kn (rs.set i ⟨u, true, a, c⟩)) ∧ RoundW M (kn rs0) (kn (rs.set i ⟨u, true, a, c⟩)) true := fun h => by
                    rw [← hki] at h
                    have h1 := Wd.goodW_put HGD.out HPG.out hpl1 (by rw [HLK.out, hki]; exact hin) hpr6 (fun s hs => (HSY.out s hs).1) HRW.out h
                    have h2 := Wd.massW_put (M := M) HGD.out (p := (pl, pr)) (by rw [HLK.out]; simp only; rw [hki]; exact hin) (fun s hs => (HSY.out s hs).1) HRW.out HCD.out h
                    simp only at h1 h2
                    rw [hki] at h1 h2
                    exact ⟨by rw [kn_setW]; exact h1, roundW_put HRD.out h2⟩
                  have HGP := Lib.hid hGP
                  have HPT : Hid (∀ n, WsAt (((wy.drewN n).setCell ⟨WB, i, none⟩ (.slice a u.length c)).setCell ⟨HB, i, none⟩ (.bool true)) WB HB (rs.set i ⟨u, true, a, c⟩)) := Lib.hid fun n => by
                    have hb := below_drews (Below.refl wy.heap.size wy) n
                    exact (HWY.out.keep hb).put hrl2 (HOC.out.below hb) HFA.out
                  have HBS : Hid (∀ n, Below S1.heap.size S1 (((wy.drewN n).setCell ⟨WB, i, none⟩ (.slice a u.length c)).setCell ⟨HB, i, none⟩ (.bool true))) := Lib.hid fun n => ((below_drews HBN.out n).setCell (p := ⟨WB, i, none⟩) hWB _).setCell (p := ⟨HB, i, none⟩) hHB _
                  have hLR : (rs.set i ⟨u, true, a, c⟩).length = g.nons.length := by rw [List.length_set]; exact HRL.out
                  have HLR := Lib.hid hLR
                  have HC0 : Hid (true = false → ∀ (k' : Nat) p, k' < k + 1 → g.prods[k']? = some p → Wd.ClosedW (kn rs0) p) := Lib.hid fun h => by cases h
                  have hneW : WB ≠ HB := HWY.out.ne
                  have hneW2 : HB ≠ WB := Ne.symm hneW
                  obtain ⟨pw, pk, pa2, pc2⟩ := p2
                  simp only at t0 t2 HPC hpl2' g1 g2 g3
                  cases pk
                  · have hno : Wd.known (kn rs) i = none := by rw [g1]; rfl
                    have HG9 := Lib.hid (HGP.out (.inl hno))
                    clear hno g1 g2 g3 hUF hOF hGP hLR HOC hp2 hrl2
                    go_wp2
                    exact ⟨⟨true, k + 1, _, by omega, rfl, by go_num, HLR, Lib.hid (HPT.out 0), Lib.hid HG9.out.1, Lib.hid (HBS.out 0), Lib.hid HG9.out.2, HC0⟩, by simp [intOf]; omega⟩
                  · have hyes : Wd.known (kn rs) i = some pw := by rw [g1]; rfl
                    have HLL := Lib.hid (rless_any a pa2 c pc2 u pw wy HOC.out HPC.out (by omega) (by omega))
                    cases hb : Wd.lessI u pw with
                    | true =>
                      rw [hb] at HLL
                      have HG9 := Lib.hid (HGP.out (.inr ⟨pw, hyes, hb⟩))
                      clear hyes g1 g2 g3 hUF hOF hGP hLR HOC hp2 hrl2 hb
                      go_wp2_with (go_at_call 36; refine HLL.out.mono ?_; rintro e w9 ⟨rfl, n9, rfl⟩)
                      exact ⟨⟨true, k + 1, _, by omega, rfl, by go_num, HLR, Lib.hid (HPT.out n9), Lib.hid HG9.out.1, Lib.hid (HBS.out n9), Lib.hid HG9.out.2, HC0⟩, by simp [intOf]; omega⟩
                    | false =>
                      rw [hb] at HLL
                      have HC9 : Hid (cb = false → ∀ (k' : Nat) p, k' < k + 1 → g.prods[k']? = some p → Wd.ClosedW (kn rs0) p) := Lib.hid fun hcb k' p' hk' hp' => by
                        by_cases he : k' = k
                        · subst he
                          rw [HPP.out] at hp'; cases hp'
                          intro y hy
                          rw [← HRD.out.same hcb] at hy ⊢
                          simp only at hy ⊢
                          rw [HRW.out] at hy
                          cases hy
                          exact ⟨pw, by rw [hki]; exact hyes, hb⟩
                        · exact HCL.out hcb k' p' (by omega) hp'
                      have HBD : Hid (∀ n, WsAt (wy.drewN n) WB HB rs ∧ Below S1.heap.size S1 (wy.drewN n)) := Lib.hid fun n => ⟨HWY.out.keep (below_drews (Below.refl wy.heap.size wy) n), below_drews HBN.out n⟩
                      clear hyes g1 g2 g3 hUF hOF hGP hLR HOC hp2 hrl2 hb
                      go_wp2_with (go_at_call 36; refine HLL.out.mono ?_; rintro e w9 ⟨rfl, n9, rfl⟩)
                      exact ⟨⟨cb, k + 1, rs, by omega, rfl, by go_num, HRL, Lib.hid (HBD.out n9).1, HGD, Lib.hid (HBD.out n9).2, HRD, HC9⟩, by simp [intOf]; omega⟩
          · have e2 : ¬ (k : Int) < ls.length := by omega
            have hcl : cb = false → ∀ p ∈ g.prods, Wd.ClosedW (kn rs) p := fun h p hp => by
              obtain ⟨k', hk'⟩ := List.getElem?_of_mem hp
              have hl : k' < g.prods.length := (List.getElem?_eq_some_iff.1 hk').1
              have : ls.length = g.prods.length := by rw [← HP.out, List.length_map]
              rw [HRD.out.same h]
              exact HCL.out h k' p (by omega) hk'
            have HCN := Lib.hid hcl
            have HM1 := Lib.hid (massWs_eq (M := M) HWS0.out)
            have HM2 := Lib.hid (massWs_eq (M := M) HWS.out)
            clear hcl HCL
            go_wp2
            refine ⟨⟨cb, rs, rfl, HRL.out, HWS, HGD, HBX, HCN⟩, ?_⟩
            rw [HM1.out, HM2.out]
            cases cb
            · rw [HRD.out.same rfl]; simp
            · have := HRD.out.less rfl
              simp; omega
end Go.Proofs.Ytflfmcikfiaoiaa
