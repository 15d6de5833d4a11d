/- The document's own firsts of all nonterminals; ahead of something; as a set: walked. -/
import Derived.Test.YtflfmcikfiaoiaaRFirst
set_option linter.unusedVariables false
namespace Go.Proofs.Ytflfmcikfiaoiaa
open Go.RowKit
open Doc

theorem infoRowB : (Try.prog.info? 51).map (fun i => (i.zero, i.size, i.bytes)) = some (some (.slice none 0 0), 1, 24) := by kernel_rfl
theorem make_mat (n : Nat) (hn : n ≤ 1000) (w : World) : (Instr.makeSlice 47 (.int .i64 n) (.int .i64 n)).run Try.prog w = .ok (.slice (some ⟨w.heap.size, 0, none⟩) n n) (w.alloc (.cells (Array.replicate n (Value.slice none 0 0)) 51)) := by
  obtain ⟨i, hi, hz, h1, h2⟩ := info_of infoRowB
  have hr := run_make (P := Try.prog) w 47 51 i _ Try.underlying47 hi hz .i64 .i64 n n (by omega) (Int.le_refl _) (by rw [h2]; omega) (by omega)
  have e : madeCells (Value.cells (.slice none 0 0)) (n * 1) = Array.replicate n (Value.slice none 0 0) := by
    apply Array.ext'
    rw [show Value.cells (.slice none 0 0) = #[.slice none 0 0] from rfl, Nat.mul_one, toList_madeCells_one, Array.toList_replicate]
  rw [Int.toNat_natCast, h1, e] at hr
  exact hr
def rowV (t b : Nat) : Value := .slice (some ⟨b, 0, none⟩) (t + 1) (t + 1)
/-- The rows while they are made. -/
structure MadeAt (w : World) (mb t n : Nat) (bl : List Nat) : Prop where
  q : w.heap[mb]? = some (.cells (bl.map (rowV t) ++ List.replicate (n - bl.length) (Value.slice none 0 0)).toArray 51)
  r : ∀ b ∈ bl, BsAt w b (t + 1) 0
  nd : bl.Nodup
  far : ∀ b ∈ bl, mb < b
theorem MadeAt.put {w : World} {mb t n : Nat} {bl : List Nat} (h : MadeAt w mb t n bl) (hn : bl.length < n) : MadeAt ((w.setCell ⟨mb, bl.length, none⟩ (.slice (some ⟨w.heap.size, 0, none⟩) (t + 1) (t + 1))).alloc (.cells (bs (t + 1) 0).toArray 4)) mb t n (bl ++ [w.heap.size]) := by
  rw [← World.setCell_alloc_past (w := w) (.cells (bs (t + 1) 0).toArray 4) mb bl.length _ (heap_lt h.q), show Value.slice (some ⟨w.heap.size, 0, none⟩) (t + 1) (t + 1) = rowV t w.heap.size from rfl]
  have hmb := heap_lt h.q
  have hb := box_below w (.cells (bs (t + 1) 0).toArray 4)
  have hq1 := (hb.block mb hmb).trans h.q
  have hall : ∀ b ∈ bl, b < w.heap.size := fun b hb => heap_lt (h.r b hb)
  refine ⟨?_, fun b hbm => ?_, ?_, fun b hbm => ?_⟩
  · rw [heap_set _ mb bl.length _ _ _ hq1 (by simp; omega)]
    simp only [Array.set!_eq_setIfInBounds, List.setIfInBounds_toArray]
    congr 3
    rw [List.map_append, List.length_append, show n - bl.length = (n - (bl.length + 1)) + 1 by omega, List.replicate_succ, List.set_append_right _ _ (by simp)]
    simp [rowV]
  · have hne : b ≠ mb := by
      rcases List.mem_append.1 hbm with hm | hm
      · have := h.far b hm; omega
      · rw [List.mem_singleton] at hm; omega
    unfold BsAt
    rw [Below.heap_setCell _ _ _ _ hne]
    rcases List.mem_append.1 hbm with hm | hm
    · exact (hb.block b (hall b hm)).trans (h.r b hm)
    · rw [List.mem_singleton] at hm; subst hm
      exact heap_alloc_new w _
  · rw [List.nodup_append]
    refine ⟨h.nd, by simp, fun a ha b hb => ?_⟩
    rw [List.mem_singleton] at hb
    have := hall a ha
    omega
  · rcases List.mem_append.1 hbm with hm | hm
    · exact h.far b hm
    · rw [List.mem_singleton] at hm; omega
theorem MadeAt.mat {w : World} {mb t n : Nat} {bl : List Nat} (h : MadeAt w mb t n bl) (hn : bl.length = n) : MatAt w mb t bl (zerosF n) where
  q := by
    have := h.q
    rw [show n - bl.length = 0 by omega, List.replicate_zero, List.append_nil, show rowV t = fun b => Value.slice (some ⟨b, 0, none⟩) (t + 1) (t + 1) from rfl] at this
    exact this
  r := fun i b hi => by
    rw [zeros_get]
    exact h.r b (List.mem_of_getElem? hi)
  len := by simp [zerosF, hn]
  nd := fun i j b hi hj => by
    obtain ⟨hi1, hi2⟩ := List.getElem?_eq_some_iff.1 hi
    obtain ⟨hj1, hj2⟩ := List.getElem?_eq_some_iff.1 hj
    exact (List.getElem_inj h.nd).1 (hi2.trans hj2.symm)
  far := fun hm => Nat.lt_irrefl _ (h.far mb hm)
theorem MatAt.put {w : World} {mb t : Nat} {bl F : List Nat} (h : MatAt w mb t bl F) {li b j X : Nat} (hb : bl[li]? = some b) (hj : j < t + 1) (h1 : X.testBit j = true) (h2 : ∀ k, k ≠ j → X.testBit k = (F.getD li 0).testBit k) : MatAt (w.setCell ⟨b, j, none⟩ (.bool true)) mb t bl (F.set li X) where
  q := (Below.heap_setCell _ _ _ _ (fun e => h.far (by rw [show mb = b from e]; exact List.mem_of_getElem? hb))).trans h.q
  r := fun i b' hi => by
    rw [getD_set]
    have hli : li < F.length := by rw [← h.len]; exact (List.getElem?_eq_some_iff.1 hb).1
    by_cases e : li = i
    · subst e
      rw [hb] at hi; cases hi
      rw [if_pos ⟨rfl, hli⟩]
      exact (h.r li b hb).put hj true h1 h2
    · rw [if_neg (fun hh => e hh.1)]
      have hne : b' ≠ b := fun hh => e (h.nd li i b hb (hh ▸ hi))
      exact (Below.heap_setCell _ _ _ _ hne).trans (h.r i b' hi)
  len := by rw [List.length_set]; exact h.len
  nd := h.nd
  far := h.far
theorem cells_set {w : World} {a : Option Addr} {xs : List Value} (h : Cells w a xs) {p : Addr} (v : Value) (hn : ∀ x, a = some x → xs ≠ [] → x.block ≠ p.block) : Cells (w.setCell p v) a xs := by
  by_cases hx : xs = []
  · exact .inl hx
  · obtain ⟨b, off, e, hl, hc⟩ := h.get hx
    refine .inr ⟨b, off, e, by simp [World.setCell]; exact hl, fun j u hj => ?_⟩
    have hb := hn _ e hx
    exact (World.cell?_of_block (a := ⟨b, off + j, none⟩) (Below.heap_setCell _ _ _ _ hb)).trans (hc j u hj)
theorem asN_step_bit {O t : Nat} (h63 : t ≤ 63) (hb : O.testBit t = true) (Y : Nat) : (Y ||| asN O (t + 1)).testBit t = true ∧ ∀ k, k ≠ t → (Y ||| asN O (t + 1)).testBit k = (Y ||| asN O t).testBit k := by
  constructor
  · rw [Nat.testBit_or, asN_bit O _ _ (by omega), hb]; simp
  · intro k hk
    rw [Nat.testBit_or, Nat.testBit_or, asN_bit O _ _ (by omega), asN_bit O _ _ (by omega)]
    have : decide (k < t + 1) = decide (k < t) := decide_eq_decide.2 (by omega)
    rw [this]
theorem asN_skip {O t : Nat} (hb : O.testBit t = false) : asN O (t + 1) = asN O t := by
  show (if O.testBit t = true then _ else _) = _
  rw [hb]; rfl
theorem wrap_smallF {x : Int} (h1 : -9223372036854775808 ≤ x) (h2 : x ≤ 9223372036854775807) : IntKind.i64.wrap x = x := by
  rw [IntKind.wrap_i64]; omega
theorem set_set' (F : List Nat) (i a b : Nat) : (F.set i a).set i b = F.set i b := List.set_set ..

def MatEnd (B : Nat) (g : Gr) (F : List Nat) (e : Ending) (w' : World) : Prop := ∃ mb bl, e = .returned (.slice (some ⟨mb, 0, none⟩) g.nons.length g.nons.length) ∧ MatAt w' mb g.terms.length bl F ∧ B ≤ mb

set_option maxRecDepth 100000 in
set_option maxHeartbeats 16000000 in
theorem firsts_any (v : Value) (g : Gr) (w : World) (hg : GramAt w v g) (hck : CheckG g) :
    Calls Try.prog 23 #[v] w fun e w' => Below w.heap.size w w' ∧ MatEnd w.heap.size g (iterL (growF g.terms.length g.prods (rtrimL g)) (zerosF g.nons.length) (g.nons.length * (g.terms.length + 1) + 1)) e w' := by
  have hg0 := hg
  have hFI := rfru_is hck
  obtain ⟨a1, a2, a3, c1, c2, c3, ls, rfl, hp, k1, k2, k3, k4, k5, k6, k7⟩ := hg
  have hS := box_below w (.cells #[.slice a1 g.terms.length c1, .slice a2 g.nons.length c2, .slice a3 ls.length c3] 28)
  have q0 := heap_alloc_new w (.cells #[.slice a1 g.terms.length c1, .slice a2 g.nons.length c2, .slice a3 ls.length c3] 28)
  have HS := Lib.hid hS
  have HG := Lib.hid (hg0.below hS)
  have H3 := Lib.hid (k3.below hS)
  have H4 := Lib.hid (fun p hp => (k4 p hp).below hS)
  have HP := Lib.hid hp
  have HQ0 := Lib.hid q0
  have HCK := Lib.hid hck
  have ht8 := hck.t8
  have hn8 := hck.n8
  have hn1 := hck.n1
  have hp24 := hck.p24
  have l0 := heap_lt q0
  have y0 := (blk_cell (i := 0) (u := .slice a1 g.terms.length c1) q0 rfl).1
  have y1 := (blk_cell (i := 1) (u := .slice a2 g.nons.length c2) q0 rfl).1
  have y2 := (blk_cell (i := 2) (u := .slice a3 ls.length c3) q0 rfl).1
  have hll : ls.length ≤ 24 := by have : ls.length = g.prods.length := by rw [← hp, List.length_map]
                                  omega
  have HTR : Hid (∀ k ∈ rtrimL g, ∃ (j : Nat) (q : Int × List Int), g.prods[j]? = some q ∧ k = (j : Int)) := Lib.hid fun k hk => by
    unfold rtrimL at hk
    split at hk
    · obtain ⟨j, q, hj, _, e⟩ := (trimF_mem _ g.prods 0 k).1 hk
      exact ⟨j, q, hj, by rw [e]; simp⟩
    · cases hk
  have HTRL : Hid ((rtrimL g).length ≤ 24) := Lib.hid (by
    unfold rtrimL
    split
    · have := trimF_len (iterG (gsF bearI g.prods) 0 g.nons.length) g.prods 0; omega
    · simp)
  have hmk := fun W => mk_bools_at g.terms.length ht8 W
  have hmm := fun W => make_mat g.nons.length (by omega) W
  clear hg0 hp k1 k2 k3 k4 hS q0 hck hp24 hFI
  go_enter Try.func23, Try.ntmps23
  go_upto_region 1 with fail
  generalize hS1 : w.alloc (.cells #[.slice a1 g.terms.length c1, .slice a2 g.nons.length c2, .slice a3 ls.length c3] 28) = S1 at *
  clear hS1
  go_upto_region 3 with fail
  have hb1 := box_below S1 (.cells (Array.replicate g.nons.length (Value.slice none 0 0)) 51)
  have hM0 : MadeAt (S1.alloc (.cells (Array.replicate g.nons.length (Value.slice none 0 0)) 51)) S1.heap.size g.terms.length g.nons.length [] := ⟨by simpa using heap_alloc_new S1 _, by simp, by simp, by simp⟩
  have HB1 := Lib.hid hb1
  have HM0 := Lib.hid hM0
  clear hb1 hM0 y0 y1 y2
  generalize hS2 : S1.alloc (.cells (Array.replicate g.nons.length (Value.slice none 0 0)) 51) = S2 at *
  clear hS2
  generalize hMB : S1.heap.size = mb at *
  have HMB := Lib.hid hMB
  clear hMB
  have HK : Hid (∀ W, Below mb S1 W → (W.cell? ⟨w.heap.size, 0, none⟩ = some (.slice a1 g.terms.length c1) ∧ W.cell? ⟨w.heap.size, 1, none⟩ = some (.slice a2 g.nons.length c2) ∧ W.cell? ⟨w.heap.size, 2, none⟩ = some (.slice a3 ls.length c3)) ∧ w.heap.size < W.heap.size) := Lib.hid fun W hW => by
    have hq := (hW.block w.heap.size (by omega)).trans HQ0.out
    exact ⟨⟨(blk_cell (i := 0) (u := .slice a1 g.terms.length c1) hq rfl).1, (blk_cell (i := 1) (u := .slice a2 g.nons.length c2) hq rfl).1, (blk_cell (i := 2) (u := .slice a3 ls.length c3) hq rfl).1⟩, heap_lt hq⟩
  have HS1W : Hid (∀ W, Below mb S1 W → Below S1.heap.size S1 W) := Lib.hid fun W h => by rw [HMB.out]; exact h
  go_loopw [18] (fun i wr => ∃ bl : List Nat, bl.length ≤ g.nons.length ∧ i = .int .i64 bl.length ∧ Hid (MadeAt wr mb g.terms.length g.nons.length bl) ∧ Hid (Below mb S1 wr)) (fun i _ => g.nons.length - (intOf i).toNat)
  case atStart => exact ⟨[], by simp, rfl, HM0, HB1⟩
  case round =>
    obtain ⟨bl, hbl, rfl, HMA, HBL⟩ := hrel
    by_cases hlt : bl.length < g.nons.length
    · have e1 : (bl.length : Int) < g.nons.length := by omega
      obtain ⟨⟨y0, y1, y2⟩, y3⟩ := HK.out wr HBL.out
      have hmbl := heap_lt HMA.out.q
      have hc := blk_cell (i := bl.length) (u := .slice none 0 0) HMA.out.q (by rw [List.getElem?_toArray, List.getElem?_append_right (by simp)]; rw [List.length_map, Nat.sub_self, List.getElem?_replicate, if_pos (by omega)])
      have c0 := hc.1
      have c1 := hc.2
      have HN := Lib.hid (HMA.out.put hlt)
      have HBN := Lib.hid ((HBL.out.setCell (p := ⟨mb, bl.length, none⟩) (Nat.le_refl _) (.slice (some ⟨wr.heap.size, 0, none⟩) (g.terms.length + 1) (g.terms.length + 1))).alloc (by simp [World.setCell]; omega) (.cells (bs (g.terms.length + 1) 0).toArray 4))
      clear hc
      go_wp2
      exact ⟨⟨bl ++ [wr.heap.size], by simp; omega, by rw [List.length_append, List.length_singleton]; go_num, HN, HBN⟩, by simp [intOf]; omega⟩
    · have e1 : ¬ (bl.length : Int) < g.nons.length := by omega
      have hbn : bl.length = g.nons.length := by omega
      have HMT := Lib.hid (HMA.out.mat hbn)
      have HFAR := Lib.hid HMA.out.far
      have hbs : ∀ b ∈ bl, b < wr.heap.size := fun b hb => heap_lt (HMA.out.r b hb)
      have HBS := Lib.hid hbs
      obtain ⟨⟨y0, y1, y2⟩, y3⟩ := HK.out wr HBL.out
      have HTRC := Lib.hid (rtrim_any _ g wr (HG.out.below (HS1W.out _ HBL.out)) HCK.out)
      have hmbl := heap_lt HMA.out.q
      have HBN := Lib.hid hbn
      clear hbs hbn HMA
      have hT24 := HTRL.out
      generalize hT : rtrimL g = T at *
      have HTE := Lib.hid hT
      clear hT
      go_upto_region 8 with (go_at_call 22; refine HTRC.out.mono ?_; rintro e w2 ⟨hb2, ta, tc, rfl, hto⟩)
      have HTC := Lib.hid (own_cells hto).1
      have hta : ∀ x, ta = some x → nums T ≠ [] → ∀ b ∈ bl, x.block ≠ b := fun x hx hne b hb => by
        have h1 := HBS.out b hb
        have h2 := (hto.lt x.block (by rw [hx]; rfl)).1
        omega
      have HTA := Lib.hid hta
      have HM2 := Lib.hid (HMT.out.below hb2)
      have HB2 := Lib.hid (HBL.out.trans (hb2.mono (Nat.le_of_lt hmbl)))
      have hmul : IntKind.i64.wrap ((g.nons.length : Int) * ((g.terms.length : Int) + 1)) = ((g.nons.length * (g.terms.length + 1) : Nat) : Int) := by
        have h1 : g.nons.length * (g.terms.length + 1) ≤ 8 * 9 := Nat.mul_le_mul (by omega) (by omega)
        have h2 : ((g.nons.length : Int) * ((g.terms.length : Int) + 1)) = ((g.nons.length * (g.terms.length + 1) : Nat) : Int) := by push_cast; rfl
        rw [h2]
        exact wrap_smallF (by omega) (by omega)
      have hNN : g.nons.length * (g.terms.length + 1) ≤ 72 := Nat.mul_le_mul (show g.nons.length ≤ 8 by omega) (show g.terms.length + 1 ≤ 9 by omega)
      clear hto hb2 hta HMT HBL y0 y1 y2 y3 HTRC hmbl
      generalize hNE : g.nons.length * (g.terms.length + 1) = NN at *
      have HNE := Lib.hid hNE
      clear hNE
      go_upto_region 9 with fail
      go_loopw [6] (fun r wz => ∃ k : Nat, k ≤ NN + 1 ∧ r = .int .i64 k ∧ Hid (MatAt wz mb g.terms.length bl (iterL (growF g.terms.length g.prods T) (zerosF g.nons.length) k)) ∧ Hid (Below mb S1 wz) ∧ Hid (Cells wz ta (nums T))) (fun r _ => NN + 1 - (intOf r).toNat)
      case atStart => exact ⟨0, by omega, rfl, HM2, HB2, HTC⟩
      case round =>
        clear HM2 HB2 HTC
        rename World => wz
        obtain ⟨k, hk, rfl, HMZ, HBZ, HTZ⟩ := hrel
        obtain ⟨⟨y0, y1, y2⟩, y3⟩ := HK.out wz HBZ.out
        by_cases hkl : k ≤ NN
        · have e2 : (k : Int) ≤ (NN : Int) := by omega
          go_upto_region 12 with fail
          have HTL := Lib.hid (low_iter (t := g.terms.length) (by omega) (ps := g.prods) (l := T) (F := zerosF g.nons.length) (fun i j hj => by rw [zeros_get] at hj; simp at hj) k)
          have HLN : Hid ((iterL (growF g.terms.length g.prods T) (zerosF g.nons.length) k).length = g.nons.length) := Lib.hid (by rw [← HMZ.out.len]; exact HBN.out)
          have HNX : Hid (iterL (growF g.terms.length g.prods T) (zerosF g.nons.length) (k + 1) = growF g.terms.length g.prods T (iterL (growF g.terms.length g.prods T) (zerosF g.nons.length) k)) := Lib.hid rfl
          generalize iterL (growF g.terms.length g.prods T) (zerosF g.nons.length) k = F0 at *
          clear y0 y1 y2 y3
          go_loopw [46] (fun r wy => ∃ m : Nat, m ≤ T.length ∧ r = .int .i64 m ∧ Hid (MatAt wy mb g.terms.length bl (growF g.terms.length g.prods (T.take m) F0)) ∧ Hid (Below mb S1 wy) ∧ Hid (Cells wy ta (nums T))) (fun r _ => T.length - (intOf r).toNat)
          case atStart => exact ⟨0, by omega, rfl, HMZ, HBZ, HTZ⟩
          case round =>
            clear HMZ HBZ HTZ
            rename World => wy
            obtain ⟨m, hm, rfl, HMY, HBY, HTY⟩ := hrel
            by_cases hml : m < T.length
            · obtain ⟨x, hx⟩ : ∃ x, T[m]? = some x := ⟨_, List.getElem?_eq_getElem hml⟩
              obtain ⟨j, ⟨pl, pr⟩, hj, rfl⟩ := HTR.out x (List.mem_of_getElem? hx)
              obtain ⟨p, hp⟩ : ∃ p, ls[j]? = some p := by
                rw [← HP.out, List.getElem?_map] at hj
                obtain ⟨p, hp, _⟩ := Option.map_eq_some_iff.1 hj
                exact ⟨p, hp⟩
              have hpj : p.plain = (pl, pr) := by
                rw [← HP.out, List.getElem?_map, hp] at hj
                exact Option.some.inj hj
              obtain ⟨pl2, pr2, pa, pc⟩ := p
              unfold Lay.plain at hpj
              simp only [Prod.mk.injEq] at hpj
              obtain ⟨rfl, rfl⟩ := hpj
              have hjl : j < ls.length := (List.getElem?_eq_some_iff.1 hp).1
              have hpm := List.mem_of_getElem? hp
              have hSy := HS1W.out _ HBY.out
              obtain ⟨b3, o3, rfl, hb3, hc3⟩ := (H3.out.below hSy).get (by intro e; have := (lays_at ls j _ hp).1; rw [e] at this; simp at this)
              have x0 := hc3 _ _ (lays_at ls j _ hp).1
              have x1 := hc3 _ _ (lays_at ls j _ hp).2
              rw [← Nat.add_assoc] at x1
              simp only at x0 x1
              obtain ⟨b4, o4, hta4, hb4, hc4⟩ := HTY.out.get (by unfold nums; intro e; rw [List.map_eq_nil_iff] at e; rw [e] at hml; simp at hml)
              have u0 := hc4 m _ (nums_at hx)
              have e3 : (m : Int) < T.length := by omega
              have e4 : (j : Int) < ls.length := by omega
              have hpp : (pl2, pr2) ∈ g.prods := List.mem_of_getElem? hj
              obtain ⟨⟨hpl1, hpl2⟩, hpr6, hps⟩ := HCK.out.pv _ hpp
              simp only at hpl1 hpl2 hpr6 hps
              obtain ⟨⟨y0, y1, y2⟩, y3⟩ := HK.out wy HBY.out
              have hbA := box_below wy (.cells #[.int .i64 pl2, .slice pa pr2.length pc] 94)
              have qA := heap_alloc_new wy (.cells #[.int .i64 pl2, .slice pa pr2.length pc] 94)
              have HLM : Hid (LowF g.terms.length (growF g.terms.length g.prods (T.take m) F0)) := Lib.hid (low_grow (by omega) _ HTL.out)
              have HFN : Hid ((growF g.terms.length g.prods (T.take m) F0).length = g.nons.length) := Lib.hid (by rw [grow_len]; exact HLN.out)
              have HSTP : Hid (growF g.terms.length g.prods (T.take (m + 1)) F0 = (growF g.terms.length g.prods (T.take m) F0).set (pl2 - 100).toNat ((growF g.terms.length g.prods (T.take m) F0).getD (pl2 - 100).toNat 0 ||| ofF g.terms.length (growF g.terms.length g.prods (T.take m) F0) pr2 1)) := Lib.hid (by
                unfold growF
                rw [List.take_add_one, hx, Option.toList_some, List.foldl_append, List.foldl_cons, List.foldl_nil]
                show stepF _ _ _ (j : Int) = _
                unfold stepF
                rw [Int.toNat_natCast, hj])
              generalize growF g.terms.length g.prods (T.take m) F0 = F1 at *
              have hmby : mb < wy.heap.size := heap_lt HMY.out.q
              have HFO := Lib.hid (firstOf_any _ g mb bl F1 pa pc pr2 _ (HG.out.below (HS1W.out _ (HBY.out.alloc (Nat.le_of_lt hmby) (.cells #[.int .i64 pl2, .slice pa pr2.length pc] 94)))) HCK.out (HMY.out.below hbA) HFN.out HLM.out ((show Cells S1 pa (nums pr2) from H4.out _ hpm).below (hSy.trans (hbA.mono hSy.size))) (by omega) (fun s hs => by have := hps s hs; unfold symOk at this; omega))
              have HBA := Lib.hid (HBY.out.alloc (Nat.le_of_lt hmby) (.cells #[.int .i64 pl2, .slice pa pr2.length pc] 94))
              have HMA := Lib.hid (HMY.out.below hbA)
              have HTA2 := Lib.hid (HTY.out.below hbA)
              have HQA := Lib.hid qA
              obtain ⟨li, hli⟩ := Int.eq_ofNat_of_zero_le (show 0 ≤ pl2 - 100 by omega)
              have hlin : li < g.nons.length := by omega
              have hlit : (pl2 - 100).toNat = li := by omega
              rw [hlit] at HSTP
              obtain ⟨rb, hrb⟩ : ∃ rb, bl[li]? = some rb := ⟨_, List.getElem?_eq_getElem (by have := HBN.out; omega)⟩
              have HRB := Lib.hid hrb
              subst hta4
              have hPBl : wy.heap.size < (wy.alloc (.cells #[.int .i64 pl2, .slice pa pr2.length pc] 94)).heap.size := heap_lt qA
              have hrbw : rb < wy.heap.size := heap_lt (HMY.out.r li rb hrb)
              have z0 := (blk_cell (i := 0) (u := .int .i64 pl2) qA rfl).1
              have z1 := (blk_cell (i := 1) (u := .slice pa pr2.length pc) qA rfl).1
              clear hx hj hp hpm hSy hc3 hc4 hpp hps hbA qA HMY HTY HBY hlit hrb
              go_upto_region 15 with fail
              generalize hWA : wy.alloc (.cells #[.int .i64 pl2, .slice pa pr2.length pc] 94) = WA at *
              clear hWA
              generalize wy.heap.size = PB at *
              clear x0 x1 u0 y0 y1 y2 y3
              obtain ⟨⟨y0, y1, y2⟩, y3⟩ := HK.out WA HBA.out
              go_upto_region 16 with (go_at_call 29; refine HFO.out.mono ?_; rintro e w5 ⟨hb5, ob, rfl, hob, hobl⟩)
              have HM5 := Lib.hid (HMA.out.below hb5)
              have HB5 := Lib.hid (HBA.out.trans (hb5.mono (by omega)))
              have HT5 := Lib.hid (HTA2.out.below hb5)
              have HQ5 := Lib.hid ((hb5.block PB hPBl).trans HQA.out)
              have HOB := Lib.hid hob
              have HOL : Hid (LowB g.terms.length (ofF g.terms.length F1 pr2 1)) := Lib.hid (low_of (by omega) HLM.out _ _ (low_one _))
              have hobl2 : PB < ob := by omega
              have hlF : li < F1.length := by rw [HFN.out]; exact hlin
              have HSS : Hid (F1.set li (F1.getD li 0 ||| asN (ofF g.terms.length F1 pr2 1) 0) = F1) := Lib.hid (by
                show F1.set li (F1.getD li 0 ||| 0) = F1
                rw [Nat.or_zero]
                apply List.ext_getElem?
                intro q
                rw [List.getElem?_set]
                by_cases e : li = q
                · subst e
                  rw [if_pos rfl, if_pos hlF, List.getD_eq_getElem?_getD, List.getElem?_eq_getElem hlF]; rfl
                · rw [if_neg e])
              clear hb5 hob hobl HMA HBA HTA2 HQA HFO y0 y1 y2 y3 z0 z1
              generalize ofF g.terms.length F1 pr2 1 = O at *
              go_loopw [61] (fun r wx => ∃ q : Nat, q ≤ g.terms.length + 1 ∧ r = .int .i64 q ∧ Hid (MatAt wx mb g.terms.length bl (F1.set li (F1.getD li 0 ||| asN O q))) ∧ Hid (BsAt wx ob (g.terms.length + 1) O) ∧ Hid (Below mb S1 wx) ∧ Hid (Cells wx (some ⟨b4, o4, none⟩) (nums T)) ∧ Hid (wx.heap[PB]? = some (.cells #[.int .i64 pl2, .slice pa pr2.length pc] 94))) (fun r _ => g.terms.length + 1 - (intOf r).toNat)
              case atStart => exact ⟨0, by omega, rfl, Lib.hid (by rw [HSS.out]; exact HM5.out), HOB, HB5, HT5, HQ5⟩
              case round =>
                clear HM5 HOB HB5 HT5 HQ5
                rename World => wx
                obtain ⟨q, hq, rfl, HMX, HOX, HBX, HTX, HQX⟩ := hrel
                by_cases hql : q < g.terms.length + 1
                · have e5 : (q : Int) < (g.terms.length : Int) + 1 := by omega
                  have c1 := (HOX.out.cell (i := q) (by omega)).1
                  have c2 := heap_lt HOX.out
                  cases hbq : O.testBit q with
                  | false =>
                    rw [hbq] at c1
                    have HMN := HMX
                    rw [← asN_skip hbq] at HMN
                    clear hbq HMX
                    go_wp2
                    exact ⟨⟨q + 1, by omega, by go_num, HMN, HOX, HBX, HTX, HQX⟩, by simp [intOf]; omega⟩
                  | true =>
                    rw [hbq] at c1
                    obtain ⟨hs1, hs2⟩ := asN_step_bit (O := O) (t := q) (by omega) hbq (F1.getD li 0)
                    have hrow := HMX.out.r li rb HRB.out
                    have hgd : (F1.set li (F1.getD li 0 ||| asN O q)).getD li 0 = F1.getD li 0 ||| asN O q := by rw [getD_set, if_pos ⟨rfl, hlF⟩]
                    have hrc := hrow.cell (i := q) hql
                    have d0 := HMX.out.cell HRB.out
                    have d1 := hrc.1
                    have d2 := hrc.2
                    have d3 := heap_lt hrow
                    have d4 := heap_lt HMX.out.q
                    have hp := HMX.out.put (j := q) (X := F1.getD li 0 ||| asN O (q + 1)) HRB.out hql hs1 (fun k hk => by rw [hgd]; exact hs2 k hk)
                    rw [set_set'] at hp
                    have HMN := Lib.hid hp
                    have z0 := (blk_cell (i := 0) (u := .int .i64 pl2) HQX.out rfl).1
                    have z2 := heap_lt HQX.out
                    have HON := Lib.hid ((Below.heap_setCell wx ⟨rb, q, none⟩ (.bool true) ob (by show ob ≠ rb; omega)).trans HOX.out)
                    have HBN2 := Lib.hid (HBX.out.setCell (p := ⟨rb, q, none⟩) (Nat.le_of_lt (HFAR.out rb (List.mem_of_getElem? HRB.out))) (.bool true))
                    have HTN := Lib.hid (cells_set HTX.out (p := ⟨rb, q, none⟩) (.bool true) (fun x hx hne => HTA.out x hx hne rb (List.mem_of_getElem? HRB.out)))
                    have HQN := Lib.hid ((Below.heap_setCell wx ⟨rb, q, none⟩ (.bool true) PB (by show PB ≠ rb; omega)).trans HQX.out)
                    have e6 : (li : Int) < g.nons.length := by omega
                    clear hs1 hs2 hrow hgd hrc hp hbq
                    go_wp2
                    exact ⟨⟨q + 1, by omega, by go_num, HMN, HON, HBN2, HTN, HQN⟩, by simp [intOf]; omega⟩
                · have e5 : ¬ (q : Int) < (g.terms.length : Int) + 1 := by omega
                  obtain rfl : q = g.terms.length + 1 := by omega
                  have hfa : asN O (g.terms.length + 1) = O := asN_self (by omega) fun k hk => by have := HOL.out k hk; omega
                  rw [hfa, ← HSTP.out] at HMX
                  clear hfa
                  go_wp2
                  exact ⟨⟨m + 1, by omega, by go_num, HMX, HBX, HTX⟩, by simp [intOf]; omega⟩
            · have e3 : ¬ (m : Int) < T.length := by omega
              have hfull : T.take m = T := List.take_of_length_le (by omega)
              rw [hfull, ← HNX.out] at HMY
              go_wp2
              exact ⟨⟨k + 1, by omega, by go_num, HMY, HBY, HTY⟩, by simp [intOf]; omega⟩
        · have e2 : ¬ (k : Int) ≤ (NN : Int) := by omega
          obtain rfl : k = NN + 1 := by omega
          have HFIN := Lib.hid (HS.out.trans (HBZ.out.mono (by omega)))
          have hmw : w.heap.size ≤ mb := by omega
          go_wp2
          go_ret
          exact ⟨HFIN.out, mb, bl, rfl, by rw [HTE.out, HNE.out]; exact HMZ.out, hmw⟩
end Go.Proofs.Ytflfmcikfiaoiaa
