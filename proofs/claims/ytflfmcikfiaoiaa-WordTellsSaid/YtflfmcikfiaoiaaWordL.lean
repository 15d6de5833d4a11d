/- word: Least: walked. -/
import Derived.Test.YtflfmcikfiaoiaaWordT
import Derived.Test.YtflfmcikfiaoiaaReach
import Derived.Laws.MakeOwn
set_option linter.unusedVariables false
namespace Go.Proofs.Ytflfmcikfiaoiaa
open Go.RowKit
open Doc

def isNo : Value → Bool
  | .bool false => true
  | _ => false
/-- How many in a block are no. -/
def noW (b : Nat) (w : World) : Nat := match w.heap[b]? with
  | some (.cells cs _ _) => cs.toList.countP isNo
  | _ => 0
theorem no_wls : ∀ ls : List WL, (wls ls).countP isNo + Wd.howMany (kn ls) = ls.length
  | [] => rfl
  | p :: ls => by
    have ih := no_wls ls
    have e : wls (p :: ls) = .slice p.addr p.word.length p.cap :: .bool p.known :: wls ls := rfl
    have e2 : kn (p :: ls) = p.opt :: kn ls := rfl
    unfold Wd.howMany at *
    rw [e, e2, List.countP_cons, List.countP_cons, List.countP_cons, List.length_cons]
    unfold WL.opt
    cases p.known <;> simp [isNo] <;> omega
theorem no_lat {w : World} {B : Nat} {ls : List WL} (h : LAt w B ls) : noW B w = ls.length - Wd.howMany (kn ls) := by
  unfold noW
  rw [h.q]
  have := no_wls ls
  simp only
  omega
def wl0 : WL := ⟨[], false, none, 0⟩
theorem wls0 (n : Nat) : wls (List.replicate n wl0) = (List.replicate n [Value.slice none 0 0, .bool false]).flatten := by
  unfold wls
  induction n with
  | zero => rfl
  | succ n ih => rw [List.replicate_succ, List.replicate_succ, List.flatMap_cons, ih]; rfl
theorem kn0 (n : Nat) : kn (List.replicate n wl0) = Wd.none_ n := by
  unfold kn Wd.none_; rw [List.map_replicate]; rfl
theorem made_two (u v : Value) (n : Nat) : (madeCells #[u, v] (n * 2)).toList = (List.replicate n [u, v]).flatten := by
  induction n with
  | zero => simp [madeCells]
  | succ n ih =>
    rw [List.replicate_succ', List.flatten_append, ← ih]
    apply List.ext_getElem?
    intro j
    rw [List.getElem?_append]
    simp only [madeCells, Array.toList_map, Array.toList_range, List.length_map, List.length_range, List.getElem?_map]
    by_cases h : j < n * 2
    · rw [if_pos h, List.getElem?_range (by omega), List.getElem?_range h]
    · rw [if_neg h]
      by_cases h2 : j < (n + 1) * 2
      · rw [List.getElem?_range h2]
        rcases (show j = n * 2 ∨ j = n * 2 + 1 by omega) with rfl | rfl
        · simp
        · simp [Nat.add_mod]
      · rw [List.getElem?_eq_none (by simp; omega)]
        simp; omega
theorem infoW : (Try.prog.info? 119).map (fun i => (i.zero, i.size, i.bytes)) = some (some (.agg #[.slice none 0 0, .bool false]), 2, 32) := by kernel_rfl
theorem infoRow7 : (Try.prog.info? 34).map (fun i => (i.zero, i.size, i.bytes)) = some (some (.slice none 0 0), 1, 24) := by kernel_rfl
theorem make_leasts (n : Nat) (hn : n ≤ 1000) (w : World) : (Instr.makeSlice 116 (.int .i64 n) (.int .i64 n)).run Try.prog w = .ok (.slice (some ⟨w.heap.size, 0, none⟩) n n) (w.alloc (.cells (wls (List.replicate n wl0)).toArray 119)) := by
  obtain ⟨i, hi, hz, h1, h2⟩ := info_of infoW
  have hr := run_make (P := Try.prog) w 116 119 i _ Try.underlying116 hi hz .i64 .i64 n n (by omega) (Int.le_refl _) (by rw [h2]; omega) (by omega)
  have e : madeCells (Value.cells (.agg #[.slice none 0 0, .bool false])) (n * 2) = (wls (List.replicate n wl0)).toArray := by
    apply Array.ext'
    rw [wls0, show Value.cells (.agg #[.slice none 0 0, .bool false]) = #[.slice none 0 0, .bool false] from rfl, made_two]
  rw [Int.toNat_natCast, h1, e] at hr
  exact hr
theorem make_rows (n : Nat) (hn : n ≤ 1000) (w : World) : (Instr.makeSlice 22 (.int .i64 n) (.int .i64 n)).run Try.prog w = .ok (.slice (some ⟨w.heap.size, 0, none⟩) n n) (w.alloc (.cells (Array.replicate n (Value.slice none 0 0)) 34)) := by
  obtain ⟨i, hi, hz, h1, h2⟩ := info_of infoRow7
  have hr := run_make (P := Try.prog) w 22 34 i _ Try.underlying22 hi hz .i64 .i64 n n (by omega) (Int.le_refl _) (by rw [h2]; omega) (by omega)
  have e : madeCells (Value.cells (.slice none 0 0)) (n * 1) = Array.replicate n (Value.slice none 0 0) := by
    apply Array.ext'
    rw [show Value.cells (.slice none 0 0) = #[.slice none 0 0] from rfl, Nat.mul_one, toList_madeCells_one, Array.toList_replicate]
  rw [Int.toNat_natCast, h1, e] at hr
  exact hr
def slV (p : WL) : Value := .slice p.addr p.word.length p.cap
/-- Rows of words, as they are handed out. -/
structure OutAt (w : World) (b : Nat) (ls : List WL) : Prop where
  q : w.heap[b]? = some (.cells (ls.map slV).toArray 34)
  r : ∀ p ∈ ls, Cells w p.addr (nums p.word)
  z : ∀ p ∈ ls, p.known = false → p.word = []
theorem OutAt.below {w w' : World} {b : Nat} {ls : List WL} (h : OutAt w b ls) (hb : Below w.heap.size w w') : OutAt w' b ls :=
  ⟨(hb.block b (heap_lt h.q)).trans h.q, fun p hp => (h.r p hp).below hb, h.z⟩
theorem slV_step {ls : List WL} {i : Nat} {p : WL} (hp : ls[i]? = some p) : (((ls.take i).map slV) ++ List.replicate (ls.length - i) (Value.slice none 0 0)).toArray.set! i (.slice p.addr p.word.length p.cap) = (((ls.take (i + 1)).map slV) ++ List.replicate (ls.length - (i + 1)) (Value.slice none 0 0)).toArray := by
  have hi := (List.getElem?_eq_some_iff.1 hp).1
  rw [Array.set!_eq_setIfInBounds, List.setIfInBounds_toArray]
  congr 1
  rw [List.take_add_one, hp, show ls.length - i = (ls.length - (i + 1)) + 1 by omega, List.replicate_succ]
  rw [List.set_append_right _ _ (by simp; omega)]
  have e : i - (List.map slV (List.take i ls)).length = 0 := by simp; omega
  rw [e]
  simp [slV]

theorem sym_in {g : Gr} (h : CheckG g) : ∀ p ∈ g.prods, (100 ≤ p.1 ∧ p.1 < 100 + (g.nons.length : Int)) ∧ ∀ s ∈ p.2, -1000000 ≤ s ∧ s < 100 + (g.nons.length : Int) := fun p hp => by
  have h1 := h.pv p hp
  have ht := h.t8
  refine ⟨h1.1, fun s hs => ?_⟩
  have := h1.2.2 s hs
  unfold symOk at this
  omega
theorem lefts_in {g : Gr} (h : CheckG g) : Wd.LeftsIn g.prods g.nons.length := fun p hp => (sym_in h p hp).1
theorem pow6 {k n : Nat} (h : k ≤ n) (hn : n ≤ 9) : 6 ^ k ≤ 100000000 := Nat.le_trans (Nat.pow_le_pow_right (by decide) (Nat.le_trans h hn)) (by decide)

set_option maxRecDepth 100000 in
set_option maxHeartbeats 8000000 in
theorem least_any (v : Value) (g : Gr) (w : World) (hg : GramAt w v g) (hck : CheckG g) :
    Calls Try.prog 33 #[v] w fun e w' => Below w.heap.size w w' ∧ ∃ b ls, e = .returned (.tuple #[.slice (some ⟨b, 0, none⟩) g.nons.length g.nons.length, .int .i64 0]) ∧ kn ls = Wd.leastF g ∧ ls.length = g.nons.length ∧ OutAt w' b ls ∧ w.heap.size ≤ b := by
  have hg0 := hg
  obtain ⟨a1, a2, a3, c1, c2, c3, qs, rfl, hp, k1, k2, k3, k4, k5, k6, k7⟩ := hg
  have hS : Below w.heap.size w (w.alloc (.cells #[.slice a1 g.terms.length c1, .slice a2 g.nons.length c2, .slice a3 qs.length c3] 28)) := (Below.refl _ _).alloc (Nat.le_refl _) _
  have q0 := heap_alloc_new w (.cells #[.slice a1 g.terms.length c1, .slice a2 g.nons.length c2, .slice a3 qs.length c3] 28)
  have HCA := Lib.hid (check_calls _ g _ (hg0.below hS) hck)
  have HP := Lib.hid hp
  have HS := Lib.hid hS
  have HCK := Lib.hid hck
  have H3 := Lib.hid (k3.below hS)
  have H4 := Lib.hid (fun p hp => (k4 p hp).below hS)
  have hn8 := hck.n8
  have hql : qs.length = g.prods.length := by rw [← hp, List.length_map]
  have hq24 : qs.length ≤ 24 := by have := hck.p24; omega
  clear hg0 hS k1 k2 k3 k4 hp hck hql
  have hmk := fun W => make_leasts g.nons.length (by omega) W
  have hmr := fun W => make_rows g.nons.length (by omega) W
  go_enter Try.func33, Try.ntmps33
  generalize hS1 : w.alloc (.cells #[.slice a1 g.terms.length c1, .slice a2 g.nons.length c2, .slice a3 qs.length c3] 28) = S1 at *
  have l0 := heap_lt q0
  have y0 := (blk_cell (i := 0) (u := .slice a1 g.terms.length c1) q0 rfl).1
  have y1 := (blk_cell (i := 1) (u := .slice a2 g.nons.length c2) q0 rfl).1
  have y2 := (blk_cell (i := 2) (u := .slice a3 qs.length c3) q0 rfl).1
  have HQ0 := Lib.hid q0
  clear q0
  go_upto_region 4 with ((go_at_call 53; refine HCA.out.mono ?_; rintro e w2 ⟨rfl, hb2⟩))
  have HB2 := Lib.hid hb2
  have HQ2 := Lib.hid ((hb2.block w.heap.size l0).trans HQ0.out)
  have l2 := Nat.lt_of_lt_of_le l0 hb2.size
  have HS2 := Lib.hid (HS.out.trans (hb2.mono HS.out.size))
  clear y0 y1 y2 hb2 hS1
  have y1 := (blk_cell (i := 1) (u := .slice a2 g.nons.length c2) HQ2.out rfl).1
  go_upto_region 5 with fail
  clear hmk
  have HLA0 : Hid (LAt (w2.alloc (.cells (wls (List.replicate g.nons.length wl0)).toArray 119)) w2.heap.size (List.replicate g.nons.length wl0)) := Lib.hid ⟨heap_alloc_new _ _, (fun p hp hk => by rw [List.eq_of_mem_replicate hp] at hk; cases hk), fun p hp _ => List.eq_of_mem_replicate hp⟩
  have HB20 := Lib.hid ((Below.refl w2.heap.size w2).alloc (Nat.le_refl _) (.cells (wls (List.replicate g.nons.length wl0)).toArray 119))
  have HC3 := Lib.hid (H3.out.below HB2.out)
  have HC4 := Lib.hid fun p (hp : p ∈ qs) => (H4.out p hp).below HB2.out
  clear H3 H4 HB2 HCA y1
  generalize w2.alloc (.cells (wls (List.replicate g.nons.length wl0)).toArray 119) = S2 at *
  go_loopw [21] (fun _ wr => ∃ (k : Nat) (ls : List WL), ls.length = g.nons.length ∧ Hid (kn ls = Wd.iterW g.prods (Wd.none_ g.nons.length) k) ∧ Hid (∀ j, j < k → Wd.nextF g.prods (Wd.iterW g.prods (Wd.none_ g.nons.length) j) ≠ none) ∧ Hid (LAt wr w2.heap.size ls) ∧ Hid (Below w2.heap.size w2 wr)) (fun _ wr => noW w2.heap.size wr)
  case atStart => exact ⟨0, List.replicate g.nons.length wl0, by simp, Lib.hid (kn0 _), Lib.hid (fun j hj => by omega), HLA0, HB20⟩
  case round =>
    obtain ⟨k, ls, hln, HKN, HNE, HLA, HB⟩ := hrel
    have hq := (HB.out.block w.heap.size l2).trans HQ2.out
    have y2 := (blk_cell (i := 2) (u := .slice a3 qs.length c3) hq rfl).1
    have l3 := heap_lt hq
    have hin := sym_in HCK.out
    have hsh : ∀ k' v, Wd.nextF (qs.map Lay.plain) (kn ls) = some (k', v) → k' < ls.length ∧ v.length ≤ 100000000 := fun k' v h => by
      have hlen : (kn ls).length = g.nons.length := by unfold kn; rw [List.length_map, hln]
      rw [HP.out] at h
      have h1 := Wd.next_in (by rw [hlen]; exact lefts_in HCK.out) h
      refine ⟨by rw [hlen] at h1; omega, ?_⟩
      have h2 := Wd.many_iter (lefts_in HCK.out) k HNE.out
      have h3 := Wd.many_le (Wd.iterW g.prods (Wd.none_ g.nons.length) k)
      rw [h2, ← HKN.out, hlen] at h3
      have h4 := Wd.short_iter (lefts_in HCK.out) (fun p hp => (HCK.out.pv p hp).2.1) k
      obtain ⟨⟨p, hp, _, _, hw⟩, _⟩ := Wd.nextF_some h
      rw [HKN.out] at hw
      have h5 := Wd.rowW_short (Nat.pow_pos (by decide)) h4 hw (HCK.out.pv p hp).2.1
      have h6 := pow6 (k := k + 1) (n := 9) (by omega) (by omega)
      rw [Nat.pow_succ] at h6
      omega
    have HSE := Lib.hid (settle_any a3 c3 w2.heap.size qs ls wr (HC3.out.below HB.out) (fun q hq => ⟨(HC4.out q hq).below HB.out, by
      have := (HCK.out.pv q.plain (by rw [← HP.out]; exact List.mem_map_of_mem hq)).2.1
      have : q.right.length ≤ 6 := this
      omega⟩) (fun q hq => by rw [hln]; exact hin q.plain (by rw [← HP.out]; exact List.mem_map_of_mem hq)) HLA.out hsh (by omega) (by omega))
    rw [hln, HP.out] at HSE
    have hno := no_lat HLA.out
    have HNO := Lib.hid hno
    clear hq hin hsh hno
    cases hnx : Wd.nextF g.prods (kn ls) with
    | some kv =>
      rw [hnx] at HSE
      have HK1 : Hid (Wd.settleF g.prods (kn ls) = Wd.iterW g.prods (Wd.none_ g.nons.length) (k + 1)) := Lib.hid (by rw [HKN.out]; rfl)
      have HNE1 : Hid (∀ j, j < k + 1 → Wd.nextF g.prods (Wd.iterW g.prods (Wd.none_ g.nons.length) j) ≠ none) := Lib.hid fun j hj => by
        by_cases h : j = k
        · subst h; rw [← HKN.out, hnx]; simp
        · exact HNE.out j (by omega)
      clear hnx
      go_wp2_with (go_at_call 76; refine HSE.out.mono ?_; rintro e w3 ⟨rfl, hg3, ls3, hk3, hl3, hn3⟩)
      refine ⟨⟨k + 1, ls3, by omega, Lib.hid (hk3.trans HK1.out), HNE1, Lib.hid hl3, Lib.hid (HB.out.grown hg3 HB.out.size fun x hx => by have : w2.heap.size = x := Option.some.inj hx; omega)⟩, ?_⟩
      rw [no_lat hl3, HNO.out, hk3, HK1.out, HKN.out, Wd.many_iter (lefts_in HCK.out) _ HNE.out, Wd.many_iter (lefts_in HCK.out) _ HNE1.out]
      have h3 := Wd.many_le (Wd.iterW g.prods (Wd.none_ g.nons.length) (k + 1))
      rw [Wd.many_iter (lefts_in HCK.out) _ HNE1.out, Wd.iterW_len] at h3
      simp [Wd.none_] at h3
      omega
    | none =>
      rw [hnx] at HSE
      have HLF : Hid (Wd.settleF g.prods (kn ls) = Wd.leastF g) := Lib.hid (by
        have h1 := hnx
        rw [HKN.out] at h1
        rw [← (Wd.least_end (lefts_in HCK.out) HNE.out h1).1]
        unfold Wd.settleF
        rw [hnx, HKN.out]; rfl)
      clear hnx
      go_upto_region 7 with (go_at_call 76; refine HSE.out.mono ?_; rintro e w3 ⟨rfl, hg3, ls3, hk3, hl3, hn3⟩)
      have HK3 := Lib.hid (hk3.trans HLF.out)
      have HL3 := Lib.hid hl3
      have HB3 := Lib.hid (HB.out.grown hg3 HB.out.size fun x hx => by have : w2.heap.size = x := Option.some.inj hx; omega)
      have hn33 : ls3.length = g.nons.length := by omega
      clear hmr hg3 hl3 hk3 HSE hn3 hln HKN HNE HLA HB HNO HLF ls
      have HR0 : Hid ((w3.alloc (.cells (Array.replicate g.nons.length (Value.slice none 0 0)) 34)).heap[w3.heap.size]? = some (.cells (((ls3.take 0).map slV) ++ List.replicate (ls3.length - 0) (Value.slice none 0 0)).toArray 34)) := Lib.hid (by rw [heap_alloc_new, hn33]; simp)
      have HBR := Lib.hid ((Below.refl w3.heap.size w3).alloc (Nat.le_refl _) (.cells (Array.replicate g.nons.length (Value.slice none 0 0)) 34))
      generalize w3.alloc (.cells (Array.replicate g.nons.length (Value.slice none 0 0)) 34) = S3 at *
      go_wp2
      go_loopw [27] (fun i wx => ∃ j : Nat, j ≤ ls3.length ∧ i = .int .i64 j ∧ Hid (wx.heap[w3.heap.size]? = some (.cells (((ls3.take j).map slV) ++ List.replicate (ls3.length - j) (Value.slice none 0 0)).toArray 34)) ∧ Hid (Below w3.heap.size w3 wx)) (fun i _ => ls3.length - (intOf i).toNat)
      case atStart => exact ⟨0, by omega, rfl, HR0, HBR⟩
      case round =>
        rename World => wx
        obtain ⟨j, hj, rfl, HRB, HBX⟩ := hrel
        by_cases hjl : j < ls3.length
        · obtain ⟨p, hp⟩ : ∃ p, ls3[j]? = some p := ⟨_, List.getElem?_eq_getElem hjl⟩
          have hlx := HL3.out.keep (w' := wx) fun g hl => HBX.out.block g hl
          obtain ⟨x0, xf0⟩ := blk_cell (i := j * 2) (u := .slice p.addr p.word.length p.cap) hlx.q (by simpa using (wls_at ls3 j p hp).1)
          obtain ⟨x1, xf1⟩ := blk_cell (i := j * 2 + 1) (u := .bool p.known) hlx.q (by simpa using (wls_at ls3 j p hp).2)
          have x2 := heap_lt hlx.q
          have hgt : (((ls3.take j).map slV) ++ List.replicate (ls3.length - j) (Value.slice none 0 0))[j]? = some (Value.slice none 0 0) := by
            rw [List.getElem?_append_right (by simp; omega)]
            have e : j - (List.map slV (List.take j ls3)).length = 0 := by simp; omega
            rw [e, List.getElem?_replicate, if_pos (by omega)]
          have hbA := (Below.refl wx.heap.size wx).alloc (Nat.le_refl _) (.cells #[.slice p.addr p.word.length p.cap, .bool p.known] 119)
          have qA := heap_alloc_new wx (.cells #[.slice p.addr p.word.length p.cap, .bool p.known] 119)
          have l5 := heap_lt HRB.out
          have HRA := Lib.hid ((hbA.block _ l5).trans HRB.out)
          obtain ⟨r0, rf0⟩ := blk_cell (i := j) (u := .slice none 0 0) HRA.out (by simpa using hgt)
          have l6 := heap_lt HRA.out
          have z0 := (blk_cell (i := 0) (u := .slice p.addr p.word.length p.cap) qA rfl).1
          have z2 := heap_lt qA
          obtain ⟨r0', rf0'⟩ := blk_cell (i := j) (u := .slice none 0 0) HRB.out (by simpa using hgt)
          have HN : Hid (((wx.setCell ⟨w3.heap.size, j, none⟩ (.slice p.addr p.word.length p.cap)).alloc (.cells #[.slice p.addr p.word.length p.cap, .bool p.known] 119)).heap[w3.heap.size]? = some (.cells (((ls3.take (j + 1)).map slV) ++ List.replicate (ls3.length - (j + 1)) (Value.slice none 0 0)).toArray 34)) := Lib.hid (by
            rw [Below.heap_alloc _ _ _ (by simpa using l5), heap_set _ _ j _ _ _ HRB.out (by simp; omega), slV_step hp])
          have HBN := Lib.hid ((HBX.out.setCell (p := ⟨w3.heap.size, j, none⟩) (Nat.le_refl _) (.slice p.addr p.word.length p.cap)).alloc (by simpa using HBX.out.size) (.cells #[.slice p.addr p.word.length p.cap, .bool p.known] 119))
          have e1 : (j : Int) < g.nons.length := by omega
          clear hp hlx hgt hbA qA
          go_wp2
          exact ⟨⟨j + 1, by omega, by go_num, HN, HBN⟩, by simp [intOf]; omega⟩
        · have e1 : ¬ (j : Int) < g.nons.length := by omega
          have hfin : ((ls3.take j).map slV) ++ List.replicate (ls3.length - j) (Value.slice none 0 0) = ls3.map slV := by
            rw [List.take_of_length_le (by omega), show ls3.length - j = 0 by omega]; simp
          have hout : OutAt wx w3.heap.size ls3 := ⟨by have := HRB.out; rwa [hfin] at this, fun p hp => by
            cases hk : p.known with
            | true => exact ((own_cells (HL3.out.r p hp hk).1).1.below HBX.out)
            | false => rw [HL3.out.z p hp hk]; exact .inl rfl, fun p hp hk => by rw [HL3.out.z p hp hk]⟩
          have HOUT := Lib.hid hout
          clear hfin hout
          go_wp2
          go_ret2
          have hl2 := HS2.out.size
          have hl3 := HB3.out.size
          refine ⟨HS2.out.trans ((HB3.out.trans (HBX.out.mono hl3)).mono hl2), w3.heap.size, ?_⟩
          first
            | exact ⟨ls3, rfl, HK3.out, hn33, HOUT.out, by omega⟩
            | exact ⟨rfl, ls3, HK3.out, hn33, HOUT.out, by omega⟩

end Go.Proofs.Ytflfmcikfiaoiaa
