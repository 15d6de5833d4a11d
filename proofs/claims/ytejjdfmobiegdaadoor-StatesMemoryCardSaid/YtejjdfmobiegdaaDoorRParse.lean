/- The document's own Parse: walked. -/
import Derived.Test.YtejjdfmobiegdaaDoorRRules
import Derived.Test.YtejjdfmobiegdaaDoorParse
import Derived.Test.YtejjdfmobiegdaaDoorFind
namespace Go.Proofs.YtejjdfmobiegdaaDoor
open Go.RowKit
open Doc

theorem ruAll_at : ∀ (l : List RuL) (j : Nat) (r : RuL), l[j]? = some r → ∀ i u, (ruCells r)[i]? = some u → (ruAll l)[j * 5 + i]? = some u
  | [], j, r, h, _, _, _ => by simp at h
  | x :: l, 0, r, h, i, u, hi => by
    simp at h; subst h
    show (ruCells x ++ ruAll l)[0 * 5 + i]? = some u
    rw [Nat.zero_mul, Nat.zero_add, List.getElem?_append_left (List.getElem?_eq_some_iff.1 hi).1, hi]
  | x :: l, j + 1, r, h, i, u, hi => by
    have ih := ruAll_at l j r (by simpa using h) i u hi
    show (ruCells x ++ ruAll l)[(j + 1) * 5 + i]? = some u
    have e : (ruCells x).length = 5 := rfl
    rw [List.getElem?_append_right (by rw [e]; omega), e, show (j + 1) * 5 + i - 5 = j * 5 + i by omega]
    exact ih
theorem ru_get {w : World} {b off : Nat} {rs : List RuL} (hc : ∀ j u, (ruAll rs)[j]? = some u → w.cell? ⟨b, off + j, none⟩ = some u) {k : Nat} {r : RuL} (hr : rs[k]? = some r) :
    w.cell? ⟨b, off + k * 5, none⟩ = some (.int .i64 r.name.kind) ∧ w.cell? ⟨b, off + k * 5 + 1, none⟩ = some (.string ⟨r.name.text.toArray⟩) ∧ w.cell? ⟨b, off + k * 5 + 2, none⟩ = some (.int .i64 r.name.line) ∧ w.cell? ⟨b, off + k * 5 + 3, none⟩ = some (.int .i64 r.name.col) ∧ w.cell? ⟨b, off + k * 5 + 4, none⟩ = some (.slice r.addr r.rest.length r.cap) :=
  ⟨hc _ _ (ruAll_at rs k r hr 0 _ rfl), hc _ _ (ruAll_at rs k r hr 1 _ rfl), hc _ _ (ruAll_at rs k r hr 2 _ rfl), hc _ _ (ruAll_at rs k r hr 3 _ rfl), hc _ _ (ruAll_at rs k r hr 4 _ rfl)⟩
theorem ruAll_ne {rs : List RuL} {k : Nat} {r : RuL} (hr : rs[k]? = some r) : ruAll rs ≠ [] := by
  intro e; have := ruAll_at rs k r hr 0 _ rfl; rw [e] at this; simp at this

theorem GBlk.put_n {b : Nat} {w w4 : World} {ts ns : List (List UInt8)} {ls : List Lay} {at_ an ap : Option Addr} {ct cn cp g cap4 : Nat} {x : List UInt8} (h : GBlk b (b + 1) w ts ns ls at_ an ap ct cn cp) (hown : w4.ownsRow (b + 1) 9 1 (.slice (some ⟨g, 0, none⟩) (ns.length + 1) cap4) (ns.length + 1) (strs ns ++ [.string ⟨x.toArray⟩]))
    (hgrow : w.grownBy w4 (Value.slice an ns.length cn).ownBlock) (hat : (Value.slice an ns.length cn).ownBlock = some g ∨ w.heap.size ≤ g) :
    GBlk b (b + 1) (w4.setCell ⟨b, 1, none⟩ (.slice (some ⟨g, 0, none⟩) (ns.length + 1) cap4)) ts (ns ++ [x]) ls at_ (some ⟨g, 0, none⟩) ap ct cap4 cp := by
  have q4 : w4.heap[b]? = some (.cells #[.slice at_ ts.length ct, .slice an ns.length cn, .slice ap ls.length cp] 29) := (hgrow.block b (heap_lt h.blk) (fun e => by have := (own_block h.rws.n e.symm).1; omega)).trans h.blk
  refine ⟨?_, (h.rws.put_n hown hgrow hat).set b 1 (Nat.lt_succ_self b) _, h.lt, ?_⟩
  · rw [heap_set w4 b 1 _ _ _ q4 (by simp)]; simp
  · have := h.le; have := hgrow.size; simp; omega
theorem two_alloc (w : World) (o0 o1 : Obj) : Below w.heap.size w ((w.alloc o0).alloc o1) ∧ ((w.alloc o0).alloc o1).heap.size = w.heap.size + 2 ∧ ((w.alloc o0).alloc o1).heap[w.heap.size]? = some o0 ∧ ((w.alloc o0).alloc o1).heap[w.heap.size + 1]? = some o1 := by
  refine ⟨((Below.refl _ _).alloc (Nat.le_refl _) _).alloc (by simp) _, by simp, ?_, ?_⟩
  · rw [Below.heap_alloc _ _ _ (by simp)]; exact heap_alloc_new w o0
  · have := heap_alloc_new (w.alloc o0) o1; simpa using this

/-- How the document's own Parse ends: its grammar's rows are its own. -/
def ParseEndR (B : Nat) (t : List UInt8) (e : Ending) (w' : World) : Prop :=
  match parse t with
  | .ok g => ∃ (F : Nat) (ts ns : List (List UInt8)) (ls : List Lay) (at_ an ap : Option Addr) (ct cn cp : Nat), e = .returned (.tuple #[.agg #[.slice at_ ts.length ct, .slice an ns.length cn, .slice ap ls.length cp], .int .i64 0, .int .i64 0, .int .i64 0]) ∧ B ≤ F ∧ Rws F w' ts ns ls at_ an ap ct cn cp ∧ (⟨ts, ns, ls.map Lay.plain⟩ : Gr) = g
  | .bad l c x => e = .returned (.tuple #[.agg #[.slice none 0 0, .slice none 0 0, .slice none 0 0], .int .i64 l, .int .i64 c, .int .i64 x])

set_option maxRecDepth 100000 in
set_option maxHeartbeats 16000000 in
theorem rparse_own (s : ByteArray) (w : World) (hs : s.size ≤ 400000) :
    Calls Tryd.prog 25 #[.string s] w fun e w' => Below w.heap.size w w' ∧ ParseEndR w.heap.size s.data.toList e w' := by
  obtain ⟨i0, hi0, hz0, hz1, hz2⟩ := info_of infoI
  obtain ⟨i1, hi1, hy0, hy1, hy2⟩ := info_of infoP
  obtain ⟨i2, hi2, hx0, hx1, hx2⟩ := info_of infoS
  obtain ⟨f2, fz, fR, fN⟩ := two_alloc w (.cells #[.slice none 0 0, .slice none 0 0, .slice none 0 0] 29) (.cells #[.slice none 0 0, .slice none 0 0, .slice none 0 0] 29)
  have HF2 := Lib.hid f2
  have HFR := Lib.hid fR
  have HFN := Lib.hid fN
  have HFZ := Lib.hid fz
  clear f2 fz fR fN
  have hto := fun W => rtokens_any s W (by omega)
  obtain ⟨L, pl, hL⟩ : ∃ L pl, txt s.data.toList 1 = (L, pl) := ⟨_, _, rfl⟩
  have htl := txt_len _ s.data.toList 1 (Nat.le_refl _)
  have hends := txt_ends _ s.data.toList 1 (Nat.le_refl _)
  rw [hL] at htl hends
  rw [← Lib.size_eq] at htl
  simp only at htl hends
  by_cases hp : pl = (0, 0)
  · subst hp
    have hto2 : ∀ W : World, Calls Tryd.prog 62 #[.string s] W fun e w' => (∃ a cap, e = .returned (.tuple #[.slice a L.length cap, .int .i64 0, .int .i64 0]) ∧ Cells w' a (tall L)) ∧ Below W.heap.size W w' := fun W => (hto W).mono fun e w' ⟨hb, he⟩ => by
      unfold RefEnd at he
      rw [hL, if_pos rfl] at he
      obtain ⟨v', he, ho⟩ := he
      obtain ⟨a, cap, rfl, hc, _⟩ := toks_slice ho
      exact ⟨⟨a, cap, he, hc⟩, hb⟩
    have HTO := Lib.hid hto2
    have HE := Lib.hid hends
    clear hto hto2 hends
    have hpar0 : ∀ x, (ruleF L .start).2 = some x → parse s.data.toList = .bad x.line x.col 2 := fun x hx => by
      unfold parse; rw [hL]; simp only [ne_eq, not_true_eq_false, if_false]; rw [hx]
    cases hru : (ruleF L .start).2 with
    | some bd =>
      as_aux_lemma =>
      obtain ⟨bk, bt, bl, bc⟩ := bd
      have hpar := Lib.hid (hpar0 _ hru)
      have HRU := Lib.hid fun (W : World) a cap (h : Cells W a (tall L)) => (rrules_any a cap L W h (by omega) HE.out).mono fun e w' ⟨hb, he⟩ => (⟨by unfold RulesEnd at he; rw [hru] at he; exact he, hb⟩ : e = Ending.returned (.tuple #[.slice none 0 0, .agg #[.int .i64 bk, .string ⟨bt.toArray⟩, .int .i64 bl, .int .i64 bc], .bool false]) ∧ Below W.heap.size W w')
      clear hpar0 hru
      go_enter Tryd.func25, Tryd.ntmps25
      go_upto_region 7 with (first
        | (go_at_call 62; refine (HTO.out _).mono ?_; rintro e w2 ⟨⟨a, cap, rfl, hc⟩, hb2⟩)
        | (go_at_call 63; refine (HRU.out _ _ _ hc).mono ?_; rintro e w3 ⟨rfl, hb3⟩))
      have hb4 : Below w2.heap.size w2 (w3.alloc (.cells #[.int .i64 bk, .string ⟨bt.toArray⟩, .int .i64 bl, .int .i64 bc] 102)) := hb3.alloc hb3.size _
      have hq := heap_alloc_new w3 (.cells #[.int .i64 bk, .string ⟨bt.toArray⟩, .int .i64 bl, .int .i64 bc] 102)
      have k2 := (blk_cell (i := 2) (u := .int .i64 bl) hq rfl).1
      have k3 := (blk_cell (i := 3) (u := .int .i64 bc) hq rfl).1
      have k4 := heap_lt hq
      have hbb := (hb2.trans (hb4.mono hb2.size))
      have HBW := Lib.hid (HF2.out.trans (hbb.mono HF2.out.size))
      have QR := (hbb.block w.heap.size (by rw [HFZ.out]; omega)).trans HFR.out
      have QN := (hbb.block (w.heap.size + 1) (by rw [HFZ.out]; omega)).trans HFN.out
      have hne : w.heap.size ≠ w3.heap.size := by have h1 := HFZ.out; have h2 := hb2.size; have h3 := hb3.size; omega
      clear hb2 hb3 hb4 hq hbb hc
      generalize w3.alloc (.cells #[.int .i64 bk, .string ⟨bt.toArray⟩, .int .i64 bl, .int .i64 bc] 102) = W4 at *
      generalize w3.heap.size = B3 at *
      obtain ⟨v0, z0⟩ := blk_cell (i := 0) (u := .slice none 0 0) QR rfl
      obtain ⟨v1, z1⟩ := blk_cell (i := 1) (u := .slice none 0 0) QR rfl
      obtain ⟨v2, z2⟩ := blk_cell (i := 2) (u := .slice none 0 0) QR rfl
      have n0 := (blk_cell (i := 0) (u := .slice none 0 0) QN rfl).1
      have n1 := (blk_cell (i := 1) (u := .slice none 0 0) QN rfl).1
      have n2 := (blk_cell (i := 2) (u := .slice none 0 0) QN rfl).1
      have lR := heap_lt QR
      have lN := heap_lt QN
      have HQR := Lib.hid QR
      clear QR QN
      go_wp2
      go_region
      all_goals
        (try go_wp2)
        (try simp only [Exit.inBlock, Exit.then])
        refine bodyPost_ret (v := .tuple #[.agg #[.slice none 0 0, .slice none 0 0, .slice none 0 0], .int .i64 bl, .int .i64 bc, .int .i64 2]) ?_ rfl ⟨?_, ?_⟩
        · exact results_cttt (p0 := 2) (p1 := 3) (p2 := 4) (p3 := 5) rfl rfl (run_loadVar_row _ w.heap.size 29 29 _ (0, 0) _ (store3 (w := W4.drew) HQR.out _ _ _) Tryd.underlying29 rfl (by kernel_rfl))
        · exact store3_below (HBW.out.drew) (Nat.le_refl _) _ _ _
        · unfold ParseEndR
          rw [hpar.out]
          rfl
    | none =>
      as_aux_lemma =>
      obtain ⟨RS, hRS⟩ : ∃ RS, (ruleF L .start).1 = RS := ⟨_, rfl⟩
      have hrest := ruleF_rest L .start
      have hmany := ruleF_many L .start
      rw [hRS] at hrest hmany
      have HRU := Lib.hid fun (W : World) a cap (h : Cells W a (tall L)) => (rrules_any a cap L W h (by omega) HE.out).mono fun e w' ⟨hb, he⟩ => (by
        unfold RulesEnd at he
        rw [hru] at he
        obtain ⟨rs, ra, rc, h1, h2, h3, h4⟩ := he
        exact ⟨⟨rs, ra, rc, h1, h2.trans hRS, (own_cells h3).1, fun r hr => (own_cells (h4 r hr)).1⟩, hb⟩ : (∃ (rs : List RuL) (ra : Option Addr) (rc : Nat), e = Ending.returned (.tuple #[.slice ra rs.length rc, .agg #[.int .i64 0, .string ⟨#[]⟩, .int .i64 0, .int .i64 0], .bool true]) ∧ rs.map RuL.plain = RS ∧ Cells w' ra (ruAll rs) ∧ ∀ r ∈ rs, Cells w' r.addr (tall r.rest)) ∧ Below W.heap.size W w')
      have hpar : parse s.data.toList = if RS = [] then .bad 0 0 2 else match namesF RS [] with
          | .inr (a, b, e) => .bad a b e
          | .inl ns => match bodiesF ns RS 0 [] [] with
            | .inr (a, b, e) => .bad a b e
            | .inl (ts, ps) => if ts = [] then .bad 0 0 2 else .ok ⟨ts, ns, ps⟩ := by
        unfold parse; rw [hL]; simp only [ne_eq, not_true_eq_false, if_false]; rw [hru, hRS]; rfl
      by_cases hne : RS = []
      · as_aux_lemma =>
        have hpar2 := Lib.hid (hpar.trans (if_pos hne))
        have HRU2 := Lib.hid fun W a cap (h : Cells W a (tall L)) => (HRU.out W a cap h).mono fun e w' ⟨⟨rs, ra, rc, h1, h2, _, _⟩, hb⟩ => (by
          have h0 : rs = [] := by rw [hne] at h2; exact List.map_eq_nil_iff.1 h2
          subst h0
          exact ⟨⟨ra, rc, h1⟩, hb⟩ : (∃ (ra : Option Addr) (rc : Nat), e = Ending.returned (.tuple #[.slice ra 0 rc, .agg #[.int .i64 0, .string ⟨#[]⟩, .int .i64 0, .int .i64 0], .bool true])) ∧ Below W.heap.size W w')
        clear hpar hpar0 hru hrest hmany HRU
        go_enter Tryd.func25, Tryd.ntmps25
        go_upto_region 9 with (first
          | (go_at_call 62; refine (HTO.out _).mono ?_; rintro e w2 ⟨⟨a, cap, rfl, hc⟩, hb2⟩)
          | (go_at_call 63; refine (HRU2.out _ _ _ hc).mono ?_; rintro e w3 ⟨⟨ra, rc, rfl⟩, hb3⟩))
        have hb4 : Below w2.heap.size w2 (w3.alloc (.cells #[.int .i64 0, .string ⟨#[]⟩, .int .i64 0, .int .i64 0] 102)) := hb3.alloc hb3.size _
        have hbb := (hb2.trans (hb4.mono hb2.size))
        have HBW := Lib.hid (HF2.out.trans (hbb.mono HF2.out.size))
        have QR := (hbb.block w.heap.size (by rw [HFZ.out]; omega)).trans HFR.out
        have QN := (hbb.block (w.heap.size + 1) (by rw [HFZ.out]; omega)).trans HFN.out
        clear hb2 hb3 hb4 hbb hc
        generalize w3.alloc (.cells #[.int .i64 0, .string ⟨#[]⟩, .int .i64 0, .int .i64 0] 102) = W4 at *
        generalize w3.heap.size = B3 at *
        obtain ⟨v0, z0⟩ := blk_cell (i := 0) (u := .slice none 0 0) QR rfl
        obtain ⟨v1, z1⟩ := blk_cell (i := 1) (u := .slice none 0 0) QR rfl
        obtain ⟨v2, z2⟩ := blk_cell (i := 2) (u := .slice none 0 0) QR rfl
        have n0 := (blk_cell (i := 0) (u := .slice none 0 0) QN rfl).1
        have n1 := (blk_cell (i := 1) (u := .slice none 0 0) QN rfl).1
        have n2 := (blk_cell (i := 2) (u := .slice none 0 0) QN rfl).1
        have lR := heap_lt QR
        have lN := heap_lt QN
        have HQR := Lib.hid QR
        clear QR QN
        go_wp2
        all_goals
          (try simp only [Exit.inBlock, Exit.then])
          refine bodyPost_ret (v := .tuple #[.agg #[.slice none 0 0, .slice none 0 0, .slice none 0 0], .int .i64 0, .int .i64 0, .int .i64 2]) ?_ rfl ⟨?_, ?_⟩
          · exact results_cttt (p0 := 2) (p1 := 3) (p2 := 4) (p3 := 5) rfl rfl (run_loadVar_row _ w.heap.size 29 29 _ (0, 0) _ (store3 (w := W4) HQR.out _ _ _) Tryd.underlying29 rfl (by kernel_rfl))
          · exact store3_below (HBW.out) (Nat.le_refl _) _ _ _
          · unfold ParseEndR
            rw [hpar2.out]
            rfl
      · as_aux_lemma =>
        have HPAR := Lib.hid (hpar.trans (if_neg hne))
        have HREST := Lib.hid hrest
        have HRS := Lib.hid hne
        clear hpar hpar0 hru hrest hne hRS
        go_enter Tryd.func25, Tryd.ntmps25
        go_upto_region 8 with (first
          | (go_at_call 62; refine (HTO.out _).mono ?_; rintro e w2 ⟨⟨a, cap, rfl, hc⟩, hb2⟩)
          | (go_at_call 63; refine (HRU.out _ _ _ hc).mono ?_; rintro e w3 ⟨⟨rs, ra, rc, rfl, hrp, hrc, hrr⟩, hb3⟩))
        have hlen : rs.length = RS.length := by rw [← hrp, List.length_map]
        have hl0 : ((rs.length : Int) == 0) = false := by
          have : rs.length ≠ 0 := by rw [hlen]; exact fun h => HRS.out (List.eq_nil_of_length_eq_zero h)
          simpa using this
        obtain ⟨j2, jz, j0, j1⟩ := two_alloc w3 (.cells #[.int .i64 0, .string ⟨#[]⟩, .int .i64 0, .int .i64 0] 102) (.cells #[.slice none 0 0, .slice none 0 0, .slice none 0 0] 29)
        have hb4 : Below w2.heap.size w2 ((w3.alloc (.cells #[.int .i64 0, .string ⟨#[]⟩, .int .i64 0, .int .i64 0] 102)).alloc (.cells #[.slice none 0 0, .slice none 0 0, .slice none 0 0] 29)) := hb3.trans (j2.mono hb3.size)
        have hbb := (hb2.trans (hb4.mono hb2.size))
        have HBW := Lib.hid (HF2.out.trans (hbb.mono HF2.out.size))
        have HQR := Lib.hid ((hbb.block w.heap.size (by rw [HFZ.out]; omega)).trans HFR.out)
        have HQN := Lib.hid ((hbb.block (w.heap.size + 1) (by rw [HFZ.out]; omega)).trans HFN.out)
        have hwb : w.heap.size + 2 ≤ w3.heap.size := by have h1 := HFZ.out; have h2 := hb2.size; have h3 := hb3.size; omega
        have HRC := Lib.hid (hrc.under (b := w3.heap.size + 1) (by omega) j2)
        have HRR := Lib.hid (fun r hr => (hrr r hr).under (b := w3.heap.size + 1) (by omega) j2)
        have HRP := Lib.hid hrp
        have HJ1 := Lib.hid j1
        have hjz := jz
        have hrl : rs.length ≤ 1000000 := by omega
        clear hb2 hb3 hb4 hbb hc hrc hrr hrp j2 j0 j1 hlen jz
        go_wp2
        clear hl0
        generalize ((w3.alloc (.cells #[.int .i64 0, .string ⟨#[]⟩, .int .i64 0, .int .i64 0] 102)).alloc (.cells #[.slice none 0 0, .slice none 0 0, .slice none 0 0] 29)) = S at *
        generalize hbeq : w3.heap.size + 1 = b at *
        have hwb2 : w.heap.size + 1 < b := by omega
        have hSz : S.heap.size = b + 1 := by omega
        clear hbeq hjz hwb
        have hg0 : GBlk b (b + 1) S [] [] [] none none none 0 0 0 := ⟨HJ1.out, ⟨World.ownsRow_nil _ _ _ _, World.ownsRow_nil _ _ _ _, World.ownsRow_nil _ _ _ _, (by intro q hq; cases hq), (by intro x y hx; cases hx)⟩, Nat.lt_succ_self b, by omega⟩
        have HG0 := Lib.hid hg0
        clear hg0
        go_loopw [57] (fun i wr => ∃ (k : Nat) (ns : List (List UInt8)) (an : Option Addr) (cn : Nat), k ≤ rs.length ∧ i = .int .i64 k ∧ ns.length ≤ 8 ∧ Hid (ns.length = k) ∧ Hid (GBlk b (b + 1) wr [] ns [] none an none 0 cn 0) ∧ Below b S wr ∧ Hid (namesF RS [] = namesF ((rs.drop k).map RuL.plain) ns)) (fun i _ => rs.length - (intOf i).toNat)
        case atStart => exact ⟨0, [], none, 0, by omega, rfl, by simp, Lib.hid rfl, HG0, Below.refl _ _, Lib.hid (by rw [List.drop_zero, HRP.out])⟩
        case round =>
          obtain ⟨k, ns, an, cn, hk, rfl, hn8, hnk, HG, hbe, HNF⟩ := hrel
          by_cases hlt : k < rs.length
          · as_aux_lemma =>
            obtain ⟨rl, hr⟩ : ∃ r, rs[k]? = some r := ⟨_, List.getElem?_eq_getElem hlt⟩
            obtain ⟨⟨nk, nt, nl, nc⟩, rest, radr, rcp⟩ := rl
            have hdr : (rs.drop k).map RuL.plain = (⟨⟨nk, nt, nl, nc⟩, rest⟩ : Ru) :: (rs.drop (k + 1)).map RuL.plain := by
              obtain ⟨hk', e'⟩ := List.getElem?_eq_some_iff.1 hr
              rw [List.drop_eq_getElem_cons hk', e']; rfl
            obtain ⟨bb, off, hab, hbl, hc⟩ := (HRC.out wr hbe).get (ruAll_ne hr)
            obtain ⟨c0, c1, c2, c3, c4⟩ := ru_get hc hr
            simp only at c0 c1 c2 c3 c4
            subst hab
            have e1 : (k : Int) < rs.length := by omega
            have hBX : Below wr.heap.size wr (wr.alloc (.cells #[.int .i64 nk, .string ⟨nt.toArray⟩, .int .i64 nl, .int .i64 nc, .slice radr rest.length rcp] 106)) := (Below.refl _ _).alloc (Nat.le_refl _) _
            have hqR := heap_alloc_new wr (.cells #[.int .i64 nk, .string ⟨nt.toArray⟩, .int .i64 nl, .int .i64 nc, .slice radr rest.length rcp] 106)
            have hG1 := HG.out.below hBX
            have hbW : b ≤ wr.heap.size := Nat.le_of_lt (heap_lt HG.out.blk)
            have hbe1 := hbe.trans (hBX.mono hbW)
            have hnr : w.heap.size ≠ wr.heap.size := by omega
            have hnr1 : w.heap.size + 1 ≠ wr.heap.size := by omega
            have r1 := (blk_cell (i := 1) (u := .string ⟨nt.toArray⟩) hqR rfl).1
            have r2 := (blk_cell (i := 2) (u := .int .i64 nl) hqR rfl).1
            have r3 := (blk_cell (i := 3) (u := .int .i64 nc) hqR rfl).1
            have lR1 := heap_lt hqR
            have b1 := (blk_cell (i := 1) (u := .slice an ns.length cn) hG1.blk rfl).1
            have lb1 := heap_lt hG1.blk
            have QR := (hbe1.block w.heap.size (by omega)).trans HQR.out
            have QN := (hbe1.block (w.heap.size + 1) (by omega)).trans HQN.out
            have HBW1 := Lib.hid (HBW.out.trans (hbe1.mono (by omega)))
            have HF0 := Lib.hid fun W => find_any an cn ns nt W
            have HG1 := Lib.hid hG1
            have HBE1 := Lib.hid hbe1
            have HDR := Lib.hid (HNF.out.trans (congrArg (namesF · ns) hdr))
            clear hc hr hdr hBX hqR hG1 hbe1 hbe
            go_upto_region 14 with fail
            clear c0 c1 c2 c3 c4 hbl
            generalize wr.alloc (.cells #[.int .i64 nk, .string ⟨nt.toArray⟩, .int .i64 nl, .int .i64 nc, .slice radr rest.length rcp] 106) = W1 at *
            generalize wr.heap.size = R1 at *
            have HFI := Lib.hid (HF0.out W1 (own_cells HG1.out.rws.n).1 (by omega))
            cases hi : idx ns nt with
            | some ii =>
              as_aux_lemma =>
              have hpar2 := Lib.hid (show parse s.data.toList = .bad nl nc 4 by
                rw [HPAR.out, HDR.out]; simp only [namesF]; rw [if_pos (by rw [hi]; rfl)])
              have HFJ := Lib.hid (HFI.out.mono fun e w' ⟨he, hw⟩ => (⟨he.trans (by rw [hi]; rfl), hw⟩ : e = Ending.returned (.int .i64 (ii : Nat)) ∧ w' = W1))
              have hii : (0 : Int) ≤ ii := by omega
              have hiib : decide ((ii : Int) ≥ 0) = true := decide_eq_true hii
              clear hi
              go_upto_region 15 with fail
              refine HFJ.out.mono ?_
              rintro e W9 ⟨rfl, rfl⟩
              go_upto_if 67 with fail
              go_upto_region 15 with fail
              obtain ⟨v0, z0⟩ := blk_cell (i := 0) (u := .slice none 0 0) QR rfl
              obtain ⟨v1, z1⟩ := blk_cell (i := 1) (u := .slice none 0 0) QR rfl
              obtain ⟨v2, z2⟩ := blk_cell (i := 2) (u := .slice none 0 0) QR rfl
              have n0 := (blk_cell (i := 0) (u := .slice none 0 0) QN rfl).1
              have n1 := (blk_cell (i := 1) (u := .slice none 0 0) QN rfl).1
              have n2 := (blk_cell (i := 2) (u := .slice none 0 0) QN rfl).1
              have lR := heap_lt QR
              have lN := heap_lt QN
              have HQR := Lib.hid QR
              clear QR QN
              go_wp2
              go_region
              all_goals
                (try go_wp2)
                (try simp only [Exit.inBlock, Exit.then])
                refine bodyPost_ret (v := .tuple #[.agg #[.slice none 0 0, .slice none 0 0, .slice none 0 0], .int .i64 nl, .int .i64 nc, .int .i64 4]) ?_ rfl ⟨?_, ?_⟩
                · exact results_cttt (p0 := 2) (p1 := 3) (p2 := 4) (p3 := 5) rfl rfl (run_loadVar_row _ w.heap.size 29 29 _ (0, 0) _ (store3 (w := W9.drew) HQR.out _ _ _) Tryd.underlying29 rfl (by kernel_rfl))
                · exact store3_below (HBW1.out.drew) (Nat.le_refl _) _ _ _
                · unfold ParseEndR
                  rw [hpar2.out]
                  rfl
            | none =>
              as_aux_lemma =>
              have HFJ := Lib.hid (HFI.out.mono fun e w' ⟨he, hw⟩ => (⟨he.trans (by rw [hi]; rfl), hw⟩ : e = Ending.returned (.int .i64 (-1)) ∧ w' = W1))
              have HII := Lib.hid (show (idx ns nt).isSome = false by rw [hi]; rfl)
              clear hi
              by_cases h8 : ns.length = 8
              · as_aux_lemma =>
                have h8b : (8 : Int) ≤ ns.length := by omega
                have hpar2 := Lib.hid (show parse s.data.toList = .bad nl nc 5 by
                  rw [HPAR.out, HDR.out]; simp only [namesF]; rw [if_neg (by rw [HII.out]; decide), if_pos (by omega)])
                clear h8
                go_upto_region 17 with fail
                refine HFJ.out.mono ?_
                rintro e W9 ⟨rfl, rfl⟩
                go_upto_if 67 with fail
                go_upto_region 17 with fail
                obtain ⟨v0, z0⟩ := blk_cell (i := 0) (u := .slice none 0 0) QR rfl
                obtain ⟨v1, z1⟩ := blk_cell (i := 1) (u := .slice none 0 0) QR rfl
                obtain ⟨v2, z2⟩ := blk_cell (i := 2) (u := .slice none 0 0) QR rfl
                have n0 := (blk_cell (i := 0) (u := .slice none 0 0) QN rfl).1
                have n1 := (blk_cell (i := 1) (u := .slice none 0 0) QN rfl).1
                have n2 := (blk_cell (i := 2) (u := .slice none 0 0) QN rfl).1
                have lR := heap_lt QR
                have lN := heap_lt QN
                have HQR := Lib.hid QR
                clear QR QN
                go_wp2
                go_region
                all_goals
                  (try go_wp2)
                  (try simp only [Exit.inBlock, Exit.then])
                  refine bodyPost_ret (v := .tuple #[.agg #[.slice none 0 0, .slice none 0 0, .slice none 0 0], .int .i64 nl, .int .i64 nc, .int .i64 5]) ?_ rfl ⟨?_, ?_⟩
                  · exact results_cttt (p0 := 2) (p1 := 3) (p2 := 4) (p3 := 5) rfl rfl (run_loadVar_row _ w.heap.size 29 29 _ (0, 0) _ (store3 (w := W9.drew) HQR.out _ _ _) Tryd.underlying29 rfl (by kernel_rfl))
                  · exact store3_below (HBW1.out.drew) (Nat.le_refl _) _ _ _
                  · unfold ParseEndR
                    rw [hpar2.out]
                    rfl
              · as_aux_lemma =>
                have h8b : ¬ (8 : Int) ≤ ns.length := by omega
                have hN := Lib.hid (show namesF RS [] = namesF ((rs.drop (k + 1)).map RuL.plain) (ns ++ [nt]) by
                  rw [HDR.out]; simp only [namesF]; rw [if_neg (by rw [HII.out]; decide), if_neg (by omega)])
                have hle1 := HG1.out.le
                clear QR QN
                go_upto_region 18 with fail
                refine HFJ.out.mono ?_
                rintro e W9 ⟨rfl, rfl⟩
                go_upto_if 67 with fail
                go_upto_region 18 with fail
                go_wp2_with (at_builtin; refine wpList_append_lies _ rfl (.tmp 87) (.tmp 91) 26 rfl (b + 1) 9 i2 (.string ⟨#[]⟩) 1 16 Tryd.underlying26 hi2 hx0 hx1 hx2 rfl (by decide) _ ns.length (strs ns) rfl (HG1.out.rws.n.alloc _) ⟨W9.heap.size, 0, none⟩ 1 1 [.string ⟨nt.toArray⟩] rfl rfl (World.news_of_block (cs := #[.string ⟨nt.toArray⟩]) (t := 9) (fr := (0, 0)) (heap_alloc_new W9 _)) (by simp [Value.oneCell']) (by decide) (by unfold maxLen; omega) (by omega) (by simp; omega) W9.heap.size.succ (by simp) ?_; intro g cap4 w4 hown4 hgrow4 hat4 hlt4; have q4 := (hgrow4.block b (by simp; omega) (by intro e; have := (own_block HG1.out.rws.n e.symm).1; omega)).trans ((Below.heap_alloc W9 _ b lb1).trans HG1.out.blk); obtain ⟨p4, z4⟩ := blk_cell (i := 1) (u := .slice an ns.length cn) q4 rfl; have l4 := heap_lt q4; have HO4 := Lib.hid hown4; have HGR4 := Lib.hid hgrow4; have HAT4 := Lib.hid hat4; clear hown4 hgrow4 hat4 q4)
                have hgF := (HG1.out.below ((Below.refl _ _).alloc (Nat.le_refl _) (.cells #[.string ⟨nt.toArray⟩] 9))).put_n HO4.out HGR4.out (by rcases HAT4.out with h | h; exact .inl h; exact .inr (by simp; omega))
                have hbF : Below b S (w4.setCell ⟨b, 1, none⟩ (.slice (some ⟨g, 0, none⟩) (ns.length + 1) cap4)) := ((HBE1.out.alloc (Nat.le_of_lt lb1) _).grown HGR4.out (by simp; omega) (fun x hx => by have := (own_block HG1.out.rws.n hx).1; omega)).setCell (p := ⟨b, 1, none⟩) (Nat.le_refl _) _
                exact ⟨⟨k + 1, ns ++ [nt], some ⟨g, 0, none⟩, cap4, by omega, by go_num, by simp; omega, Lib.hid (by have := hnk.out; simp; omega), Lib.hid (by simpa using hgF), hbF, hN⟩, by simp [intOf]; omega⟩
          · as_aux_lemma =>
            have hkr : k = rs.length := by omega
            have e1 : ¬ (k : Int) < rs.length := by omega
            have HNS := Lib.hid (show namesF RS [] = .inl ns by rw [HNF.out, List.drop_of_length_le (by omega)]; rfl)
            have HPAR2 := Lib.hid (show parse s.data.toList = match bodiesF ns RS 0 [] [] with
                | .inr (a, b, e) => .bad a b e
                | .inl (ts, ps) => if ts = [] then .bad 0 0 2 else .ok ⟨ts, ns, ps⟩ by rw [HPAR.out, HNS.out])
            have HBEN := Lib.hid hbe
            have HGN := HG
            clear hkr hlt hbe HG HNF HPAR HG0 hk
            go_wp2
            clear e1
            rename World => wn
            go_loopw [97] (fun i wr => ∃ (k : Nat) (ts : List (List UInt8)) (ls : List Lay) (at_ ap : Option Addr) (ct cp : Nat), k ≤ rs.length ∧ i = .int .i64 k ∧ ts.length ≤ 8 ∧ ls.length ≤ 24 ∧ Hid (∀ q ∈ ls, q.right.length ≤ 6) ∧ Hid (GBlk b (b + 1) wr ts ns ls at_ an ap ct cn cp) ∧ Below b S wr ∧ Hid (bodiesF ns RS 0 [] [] = bodiesF ns ((rs.drop k).map RuL.plain) k ts (ls.map Lay.plain))) (fun i _ => rs.length - (intOf i).toNat)
            case atStart => exact ⟨0, [], [], none, none, 0, 0, by omega, rfl, by simp, by simp, Lib.hid (by intro q hq; cases hq), HGN, HBEN.out, Lib.hid (by rw [List.drop_zero, HRP.out]; rfl)⟩
            case round =>
              rename World => wm
              clear HGN HBEN
              obtain ⟨k, ts, ls, at_, ap, ct, cp, hk, rfl, ht8, hl24, HQ6, HG, hbe, HBF⟩ := hrel
              by_cases hlt : k < rs.length
              · as_aux_lemma =>
                obtain ⟨rl, hr⟩ : ∃ r, rs[k]? = some r := ⟨_, List.getElem?_eq_getElem hlt⟩
                obtain ⟨⟨nk, nt, nl, nc⟩, rest, radr, rcp⟩ := rl
                have hdr : (rs.drop k).map RuL.plain = (⟨⟨nk, nt, nl, nc⟩, rest⟩ : Ru) :: (rs.drop (k + 1)).map RuL.plain := by
                  obtain ⟨hk', e'⟩ := List.getElem?_eq_some_iff.1 hr
                  rw [List.drop_eq_getElem_cons hk', e']; rfl
                have hrm := List.mem_of_getElem? hr
                have hres := HREST.out _ (by rw [← HRP.out]; exact List.mem_map.2 ⟨_, hrm, rfl⟩ : (⟨⟨nk, nt, nl, nc⟩, rest⟩ : Ru) ∈ RS)
                obtain ⟨hrn, hrln⟩ := hres
                simp only at hrn hrln
                have hrl6 : rest.length ≤ 1000000 := by omega
                have hrp0 : 0 < rest.length := List.length_pos_iff.2 hrn
                obtain ⟨u0, hu0⟩ : ∃ u, rest[0]? = some u := ⟨_, List.getElem?_eq_getElem hrp0⟩
                have hhd : rest.headD ⟨nk, nt, nl, nc⟩ = u0 := by cases rest with
                  | nil => cases hu0
                  | cons x l => simpa using hu0
                obtain ⟨bb, off, hab, hbl, hc⟩ := (HRC.out wm hbe).get (ruAll_ne hr)
                obtain ⟨c0, c1, c2, c3, c4⟩ := ru_get hc hr
                simp only at c0 c1 c2 c3 c4
                subst hab
                have HRT := Lib.hid (HRR.out _ hrm)
                obtain ⟨tb, tof, hta, htb, htc⟩ := (HRT.out wm hbe).get (tall_nil_iff hrp0)
                simp only at hta
                subst hta
                obtain ⟨uk, ut, ul, uc⟩ := u0
                obtain ⟨d0, d1, d2, d3⟩ := tok_cells htc hu0
                simp only [Nat.zero_mul, Nat.add_zero] at d0 d1 d2 d3
                have e1 : (k : Int) < rs.length := by omega
                have er : (0 : Int) < rest.length := by omega
                obtain ⟨j3, jz, jR, jP, jA⟩ := three wm (.cells #[.int .i64 nk, .string ⟨nt.toArray⟩, .int .i64 nl, .int .i64 nc, .slice (some ⟨tb, tof, none⟩) rest.length rcp] 106) (.cells #[.int .i64 (100 + (k : Int)), .slice none 0 0] 68) (.cells #[.int .i64 uk, .string ⟨ut.toArray⟩, .int .i64 ul, .int .i64 uc] 102)
                have hGB := HG.out.below j3
                have hbm := heap_lt HG.out.blk
                have hst : PSt b wm.heap.size (wm.heap.size + 1) (wm.heap.size + 1 + 1) (wm.heap.size + 3) (((wm.alloc (.cells #[.int .i64 nk, .string ⟨nt.toArray⟩, .int .i64 nl, .int .i64 nc, .slice (some ⟨tb, tof, none⟩) rest.length rcp] 106)).alloc (.cells #[.int .i64 (100 + (k : Int)), .slice none 0 0] 68)).alloc (.cells #[.int .i64 uk, .string ⟨ut.toArray⟩, .int .i64 ul, .int .i64 uc] 102)) ts ns ls at_ an ap ct cn cp #[.int .i64 nk, .string ⟨nt.toArray⟩, .int .i64 nl, .int .i64 nc, .slice (some ⟨tb, tof, none⟩) rest.length rcp] (100 + (k : Int)) none [] 0 ⟨uk, ut, ul, uc⟩ :=
                  ⟨hGB, jR, jP, jA, World.ownsRow_nil _ _ _ _, hbm, by omega, by omega, by omega, by omega, fun q hq g hg => by have := (own_block (HG.out.rws.r q hq) hg).2.1; omega, fun e => by have := (own_block HG.out.rws.p e).2.1; omega⟩
                have HST := Lib.hid hst
                have HBE3 := Lib.hid (hbe.trans (j3.mono (Nat.le_of_lt hbm)))
                have hcast : ((100 + k : Nat) : Int) = 100 + (k : Int) := by omega
                have HBD := Lib.hid (show bodiesF ns RS 0 [] [] = match partsF ns (100 + (k : Int)) rest ts (ls.map Lay.plain) [] ⟨uk, ut, ul, uc⟩ with
                    | .inr e => .inr e
                    | .inl (ts', ps') => bodiesF ns ((rs.drop (k + 1)).map RuL.plain) (k + 1) ts' ps' by
                  rw [HBF.out, hdr]; simp only [bodiesF]; rw [hhd, hcast]; cases partsF ns (100 + (k : Int)) rest ts (ls.map Lay.plain) [] ⟨uk, ut, ul, uc⟩ <;> rfl)
                have hwm : w.heap.size + 1 < wm.heap.size := by omega
                clear hc hr hdr hrm hrn hrln hu0 hhd htc j3 jz jR jP jA hGB hst hbe hcast HBF HG
                go_upto_region 26 with fail
                have HERR := Lib.hid (show ∀ x y z, partsF ns (100 + (k : Int)) rest ts (ls.map Lay.plain) [] ⟨uk, ut, ul, uc⟩ = .inr (x, y, z) → parse s.data.toList = .bad x y z from fun x y z h => by rw [HPAR2.out, HBD.out, h])
                clear c0 c1 c2 c3 c4 d0 d1 d2 d3 hbl htb
                generalize (((wm.alloc (.cells #[.int .i64 nk, .string ⟨nt.toArray⟩, .int .i64 nl, .int .i64 nc, .slice (some ⟨tb, tof, none⟩) rest.length rcp] 106)).alloc (.cells #[.int .i64 (100 + (k : Int)), .slice none 0 0] 68)).alloc (.cells #[.int .i64 uk, .string ⟨ut.toArray⟩, .int .i64 ul, .int .i64 uc] 102)) = W3 at *
                generalize wm.heap.size = R at *
                go_loopw [112] (fun i wq => ∃ (j F : Nat) (ts' : List (List UInt8)) (ls' : List Lay) (at' ap' : Option Addr) (ct' cp' : Nat) (ra : Option Addr) (r : List Int) (rc : Nat) (bt : Tok), j ≤ rest.length ∧ i = .int .i64 j ∧ ts'.length ≤ 8 ∧ ls'.length ≤ 24 ∧ r.length ≤ 6 ∧ Hid (∀ q ∈ ls', q.right.length ≤ 6) ∧
                  Hid (PSt b R (R + 1) (R + 1 + 1) F wq ts' ns ls' at' an ap' ct' cn cp' #[.int .i64 nk, .string ⟨nt.toArray⟩, .int .i64 nl, .int .i64 nc, .slice (some ⟨tb, tof, none⟩) rest.length rcp] (100 + (k : Int)) ra r rc bt) ∧ Below b S wq ∧ Hid (partsF ns (100 + (k : Int)) rest ts (ls.map Lay.plain) [] ⟨uk, ut, ul, uc⟩ = partsF ns (100 + (k : Int)) (rest.drop j) ts' (ls'.map Lay.plain) r bt)) (fun i _ => rest.length - (intOf i).toNat)
                case atStart => exact ⟨0, _, ts, ls, at_, ap, ct, cp, none, [], 0, ⟨uk, ut, ul, uc⟩, by omega, rfl, ht8, hl24, by simp, HQ6, HST, HBE3.out, Lib.hid (by rw [List.drop_zero])⟩
                case round =>
                  rename World => wq
                  clear HST HBE3 HQ6
                  obtain ⟨j, F, ts', ls', at', ap', ct', cp', ra, r, rc, bt, hj, rfl, ht8', hl24', hr6, HQ6, HP, hbq, HPF⟩ := hrel
                  by_cases hjl : j < rest.length
                  · as_aux_lemma =>
                    obtain ⟨v, hv⟩ : ∃ v, rest[j]? = some v := ⟨_, List.getElem?_eq_getElem hjl⟩
                    obtain ⟨vk, vt, vl, vc⟩ := v
                    have hdj := drop_cons hv
                    obtain ⟨tb2, tof2, hta2, htb2, htc2⟩ := (HRT.out wq hbq).get (tall_nil_iff (by omega))
                    simp only [Option.some.injEq, Addr.mk.injEq] at hta2
                    obtain ⟨rfl, rfl, _⟩ := hta2
                    obtain ⟨g0, g1, g2, g3⟩ := tok_cells htc2 hv
                    simp only at g0 g1 g2 g3
                    have e3 : (j : Int) < rest.length := by omega
                    have hBT : Below wq.heap.size wq (wq.alloc (.cells #[.int .i64 vk, .string ⟨vt.toArray⟩, .int .i64 vl, .int .i64 vc] 102)) := (Below.refl _ _).alloc (Nat.le_refl _) _
                    have hqT := heap_alloc_new wq (.cells #[.int .i64 vk, .string ⟨vt.toArray⟩, .int .i64 vl, .int .i64 vc] 102)
                    have hp1 := HP.out.below hBT
                    have hbq1 := hbq.trans (hBT.mono (Nat.le_of_lt (heap_lt HP.out.g.blk)))
                    have t0 := (blk_cell (i := 0) (u := .int .i64 vk) hqT rfl).1
                    have t1 := (blk_cell (i := 1) (u := .string ⟨vt.toArray⟩) hqT rfl).1
                    have t2 := (blk_cell (i := 2) (u := .int .i64 vl) hqT rfl).1
                    have t3 := (blk_cell (i := 3) (u := .int .i64 vc) hqT rfl).1
                    have tl := heap_lt hqT
                    have HP1 := Lib.hid hp1
                    have HBQ1 := Lib.hid hbq1
                    have HDJ := Lib.hid hdj
                    have HVV := Lib.hid hv
                    have hFq : F ≤ wq.heap.size := HP.out.le
                    have hAF : R + 1 + 1 < F := HP.out.AF
                    have hnT : w.heap.size ≠ wq.heap.size := by omega
                    have hnT1 : w.heap.size + 1 ≠ wq.heap.size := by omega
                    clear htc2 hv hdj hBT hqT hp1 hbq hbq1 HP
                    go_upto_region 28 with fail
                    clear g0 g1 g2 g3 htb2
                    generalize wq.alloc (.cells #[.int .i64 vk, .string ⟨vt.toArray⟩, .int .i64 vl, .int .i64 vc] 102) = W1 at *
                    generalize wq.heap.size = T at *
                    obtain ⟨lb, lR, lP, lA⟩ := And.intro (heap_lt HP1.out.g.blk) (And.intro (heap_lt HP1.out.qR) (And.intro (heap_lt HP1.out.qP) (heap_lt HP1.out.qA)))
                    have p0 := (blk_cell (i := 0) (u := .int .i64 (100 + (k : Int))) HP1.out.qP rfl).1
                    have p1 := (blk_cell (i := 1) (u := .slice ra r.length rc) HP1.out.qP rfl).1
                    have b0 := (blk_cell (i := 0) (u := .slice at' ts'.length ct') HP1.out.g.blk rfl).1
                    have b1 := (blk_cell (i := 1) (u := .slice an ns.length cn) HP1.out.g.blk rfl).1
                    have b2 := (blk_cell (i := 2) (u := .slice ap' ls'.length cp') HP1.out.g.blk rfl).1
                    have QR := (HBQ1.out.block w.heap.size (by omega)).trans HQR.out
                    have QN := (HBQ1.out.block (w.heap.size + 1) (by omega)).trans HQN.out
                    have HBW1 := Lib.hid (HBW.out.trans (HBQ1.out.mono (by omega)))
                    by_cases hk : vk = 1
                    · as_aux_lemma =>
                      skip
                      have hk1b : ((vk : Int) == 1) = true := by simp [hk]
                      by_cases h6 : r.length = 6
                      · as_aux_lemma =>
                        have h6b : (6 : Int) ≤ r.length := by omega
                        have hpar2 := Lib.hid (HERR.out vl vc 5 (by rw [HPF.out, HDJ.out]; simp only [partsF]; rw [if_pos (.inl hk), if_pos (by omega)]))
                        clear h6 hk
                        go_upto_region 30 with fail
                        obtain ⟨v0, z0⟩ := blk_cell (i := 0) (u := .slice none 0 0) QR rfl
                        obtain ⟨v1, z1⟩ := blk_cell (i := 1) (u := .slice none 0 0) QR rfl
                        obtain ⟨v2, z2⟩ := blk_cell (i := 2) (u := .slice none 0 0) QR rfl
                        have n0 := (blk_cell (i := 0) (u := .slice none 0 0) QN rfl).1
                        have n1 := (blk_cell (i := 1) (u := .slice none 0 0) QN rfl).1
                        have n2 := (blk_cell (i := 2) (u := .slice none 0 0) QN rfl).1
                        have lR := heap_lt QR
                        have lN := heap_lt QN
                        have HQR := Lib.hid QR
                        clear QR QN
                        go_wp2
                        go_region
                        all_goals
                          (try go_wp2)
                          (try simp only [Exit.inBlock, Exit.then])
                          refine bodyPost_ret (v := .tuple #[.agg #[.slice none 0 0, .slice none 0 0, .slice none 0 0], .int .i64 vl, .int .i64 vc, .int .i64 5]) ?_ rfl ⟨?_, ?_⟩
                          · exact results_cttt (p0 := 2) (p1 := 3) (p2 := 4) (p3 := 5) rfl rfl (run_loadVar_row _ w.heap.size 29 29 _ (0, 0) _ (store3 (w := W1.drew) HQR.out _ _ _) Tryd.underlying29 rfl (by kernel_rfl))
                          · exact store3_below (HBW1.out.drew) (Nat.le_refl _) _ _ _
                          · unfold ParseEndR
                            rw [hpar2.out]
                            rfl
                      · as_aux_lemma =>
                        have h6b : ¬ (6 : Int) ≤ r.length := by omega
                        have hr5 : r.length ≤ 5 := by omega
                        have HK := Lib.hid hk
                        clear h6 hk
                        have HFI := Lib.hid (find_any an cn ns vt W1 (own_cells HP1.out.g.rws.n).1 (by omega))
                        cases hi : idx ns vt with
                        | none =>
                          as_aux_lemma =>
                          have hpar2 := Lib.hid (HERR.out vl vc 3 (by rw [HPF.out, HDJ.out]; simp only [partsF]; rw [if_pos (.inl HK.out), if_neg (by omega), if_pos HK.out, hi]))
                          have HFJ := Lib.hid (HFI.out.mono fun e w' ⟨he, hw⟩ => (⟨he.trans (by rw [hi]; rfl), hw⟩ : e = Ending.returned (.int .i64 (-1)) ∧ w' = W1))
                          clear hi
                          go_upto_region 33 with fail
                          refine HFJ.out.mono ?_
                          rintro e W9 ⟨rfl, rfl⟩
                          go_upto_region 33 with fail
                          obtain ⟨v0, z0⟩ := blk_cell (i := 0) (u := .slice none 0 0) QR rfl
                          obtain ⟨v1, z1⟩ := blk_cell (i := 1) (u := .slice none 0 0) QR rfl
                          obtain ⟨v2, z2⟩ := blk_cell (i := 2) (u := .slice none 0 0) QR rfl
                          have n0 := (blk_cell (i := 0) (u := .slice none 0 0) QN rfl).1
                          have n1 := (blk_cell (i := 1) (u := .slice none 0 0) QN rfl).1
                          have n2 := (blk_cell (i := 2) (u := .slice none 0 0) QN rfl).1
                          have lR := heap_lt QR
                          have lN := heap_lt QN
                          have HQR := Lib.hid QR
                          clear QR QN
                          go_wp2
                          go_region
                          all_goals
                            (try go_wp2)
                            (try simp only [Exit.inBlock, Exit.then])
                            refine bodyPost_ret (v := .tuple #[.agg #[.slice none 0 0, .slice none 0 0, .slice none 0 0], .int .i64 vl, .int .i64 vc, .int .i64 3]) ?_ rfl ⟨?_, ?_⟩
                            · exact results_cttt (p0 := 2) (p1 := 3) (p2 := 4) (p3 := 5) rfl rfl (run_loadVar_row _ w.heap.size 29 29 _ (0, 0) _ (store3 (w := W9.drew) HQR.out _ _ _) Tryd.underlying29 rfl (by kernel_rfl))
                            · exact store3_below (HBW1.out.drew) (Nat.le_refl _) _ _ _
                            · unfold ParseEndR
                              rw [hpar2.out]
                              rfl
                        | some ii =>
                          as_aux_lemma =>
                          have hidx := idx_at' hi
                          have hii8 : ii < 8 := by have := (List.getElem?_eq_some_iff.1 hidx).1; omega
                          have hN := Lib.hid (show partsF ns (100 + (k : Int)) rest ts (ls.map Lay.plain) [] ⟨uk, ut, ul, uc⟩ = partsF ns (100 + (k : Int)) (rest.drop (j + 1)) ts' (ls'.map Lay.plain) (r ++ [100 + (ii : Int)]) bt by rw [HPF.out, HDJ.out]; simp only [partsF]; rw [if_pos (.inl HK.out), if_neg (by omega), if_pos HK.out, hi]; simp only []; rw [show ((100 + ii : Nat) : Int) = 100 + (ii : Int) by omega])
                          have HFJ := Lib.hid (HFI.out.mono fun e w' ⟨he, hw⟩ => (⟨he.trans (by rw [hi]; rfl), hw⟩ : e = Ending.returned (.int .i64 (ii : Nat)) ∧ w' = W1))
                          have hiin : ¬ (ii : Int) < 0 := by omega
                          clear hi hidx QR QN
                          go_upto_region 35 with fail
                          refine HFJ.out.mono ?_
                          rintro e W9 ⟨rfl, rfl⟩
                          go_upto_region 35 with fail
                          go_wp2_with (at_builtin; refine wpList_append_lies _ rfl (.tmp 155) (.tmp 158) 25 rfl F 3 i0 (.int .i64 0) 1 8 Tryd.underlying25 hi0 hz0 hz1 hz2 rfl (by decide) _ r.length (nums r) rfl (HP1.out.ow.alloc _) ⟨W9.heap.size, 0, none⟩ 1 1 [.int .i64 (100 + (ii : Int))] rfl rfl (World.news_of_block (cs := #[.int .i64 (100 + (ii : Int))]) (t := 3) (fr := (0, 0)) (heap_alloc_new W9 _)) (by simp [Value.oneCell']) (by decide) (by unfold maxLen; omega) (by omega) (by have := HP1.out.le; simp; omega) W9.heap.size.succ (by simp) ?_; intro g cap4 w4 hown4 hgrow4 hat4 hlt4; have q4 := (hgrow4.block (R + 1) (by simp; omega) (by intro e; have := (own_block HP1.out.ow e.symm).1; have := HP1.out.PA; have := HP1.out.AF; omega)).trans ((Below.heap_alloc W9 _ (R + 1) lP).trans HP1.out.qP); obtain ⟨c84, z84⟩ := blk_cell (i := 1) (u := .slice ra r.length rc) q4 rfl; have l4 := heap_lt q4; have HO4 := Lib.hid hown4; have HG4 := Lib.hid hgrow4; clear hown4 hgrow4 hat4 hlt4 q4)
                          have hpF := (HP1.out.below ((Below.refl _ _).alloc (Nat.le_refl _) (.cells #[.int .i64 (100 + (ii : Int))] 3))).row HO4.out HG4.out
                          have hbF : Below b S (w4.setCell ⟨R + 1, 1, none⟩ (.slice (some ⟨g, 0, none⟩) (r.length + 1) cap4)) := ((HBQ1.out.alloc (Nat.le_of_lt lb) _).grown HG4.out (by simp; omega) (fun x hx => by have := (own_block HP1.out.ow hx).1; have := HP1.out.bR; have := HP1.out.RP; have := HP1.out.PA; have := HP1.out.AF; omega)).setCell (p := ⟨R + 1, 1, none⟩) (by have := HP1.out.bR; show b ≤ R + 1; omega) _
                          exact ⟨⟨j + 1, F, ts', ls', at', ap', ct', cp', some ⟨g, 0, none⟩, r ++ [100 + (ii : Int)], cap4, bt, by omega, by go_num, ht8', hl24', by simp; omega, HQ6, Lib.hid hpF, hbF, hN⟩, by simp [intOf]; omega⟩
                    · as_aux_lemma =>
                      by_cases hk2 : vk = 2
                      · as_aux_lemma =>
                        have hk1b : ((vk : Int) == 1) = false := by simp [hk2]
                        have hk2b : ((vk : Int) == 2) = true := by simp [hk2]
                        by_cases h6 : r.length = 6
                        · as_aux_lemma =>
                          have h6b : (6 : Int) ≤ r.length := by omega
                          have hpar2 := Lib.hid (HERR.out vl vc 5 (by rw [HPF.out, HDJ.out]; simp only [partsF]; rw [if_pos (.inr hk2), if_pos (by omega)]))
                          clear h6 hk hk2
                          go_upto_region 30 with fail
                          obtain ⟨v0, z0⟩ := blk_cell (i := 0) (u := .slice none 0 0) QR rfl
                          obtain ⟨v1, z1⟩ := blk_cell (i := 1) (u := .slice none 0 0) QR rfl
                          obtain ⟨v2, z2⟩ := blk_cell (i := 2) (u := .slice none 0 0) QR rfl
                          have n0 := (blk_cell (i := 0) (u := .slice none 0 0) QN rfl).1
                          have n1 := (blk_cell (i := 1) (u := .slice none 0 0) QN rfl).1
                          have n2 := (blk_cell (i := 2) (u := .slice none 0 0) QN rfl).1
                          have lR := heap_lt QR
                          have lN := heap_lt QN
                          have HQR := Lib.hid QR
                          clear QR QN
                          go_wp2
                          go_region
                          all_goals
                            (try go_wp2)
                            (try simp only [Exit.inBlock, Exit.then])
                            refine bodyPost_ret (v := .tuple #[.agg #[.slice none 0 0, .slice none 0 0, .slice none 0 0], .int .i64 vl, .int .i64 vc, .int .i64 5]) ?_ rfl ⟨?_, ?_⟩
                            · exact results_cttt (p0 := 2) (p1 := 3) (p2 := 4) (p3 := 5) rfl rfl (run_loadVar_row _ w.heap.size 29 29 _ (0, 0) _ (store3 (w := W1.drew) HQR.out _ _ _) Tryd.underlying29 rfl (by kernel_rfl))
                            · exact store3_below (HBW1.out.drew) (Nat.le_refl _) _ _ _
                            · unfold ParseEndR
                              rw [hpar2.out]
                              rfl
                        · as_aux_lemma =>
                          have h6b : ¬ (6 : Int) ≤ r.length := by omega
                          have hr5 : r.length ≤ 5 := by omega
                          have HK := Lib.hid hk
                          have HK2 := Lib.hid hk2
                          clear h6 hk hk2
                          have HFI := Lib.hid ((find_any an cn ns vt W1 (own_cells HP1.out.g.rws.n).1 (by omega)).mono fun e w' ⟨he, hw⟩ => (⟨_, he, hw⟩ : ∃ z : Int, e = Ending.returned (.int .i64 z) ∧ w' = W1))
                          go_upto_region 33 with fail
                          refine HFI.out.mono ?_
                          rintro e W9 ⟨z, rfl, rfl⟩
                          have HFT := Lib.hid (find_any at' ct' ts' vt W9 (own_cells HP1.out.g.rws.t).1 (by omega))
                          cases hi : idx ts' vt with
                          | none =>
                            as_aux_lemma =>
                            have HFJ := Lib.hid (HFT.out.mono fun e w' ⟨he, hw⟩ => (⟨he.trans (by rw [hi]; rfl), hw⟩ : e = Ending.returned (.int .i64 (-1)) ∧ w' = W9))
                            by_cases ht : ts'.length = 8
                            · as_aux_lemma =>
                              have htb : (8 : Int) ≤ ts'.length := by omega
                              have hpar2 := Lib.hid (HERR.out vl vc 5 (by rw [HPF.out, HDJ.out]; simp only [partsF]; rw [if_pos (.inr HK2.out), if_neg (by omega), if_neg HK.out, hi]; simp only []; rw [if_pos (by omega)]))
                              clear hi ht
                              go_upto_region 37 with fail
                              refine HFJ.out.mono ?_
                              rintro e W10 ⟨rfl, rfl⟩
                              go_upto_region 38 with fail
                              obtain ⟨v0, z0⟩ := blk_cell (i := 0) (u := .slice none 0 0) QR rfl
                              obtain ⟨v1, z1⟩ := blk_cell (i := 1) (u := .slice none 0 0) QR rfl
                              obtain ⟨v2, z2⟩ := blk_cell (i := 2) (u := .slice none 0 0) QR rfl
                              have n0 := (blk_cell (i := 0) (u := .slice none 0 0) QN rfl).1
                              have n1 := (blk_cell (i := 1) (u := .slice none 0 0) QN rfl).1
                              have n2 := (blk_cell (i := 2) (u := .slice none 0 0) QN rfl).1
                              have lR := heap_lt QR
                              have lN := heap_lt QN
                              have HQR := Lib.hid QR
                              clear QR QN
                              go_wp2
                              go_region
                              all_goals
                                (try go_wp2)
                                (try simp only [Exit.inBlock, Exit.then])
                                refine bodyPost_ret (v := .tuple #[.agg #[.slice none 0 0, .slice none 0 0, .slice none 0 0], .int .i64 vl, .int .i64 vc, .int .i64 5]) ?_ rfl ⟨?_, ?_⟩
                                · exact results_cttt (p0 := 2) (p1 := 3) (p2 := 4) (p3 := 5) rfl rfl (run_loadVar_row _ w.heap.size 29 29 _ (0, 0) _ (store3 (w := W10.drew) HQR.out _ _ _) Tryd.underlying29 rfl (by kernel_rfl))
                                · exact store3_below (HBW1.out.drew) (Nat.le_refl _) _ _ _
                                · unfold ParseEndR
                                  rw [hpar2.out]
                                  rfl
                            · as_aux_lemma =>
                              have htb : ¬ (8 : Int) ≤ ts'.length := by omega
                              have ht7 : ts'.length ≤ 7 := by omega
                              have hN := Lib.hid (show partsF ns (100 + (k : Int)) rest ts (ls.map Lay.plain) [] ⟨uk, ut, ul, uc⟩ = partsF ns (100 + (k : Int)) (rest.drop (j + 1)) (ts' ++ [vt]) (ls'.map Lay.plain) (r ++ [(ts'.length : Int) + 1]) bt by rw [HPF.out, HDJ.out]; simp only [partsF]; rw [if_pos (.inr HK2.out), if_neg (by omega), if_neg HK.out, hi]; simp only []; rw [if_neg (by omega), show ((ts'.length + 1 : Nat) : Int) = (ts'.length : Int) + 1 by omega])
                              clear hi ht
                              go_upto_region 37 with fail
                              refine HFJ.out.mono ?_
                              rintro e W10 ⟨rfl, rfl⟩
                              clear QR QN
                              go_upto_region 42 with (at_builtin; refine wpList_append_lies _ rfl (.tmp 185) (.tmp 188) 26 rfl (b + 1) 9 i2 (.string ⟨#[]⟩) 1 16 Tryd.underlying26 hi2 hx0 hx1 hx2 rfl (by decide) _ ts'.length (strs ts') rfl (HP1.out.g.rws.t.alloc _) ⟨W10.heap.size, 0, none⟩ 1 1 [.string ⟨vt.toArray⟩] rfl rfl (World.news_of_block (cs := #[.string ⟨vt.toArray⟩]) (t := 9) (fr := (0, 0)) (heap_alloc_new W10 _)) (by simp [Value.oneCell']) (by decide) (by unfold maxLen; omega) (by omega) (by have := HP1.out.g.le; simp; omega) W10.heap.size.succ (by simp) ?_; intro g cap4 w4 hown4 hgrow4 hat4 hlt4; have q4 := (hgrow4.block b (by simp; omega) (by intro e; have := (own_block HP1.out.g.rws.t e.symm).1; omega)).trans ((Below.heap_alloc W10 _ b lb).trans HP1.out.g.blk); obtain ⟨p4, z4⟩ := blk_cell (i := 0) (u := .slice at' ts'.length ct') q4 rfl; have l4 := heap_lt q4; have HO4 := Lib.hid hown4; have HGR4 := Lib.hid hgrow4; have HAT4 := Lib.hid hat4; clear hown4 hgrow4 hat4 hlt4 q4)
                              have HP5 := Lib.hid ((HP1.out.below ((Below.refl _ _).alloc (Nat.le_refl _) (.cells #[.string ⟨vt.toArray⟩] 9))).term HO4.out HGR4.out (by rcases HAT4.out with h | h; exact .inl h; exact .inr (by simp; omega)))
                              have HB5 := Lib.hid (((HBQ1.out.alloc (Nat.le_of_lt lb) _).grown HGR4.out (by simp; omega) (fun x hx => by have := (own_block HP1.out.g.rws.t hx).1; omega)).setCell (p := ⟨b, 0, none⟩) (Nat.le_refl b) (.slice (some ⟨g, 0, none⟩) (ts'.length + 1) cap4))
                              clear HO4 HGR4 HAT4 p4 z4 l4
                              generalize w4.setCell ⟨b, 0, none⟩ (.slice (some ⟨g, 0, none⟩) (ts'.length + 1) cap4) = W5 at *
                              have p5 := (blk_cell (i := 1) (u := .slice ra r.length rc) HP5.out.qP rfl).1
                              obtain ⟨lb5, lP5⟩ := And.intro (heap_lt HP5.out.g.blk) (heap_lt HP5.out.qP)
                              go_wp2_with (at_builtin; refine wpList_append_lies _ rfl (.tmp 192) (.tmp 195) 25 rfl F 3 i0 (.int .i64 0) 1 8 Tryd.underlying25 hi0 hz0 hz1 hz2 rfl (by decide) _ r.length (nums r) rfl (HP5.out.ow.alloc _) ⟨W5.heap.size, 0, none⟩ 1 1 [.int .i64 ((ts'.length : Int) + 1)] rfl rfl (World.news_of_block (cs := #[.int .i64 ((ts'.length : Int) + 1)]) (t := 3) (fr := (0, 0)) (heap_alloc_new W5 _)) (by simp [Value.oneCell']) (by decide) (by unfold maxLen; omega) (by omega) (by have := HP5.out.le; simp; omega) W5.heap.size.succ (by simp) ?_; intro g5 cap5 w6 hown4 hgrow4 hat4 hlt4; have q4 := (hgrow4.block (R + 1) (by simp; omega) (by intro e; have := (own_block HP5.out.ow e.symm).1; have := HP5.out.PA; have := HP5.out.AF; omega)).trans ((Below.heap_alloc W5 _ (R + 1) lP5).trans HP5.out.qP); obtain ⟨c84, z84⟩ := blk_cell (i := 1) (u := .slice ra r.length rc) q4 rfl; have l6 := heap_lt q4; have HO6 := Lib.hid hown4; have HG6 := Lib.hid hgrow4; clear hown4 hgrow4 hat4 hlt4 q4)
                              have hpF := (HP5.out.below ((Below.refl _ _).alloc (Nat.le_refl _) (.cells #[.int .i64 ((ts'.length : Int) + 1)] 3))).row HO6.out HG6.out
                              have hbF : Below b S (w6.setCell ⟨R + 1, 1, none⟩ (.slice (some ⟨g5, 0, none⟩) (r.length + 1) cap5)) := ((HB5.out.alloc (Nat.le_of_lt lb5) _).grown HG6.out (by simp; omega) (fun x hx => by have := (own_block HP5.out.ow hx).1; have := HP5.out.bR; have := HP5.out.RP; have := HP5.out.PA; have := HP5.out.AF; omega)).setCell (p := ⟨R + 1, 1, none⟩) (by have := HP5.out.bR; show b ≤ R + 1; omega) _
                              exact ⟨⟨j + 1, F, ts' ++ [vt], ls', some ⟨g, 0, none⟩, ap', cap4, cp', some ⟨g5, 0, none⟩, r ++ [(ts'.length : Int) + 1], cap5, bt, by omega, by go_num, by simp; omega, hl24', by simp; omega, HQ6, Lib.hid hpF, hbF, hN⟩, by simp [intOf]; omega⟩
                          | some ii =>
                            as_aux_lemma =>
                            have hidx := idx_at' hi
                            have hii8 : ii < 8 := by have := (List.getElem?_eq_some_iff.1 hidx).1; omega
                            have hN := Lib.hid (show partsF ns (100 + (k : Int)) rest ts (ls.map Lay.plain) [] ⟨uk, ut, ul, uc⟩ = partsF ns (100 + (k : Int)) (rest.drop (j + 1)) ts' (ls'.map Lay.plain) (r ++ [(ii : Int) + 1]) bt by rw [HPF.out, HDJ.out]; simp only [partsF]; rw [if_pos (.inr HK2.out), if_neg (by omega), if_neg HK.out, hi]; simp only []; rw [show ((ii + 1 : Nat) : Int) = (ii : Int) + 1 by omega])
                            have HFJ := Lib.hid (HFT.out.mono fun e w' ⟨he, hw⟩ => (⟨he.trans (by rw [hi]; rfl), hw⟩ : e = Ending.returned (.int .i64 (ii : Nat)) ∧ w' = W9))
                            have hiin : ¬ (ii : Int) < 0 := by omega
                            clear hi hidx QR QN
                            go_upto_region 37 with fail
                            refine HFJ.out.mono ?_
                            rintro e W10 ⟨rfl, rfl⟩
                            go_upto_region 42 with fail
                            go_wp2_with (at_builtin; refine wpList_append_lies _ rfl (.tmp 192) (.tmp 195) 25 rfl F 3 i0 (.int .i64 0) 1 8 Tryd.underlying25 hi0 hz0 hz1 hz2 rfl (by decide) _ r.length (nums r) rfl (HP1.out.ow.alloc _) ⟨W10.heap.size, 0, none⟩ 1 1 [.int .i64 ((ii : Int) + 1)] rfl rfl (World.news_of_block (cs := #[.int .i64 ((ii : Int) + 1)]) (t := 3) (fr := (0, 0)) (heap_alloc_new W10 _)) (by simp [Value.oneCell']) (by decide) (by unfold maxLen; omega) (by omega) (by have := HP1.out.le; simp; omega) W10.heap.size.succ (by simp) ?_; intro g cap4 w4 hown4 hgrow4 hat4 hlt4; have q4 := (hgrow4.block (R + 1) (by simp; omega) (by intro e; have := (own_block HP1.out.ow e.symm).1; have := HP1.out.PA; have := HP1.out.AF; omega)).trans ((Below.heap_alloc W10 _ (R + 1) lP).trans HP1.out.qP); obtain ⟨c84, z84⟩ := blk_cell (i := 1) (u := .slice ra r.length rc) q4 rfl; have l4 := heap_lt q4; have HO4 := Lib.hid hown4; have HG4 := Lib.hid hgrow4; clear hown4 hgrow4 hat4 hlt4 q4)
                            have hpF := (HP1.out.below ((Below.refl _ _).alloc (Nat.le_refl _) (.cells #[.int .i64 ((ii : Int) + 1)] 3))).row HO4.out HG4.out
                            have hbF : Below b S (w4.setCell ⟨R + 1, 1, none⟩ (.slice (some ⟨g, 0, none⟩) (r.length + 1) cap4)) := ((HBQ1.out.alloc (Nat.le_of_lt lb) _).grown HG4.out (by simp; omega) (fun x hx => by have := (own_block HP1.out.ow hx).1; have := HP1.out.bR; have := HP1.out.RP; have := HP1.out.PA; have := HP1.out.AF; omega)).setCell (p := ⟨R + 1, 1, none⟩) (by have := HP1.out.bR; show b ≤ R + 1; omega) _
                            exact ⟨⟨j + 1, F, ts', ls', at', ap', ct', cp', some ⟨g, 0, none⟩, r ++ [(ii : Int) + 1], cap4, bt, by omega, by go_num, ht8', hl24', by simp; omega, HQ6, Lib.hid hpF, hbF, hN⟩, by simp [intOf]; omega⟩
                      · as_aux_lemma =>
                        have hk1b : ((vk : Int) == 1) = false := beq_false_of_ne (by omega)
                        have hk2b : ((vk : Int) == 2) = false := beq_false_of_ne (by omega)
                        obtain ⟨bk, bx, bl, bc⟩ := bt
                        have a2 := (blk_cell (i := 2) (u := .int .i64 bl) HP1.out.qA rfl).1
                        have a3 := (blk_cell (i := 3) (u := .int .i64 bc) HP1.out.qA rfl).1
                        have HK := Lib.hid (show ¬ (vk = 1 ∨ vk = 2) from fun h => h.elim hk hk2)
                        clear hk hk2
                        by_cases h24 : ls'.length = 24
                        · as_aux_lemma =>
                          have h24b : (24 : Int) ≤ ls'.length := by omega
                          have hpar2 := Lib.hid (HERR.out bl bc 5 (by rw [HPF.out, HDJ.out]; simp only [partsF]; rw [if_neg HK.out, if_pos (by simp; omega)]))
                          clear h24
                          go_upto_region 44 with fail
                          obtain ⟨v0, z0⟩ := blk_cell (i := 0) (u := .slice none 0 0) QR rfl
                          obtain ⟨v1, z1⟩ := blk_cell (i := 1) (u := .slice none 0 0) QR rfl
                          obtain ⟨v2, z2⟩ := blk_cell (i := 2) (u := .slice none 0 0) QR rfl
                          have n0 := (blk_cell (i := 0) (u := .slice none 0 0) QN rfl).1
                          have n1 := (blk_cell (i := 1) (u := .slice none 0 0) QN rfl).1
                          have n2 := (blk_cell (i := 2) (u := .slice none 0 0) QN rfl).1
                          have lR := heap_lt QR
                          have lN := heap_lt QN
                          have HQR := Lib.hid QR
                          clear QR QN
                          go_wp2
                          go_region
                          all_goals
                            (try go_wp2)
                            (try simp only [Exit.inBlock, Exit.then])
                            refine bodyPost_ret (v := .tuple #[.agg #[.slice none 0 0, .slice none 0 0, .slice none 0 0], .int .i64 bl, .int .i64 bc, .int .i64 5]) ?_ rfl ⟨?_, ?_⟩
                            · exact results_cttt (p0 := 2) (p1 := 3) (p2 := 4) (p3 := 5) rfl rfl (run_loadVar_row _ w.heap.size 29 29 _ (0, 0) _ (store3 (w := W1.drew) HQR.out _ _ _) Tryd.underlying29 rfl (by kernel_rfl))
                            · exact store3_below (HBW1.out.drew) (Nat.le_refl _) _ _ _
                            · unfold ParseEndR
                              rw [hpar2.out]
                              rfl
                        · as_aux_lemma =>
                          have h24b : ¬ (24 : Int) ≤ ls'.length := by omega
                          have hl23 : ls'.length ≤ 23 := by omega
                          have HPF2 := Lib.hid (show partsF ns (100 + (k : Int)) rest ts (ls.map Lay.plain) [] ⟨uk, ut, ul, uc⟩ = if (100 + (k : Int), r) ∈ ls'.map Lay.plain then .inr (bl, bc, 4) else partsF ns (100 + (k : Int)) (rest.drop (j + 1)) ts' (ls'.map Lay.plain ++ [(100 + (k : Int), r)]) [] ((rest.drop (j + 1)).headD ⟨bk, bx, bl, bc⟩) by rw [HPF.out, HDJ.out]; simp only [partsF]; rw [if_neg HK.out, if_neg (by simp; omega)])
                          clear h24
                          go_upto_region 45 with fail
                          clear t0 t1 t2 t3 a2 a3 QR QN
                          go_wp2
                          go_loopw [210] (fun i wl => ∃ m : Nat, m ≤ ls'.length ∧ i = .int .i64 m ∧ Hid (PSt b R (R + 1) (R + 1 + 1) F wl ts' ns ls' at' an ap' ct' cn cp' #[.int .i64 nk, .string ⟨nt.toArray⟩, .int .i64 nl, .int .i64 nc, .slice (some ⟨tb, tof, none⟩) rest.length rcp] (100 + (k : Int)) ra r rc ⟨bk, bx, bl, bc⟩) ∧ Hid (Below b S wl) ∧ Hid (∀ m', m' < m → (ls'.map Lay.plain)[m']? ≠ some (100 + (k : Int), r))) (fun i _ => ls'.length - (intOf i).toNat)
                          case atStart => exact ⟨0, by omega, rfl, HP1, HBQ1, Lib.hid (by intro m' h; omega)⟩
                          case round =>
                            rename World => wl
                            clear HP1 HBQ1 HBW1
                            obtain ⟨m, hm, rfl, HP6, HB6, HNO⟩ := hrel
                            by_cases hml : m < ls'.length
                            · as_aux_lemma =>
                              obtain ⟨q, hq⟩ : ∃ q, ls'[m]? = some q := ⟨_, List.getElem?_eq_getElem hml⟩
                              have hqm := List.mem_of_getElem? hq
                              obtain ⟨ql, qr, qa, qc⟩ := q
                              have hne : lays ls' ≠ [] := fun e => by have := (lays_at ls' m _ hq).1; rw [e] at this; simp at this
                              obtain ⟨pb, po, hpa, hpl, hpc⟩ := (own_cells HP6.out.g.rws.p).1.get hne
                              subst hpa
                              have x6 := hpc _ _ (lays_at ls' m _ hq).1
                              have x7 := hpc _ _ (lays_at ls' m _ hq).2
                              rw [← Nat.add_assoc] at x7
                              simp only at x6 x7
                              have e6 : (m : Int) < ls'.length := by omega
                              have hBQ : Below wl.heap.size wl (wl.alloc (.cells #[.int .i64 ql, .slice qa qr.length qc] 68)) := (Below.refl _ _).alloc (Nat.le_refl _) _
                              have hqQ := heap_alloc_new wl (.cells #[.int .i64 ql, .slice qa qr.length qc] 68)
                              have HP7 := Lib.hid (HP6.out.below hBQ)
                              have HB7 := Lib.hid (HB6.out.trans (hBQ.mono (Nat.le_of_lt (heap_lt HP6.out.g.blk))))
                              have y0 := (blk_cell (i := 0) (u := .int .i64 ql) hqQ rfl).1
                              have y1 := (blk_cell (i := 1) (u := .slice qa qr.length qc) hqQ rfl).1
                              have p0' := (blk_cell (i := 0) (u := .int .i64 (100 + (k : Int))) HP7.out.qP rfl).1
                              have p1' := (blk_cell (i := 1) (u := .slice ra r.length rc) HP7.out.qP rfl).1
                              have yl := heap_lt hqQ
                              have hql : qr.length ≤ 6 := HQ6.out _ hqm
                              have HRC := Lib.hid (sameRow_any qa ra qc rc qr r (wl.alloc (.cells #[.int .i64 ql, .slice qa qr.length qc] 68)) (own_cells (HP7.out.g.rws.r _ hqm)).1 (own_cells HP7.out.ow).1 (by omega) (by omega))
                              have HMQ := Lib.hid (show (ls'.map Lay.plain)[m]? = some (ql, qr) by rw [List.getElem?_map, hq]; rfl)
                              clear hqm hq hne hBQ hqQ p0 p1 b0 b1 b2
                              go_upto_region 48 with fail
                              clear x6 x7 hpc hpl
                              generalize wl.alloc (.cells #[.int .i64 ql, .slice qa qr.length qc] 68) = W7 at *
                              by_cases hall : (ql, qr) = (100 + (k : Int), r)
                              · as_aux_lemma =>
                                have hpar2 := Lib.hid (HERR.out bl bc 4 (by rw [HPF2.out, if_pos (by rw [← hall]; exact List.mem_of_getElem? HMQ.out)]))
                                have hl1' : (ql == 100 + (k : Int)) = true := beq_iff_eq.2 (congrArg Prod.fst hall)
                                have hr1' : decide (qr = r) = true := decide_eq_true (congrArg Prod.snd hall)
                                clear hall
                                go_upto_region 49 with (go_at_call 51; refine HRC.out.mono ?_; rintro e w9 ⟨rfl, n9, rfl⟩; rw [hr1'])
                                have HP9 := Lib.hid (HP7.out.below (below_drews (Below.refl _ _) n9))
                                have HB9 := Lib.hid (below_drews HB7.out n9)
                                generalize W7.drewN n9 = W9 at *
                                have a2 := (blk_cell (i := 2) (u := .int .i64 bl) HP9.out.qA rfl).1
                                have a3 := (blk_cell (i := 3) (u := .int .i64 bc) HP9.out.qA rfl).1
                                have lA9 := heap_lt HP9.out.qA
                                have QR := (HB9.out.block w.heap.size (by omega)).trans HQR.out
                                have QN := (HB9.out.block (w.heap.size + 1) (by omega)).trans HQN.out
                                have HBW1 := Lib.hid (HBW.out.trans (HB9.out.mono (by omega)))
                                obtain ⟨v0, z0⟩ := blk_cell (i := 0) (u := .slice none 0 0) QR rfl
                                obtain ⟨v1, z1⟩ := blk_cell (i := 1) (u := .slice none 0 0) QR rfl
                                obtain ⟨v2, z2⟩ := blk_cell (i := 2) (u := .slice none 0 0) QR rfl
                                have n0 := (blk_cell (i := 0) (u := .slice none 0 0) QN rfl).1
                                have n1 := (blk_cell (i := 1) (u := .slice none 0 0) QN rfl).1
                                have n2 := (blk_cell (i := 2) (u := .slice none 0 0) QN rfl).1
                                have lR := heap_lt QR
                                have lN := heap_lt QN
                                have HQR := Lib.hid QR
                                clear QR QN
                                go_wp2
                                go_region
                                all_goals
                                  (try go_wp2)
                                  (try simp only [Exit.inBlock, Exit.then])
                                  refine bodyPost_ret (v := .tuple #[.agg #[.slice none 0 0, .slice none 0 0, .slice none 0 0], .int .i64 bl, .int .i64 bc, .int .i64 4]) ?_ rfl ⟨?_, ?_⟩
                                  · exact results_cttt (p0 := 2) (p1 := 3) (p2 := 4) (p3 := 5) rfl rfl (run_loadVar_row _ w.heap.size 29 29 _ (0, 0) _ (store3 (w := W9.drew) HQR.out _ _ _) Tryd.underlying29 rfl (by kernel_rfl))
                                  · exact store3_below (HBW1.out.drew) (Nat.le_refl _) _ _ _
                                  · unfold ParseEndR
                                    rw [hpar2.out]
                                    rfl
                              · as_aux_lemma =>
                                have HNO2 : Hid (∀ m', m' < m + 1 → (ls'.map Lay.plain)[m']? ≠ some (100 + (k : Int), r)) := Lib.hid fun m' hm' => by
                                  by_cases h : m' = m
                                  · subst h; rw [HMQ.out]; simpa using hall
                                  · exact HNO.out m' (by omega)
                                by_cases hlf : ql = 100 + (k : Int)
                                · as_aux_lemma =>
                                  have hl1' : (ql == 100 + (k : Int)) = true := by simp [hlf]
                                  have hr1' : decide (qr = r) = false := decide_eq_false fun e => hall (by rw [hlf, e])
                                  clear hall hlf
                                  go_wp2_with (go_at_call 51; refine HRC.out.mono ?_; rintro e w9 ⟨rfl, n9, rfl⟩; rw [hr1'])
                                  exact ⟨⟨m + 1, by omega, by go_num, Lib.hid (HP7.out.below (below_drews (Below.refl _ _) _)), Lib.hid (below_drews HB7.out _), HNO2⟩, by simp [intOf]; omega⟩
                                · as_aux_lemma =>
                                  have hl1' : (ql == 100 + (k : Int)) = false := by simpa using hlf
                                  clear hall hlf
                                  go_wp2
                                  exact ⟨⟨m + 1, by omega, by go_num, HP7, HB7, HNO2⟩, by simp [intOf]; omega⟩
                            · as_aux_lemma =>
                              have hmr : m = ls'.length := by omega
                              have e6 : ¬ (m : Int) < ls'.length := by omega
                              have hnm : (100 + (k : Int), r) ∉ ls'.map Lay.plain := fun h => by
                                obtain ⟨m', h'⟩ := List.mem_iff_getElem?.1 h
                                have hlt := (List.getElem?_eq_some_iff.1 h').1
                                exact HNO.out m' (by simp at hlt; omega) h'
                              have HN0 := Lib.hid (HPF2.out.trans (if_neg hnm))
                              clear hmr hnm hml p0 p1 b0 b1 b2
                              have p0 := (blk_cell (i := 0) (u := .int .i64 (100 + (k : Int))) HP6.out.qP rfl).1
                              have p1 := (blk_cell (i := 1) (u := .slice ra r.length rc) HP6.out.qP rfl).1
                              have b2 := (blk_cell (i := 2) (u := .slice ap' ls'.length cp') HP6.out.g.blk rfl).1
                              obtain ⟨lb6, lR6, lP6⟩ := And.intro (heap_lt HP6.out.g.blk) (And.intro (heap_lt HP6.out.qR) (heap_lt HP6.out.qP))
                              go_upto_region 52 with (at_builtin; refine wpList_append_lies _ rfl (.tmp 233) (.tmp 235) 27 rfl (b + 1) 68 i1 (.agg #[.int .i64 0, .slice none 0 0]) 2 32 Tryd.underlying27 hi1 hy0 hy1 hy2 rfl (by decide) _ ls'.length (lays ls') rfl (HP6.out.g.rws.p.alloc _) ⟨wl.heap.size, 0, none⟩ 1 1 [.int .i64 (100 + (k : Int)), .slice ra r.length rc] rfl rfl (World.news_of_block (cs := #[.int .i64 (100 + (k : Int)), .slice ra r.length rc]) (t := 68) (fr := (0, 0)) (heap_alloc_new wl _)) (by simp [Value.oneCell']) (by decide) (by unfold maxLen; omega) (by omega) (by have := HP6.out.g.le; simp; omega) wl.heap.size.succ (by simp) ?_; intro g cap4 w4 hown4 hgrow4 hat4 hlt4; have q4 := (hgrow4.block b (by simp; omega) (by intro e; have := (own_block HP6.out.g.rws.p e.symm).1; omega)).trans ((Below.heap_alloc wl _ b lb6).trans HP6.out.g.blk); obtain ⟨c84, z84⟩ := blk_cell (i := 2) (u := .slice ap' ls'.length cp') q4 rfl; have l4 := heap_lt q4; have HO4 := Lib.hid hown4; have HG4 := Lib.hid hgrow4; have HAT4 := Lib.hid hat4; clear hown4 hgrow4 hat4 hlt4 q4)
                              have HP8 := Lib.hid ((HP6.out.below ((Below.refl _ _).alloc (Nat.le_refl _) (.cells #[.int .i64 (100 + (k : Int)), .slice ra r.length rc] 68))).prod HO4.out HG4.out (by rcases HAT4.out with h | h; exact .inl h; exact .inr (by simp; omega)))
                              have hbP : b ≤ R + 1 := by have := HP6.out.bR; omega
                              have hbR1 : b < R := HP6.out.bR
                              have HB8 := Lib.hid (((((HB6.out.alloc (Nat.le_of_lt lb6) _).grown HG4.out (by simp; omega) (fun x hx => by have := (own_block HP6.out.g.rws.p hx).1; omega)).setCell (p := ⟨b, 2, none⟩) (Nat.le_refl b) (.slice (some ⟨g, 0, none⟩) (ls'.length + 1) cap4)).setCell (p := ⟨R + 1, 0, none⟩) hbP (.int .i64 (100 + (k : Int)))).setCell (p := ⟨R + 1, 1, none⟩) hbP (.slice none 0 0))
                              have qP5 := (Below.heap_setCell w4 ⟨b, 2, none⟩ (.slice (some ⟨g, 0, none⟩) (ls'.length + 1) cap4) (R + 1) (show R + 1 ≠ b by omega)).trans ((HG4.out.block (R + 1) (by simp; omega) (fun e => HP6.out.o3 e.symm)).trans ((Below.heap_alloc wl _ (R + 1) lP6).trans HP6.out.qP))
                              obtain ⟨p05, z05⟩ := blk_cell (i := 0) (u := .int .i64 (100 + (k : Int))) qP5 rfl
                              obtain ⟨p15, z15⟩ := blk_cell (i := 1) (u := .slice ra r.length rc) qP5 rfl
                              have lP5 := heap_lt qP5
                              clear qP5 HO4 HG4 HAT4 p0 p1 b2 c84
                              go_upto_region 53 with fail
                              clear p05 z05 p15 z15 lP5 z84
                              generalize ((w4.setCell ⟨b, 2, none⟩ (.slice (some ⟨g, 0, none⟩) (ls'.length + 1) cap4)).setCell ⟨R + 1, 0, none⟩ (.int .i64 (100 + (k : Int)))).setCell ⟨R + 1, 1, none⟩ (.slice none 0 0) = W8 at *
                              have r4 := (blk_cell (i := 4) (u := .slice (some ⟨tb, tof, none⟩) rest.length rcp) HP8.out.qR rfl).1
                              have lR8 := heap_lt HP8.out.qR
                              have HQ7 : Hid (∀ q ∈ ls' ++ [(⟨100 + (k : Int), r, ra, rc⟩ : Lay)], q.right.length ≤ 6) := Lib.hid fun q hq => by
                                rcases List.mem_append.1 hq with h | h
                                · exact HQ6.out q h
                                · rw [List.mem_singleton.1 h]; exact hr6
                              by_cases hjn : j + 1 < rest.length
                              · as_aux_lemma =>
                                obtain ⟨v2, hv2⟩ : ∃ v, rest[j + 1]? = some v := ⟨_, List.getElem?_eq_getElem hjn⟩
                                obtain ⟨ek, et, el, ec⟩ := v2
                                have hdj2 := drop_cons hv2
                                obtain ⟨tb3, tof3, hta3, htb3, htc3⟩ := (HRT.out W8 HB8.out).get (tall_nil_iff (by omega))
                                simp only [Option.some.injEq, Addr.mk.injEq] at hta3
                                obtain ⟨rfl, rfl, _⟩ := hta3
                                obtain ⟨d0, d1, d2, d3⟩ := tok_cells htc3 hv2
                                simp only at d0 d1 d2 d3
                                have e7 : (j : Int) + 1 < rest.length := by omega
                                have hj1 : ((j : Int) + 1).toNat = j + 1 := by omega
                                obtain ⟨k0, f0⟩ := blk_cell (i := 0) (u := .int .i64 bk) HP8.out.qA rfl
                                obtain ⟨k1, f1⟩ := blk_cell (i := 1) (u := .string ⟨bx.toArray⟩) HP8.out.qA rfl
                                obtain ⟨k2, f2⟩ := blk_cell (i := 2) (u := .int .i64 bl) HP8.out.qA rfl
                                obtain ⟨k3, f3⟩ := blk_cell (i := 3) (u := .int .i64 bc) HP8.out.qA rfl
                                have lA8 := heap_lt HP8.out.qA
                                have hbA : b ≤ R + 1 + 1 := by omega
                                have HN := Lib.hid (show partsF ns (100 + (k : Int)) rest ts (ls.map Lay.plain) [] ⟨uk, ut, ul, uc⟩ = partsF ns (100 + (k : Int)) (rest.drop (j + 1)) ts' ((ls' ++ [(⟨100 + (k : Int), r, ra, rc⟩ : Lay)]).map Lay.plain) [] ⟨ek, et, el, ec⟩ by
                                  rw [HN0.out, List.map_append, hdj2]; rfl)
                                clear hjn hv2 hdj2 htc3
                                go_wp2
                                exact ⟨⟨j + 1, _, ts', ls' ++ [⟨100 + (k : Int), r, ra, rc⟩], at', some ⟨g, 0, none⟩, ct', cap4, none, [], 0, ⟨ek, et, el, ec⟩, by omega, by go_num, ht8', by simp; omega, by simp, HQ7, Lib.hid (HP8.out.anew ⟨ek, et, el, ec⟩), ((((HB8.out.setCell (p := ⟨R + 1 + 1, 0, none⟩) hbA _).setCell (p := ⟨R + 1 + 1, 1, none⟩) hbA _).setCell (p := ⟨R + 1 + 1, 2, none⟩) hbA _).setCell (p := ⟨R + 1 + 1, 3, none⟩) hbA _), HN⟩, by simp [intOf]; omega⟩
                              · as_aux_lemma =>
                                have e7 : ¬ (j : Int) + 1 < rest.length := by omega
                                have HN := Lib.hid (show partsF ns (100 + (k : Int)) rest ts (ls.map Lay.plain) [] ⟨uk, ut, ul, uc⟩ = partsF ns (100 + (k : Int)) (rest.drop (j + 1)) ts' ((ls' ++ [(⟨100 + (k : Int), r, ra, rc⟩ : Lay)]).map Lay.plain) [] ⟨bk, bx, bl, bc⟩ by
                                  rw [HN0.out, List.map_append, List.drop_of_length_le (by omega)]; rfl)
                                clear hjn
                                go_wp2
                                exact ⟨⟨j + 1, _, ts', ls' ++ [⟨100 + (k : Int), r, ra, rc⟩], at', some ⟨g, 0, none⟩, ct', cap4, none, [], 0, ⟨bk, bx, bl, bc⟩, by omega, by go_num, ht8', by simp; omega, by simp, HQ7, HP8, HB8.out, HN⟩, by simp [intOf]; omega⟩
                  · as_aux_lemma =>
                    have e3 : ¬ (j : Int) < rest.length := by omega
                    have hjr : j = rest.length := by omega
                    have HB2 := Lib.hid (show bodiesF ns RS 0 [] [] = bodiesF ns ((rs.drop (k + 1)).map RuL.plain) (k + 1) ts' (ls'.map Lay.plain) by
                      rw [HBD.out, HPF.out, List.drop_of_length_le (by omega)]; rfl)
                    have HBQ := Lib.hid hbq
                    clear hbq hjr hjl
                    go_wp2
                    exact ⟨⟨k + 1, ts', ls', at', ap', ct', cp', by omega, by go_num, ht8', hl24', HQ6, Lib.hid HP.out.g, HBQ.out, HB2⟩, by simp [intOf]; omega⟩
              · as_aux_lemma =>
                have hkr : k = rs.length := by omega
                have e1 : ¬ (k : Int) < rs.length := by omega
                have HB0 := Lib.hid (show bodiesF ns RS 0 [] [] = .inl (ts, ls.map Lay.plain) by rw [HBF.out, List.drop_of_length_le (by omega)]; rfl)
                have b0 := (blk_cell (i := 0) (u := .slice at_ ts.length ct) HG.out.blk rfl).1
                have b1 := (blk_cell (i := 1) (u := .slice an ns.length cn) HG.out.blk rfl).1
                have b2 := (blk_cell (i := 2) (u := .slice ap ls.length cp) HG.out.blk rfl).1
                have lb := heap_lt HG.out.blk
                have QR := (hbe.block w.heap.size (by omega)).trans HQR.out
                have QN := (hbe.block (w.heap.size + 1) (by omega)).trans HQN.out
                have HBW1 := Lib.hid (HBW.out.trans (hbe.mono (by omega)))
                clear hbe hlt hkr
                by_cases ht : ts = []
                · as_aux_lemma =>
                  have ht0 : ((ts.length : Int) == 0) = true := by simp [ht]
                  have hpar2 := Lib.hid (show parse s.data.toList = .bad 0 0 2 by rw [HPAR2.out, HB0.out]; exact if_pos ht)
                  clear ht
                  go_upto_region 58 with fail
                  obtain ⟨v0, z0⟩ := blk_cell (i := 0) (u := .slice none 0 0) QR rfl
                  obtain ⟨v1, z1⟩ := blk_cell (i := 1) (u := .slice none 0 0) QR rfl
                  obtain ⟨v2, z2⟩ := blk_cell (i := 2) (u := .slice none 0 0) QR rfl
                  have n0 := (blk_cell (i := 0) (u := .slice none 0 0) QN rfl).1
                  have n1 := (blk_cell (i := 1) (u := .slice none 0 0) QN rfl).1
                  have n2 := (blk_cell (i := 2) (u := .slice none 0 0) QN rfl).1
                  have lR := heap_lt QR
                  have lN := heap_lt QN
                  have HQR := Lib.hid QR
                  clear QR QN
                  go_wp2
                  all_goals
                    (try simp only [Exit.inBlock, Exit.then])
                    refine bodyPost_ret (v := .tuple #[.agg #[.slice none 0 0, .slice none 0 0, .slice none 0 0], .int .i64 0, .int .i64 0, .int .i64 2]) ?_ rfl ⟨?_, ?_⟩
                    · exact results_cttt (p0 := 2) (p1 := 3) (p2 := 4) (p3 := 5) rfl rfl (run_loadVar_row _ w.heap.size 29 29 _ (0, 0) _ (store3 (w := wm) HQR.out _ _ _) Tryd.underlying29 rfl (by kernel_rfl))
                    · exact store3_below (HBW1.out) (Nat.le_refl _) _ _ _
                    · unfold ParseEndR
                      rw [hpar2.out]
                      rfl
                · as_aux_lemma =>
                  have ht0 : ((ts.length : Int) == 0) = false := by cases ts with | nil => exact absurd rfl ht | cons _ _ => simp; omega
                  have hpar2 := Lib.hid (show parse s.data.toList = .ok ⟨ts, ns, ls.map Lay.plain⟩ by rw [HPAR2.out, HB0.out]; exact if_neg ht)
                  clear ht
                  go_upto_region 59 with fail
                  obtain ⟨v0, z0⟩ := blk_cell (i := 0) (u := .slice none 0 0) QR rfl
                  obtain ⟨v1, z1⟩ := blk_cell (i := 1) (u := .slice none 0 0) QR rfl
                  obtain ⟨v2, z2⟩ := blk_cell (i := 2) (u := .slice none 0 0) QR rfl
                  have lR := heap_lt QR
                  have HQR2 := Lib.hid QR
                  clear QR QN
                  go_wp2
                  (try simp only [Exit.inBlock, Exit.then])
                  refine bodyPost_ret (v := .tuple #[.agg #[.slice at_ ts.length ct, .slice an ns.length cn, .slice ap ls.length cp], .int .i64 0, .int .i64 0, .int .i64 0]) ?_ rfl ⟨?_, ?_⟩
                  · exact results_cttt (p0 := 2) (p1 := 3) (p2 := 4) (p3 := 5) rfl rfl (run_loadVar_row _ w.heap.size 29 29 _ (0, 0) _ (store3 (w := wm) HQR2.out _ _ _) Tryd.underlying29 rfl (by kernel_rfl))
                  · exact store3_below HBW1.out (Nat.le_refl _) _ _ _
                  · unfold ParseEndR
                    rw [hpar2.out]
                    exact ⟨b + 1, ts, ns, ls, at_, an, ap, ct, cn, cp, rfl, by omega, HG.out.rws.keep fun k h1 h2 => store3_far _ _ _ k (by omega), rfl⟩
  · have hlt : 0 < pl.1 := by have := txt_bad (t := s.data.toList) (by rw [hL]; exact hp); rw [hL] at this; exact this
    obtain ⟨p1, p2⟩ := pl
    have hpar := Lib.hid (show parse s.data.toList = .bad p1 p2 2 by unfold parse; rw [hL]; simp only; rw [if_pos hp])
    have HTO := Lib.hid (show ∀ W : World, Calls Tryd.prog 62 #[.string s] W fun e w' => (∃ v : Value, e = .returned (.tuple #[v, .int .i64 p1, .int .i64 p2])) ∧ Below W.heap.size W w' from fun W => (hto W).mono fun e w' ⟨hb, he⟩ => by
      unfold RefEnd at he
      rw [hL, if_neg hp] at he
      exact ⟨⟨_, he⟩, hb⟩)
    simp only at hlt
    have hlt2 : (0 : Int) < p1 := by omega
    clear hto hends htl hp hL hlt
    go_enter Tryd.func25, Tryd.ntmps25
    go_upto_region 4 with (go_at_call 62; refine (HTO.out _).mono ?_; rintro e w2 ⟨⟨v, rfl⟩, hb2⟩)
    have HBW := Lib.hid (HF2.out.trans (hb2.mono HF2.out.size))
    have QR := (hb2.block w.heap.size (by rw [HFZ.out]; omega)).trans HFR.out
    have QN := (hb2.block (w.heap.size + 1) (by rw [HFZ.out]; omega)).trans HFN.out
    clear hb2
    obtain ⟨v0, z0⟩ := blk_cell (i := 0) (u := .slice none 0 0) QR rfl
    obtain ⟨v1, z1⟩ := blk_cell (i := 1) (u := .slice none 0 0) QR rfl
    obtain ⟨v2, z2⟩ := blk_cell (i := 2) (u := .slice none 0 0) QR rfl
    have n0 := (blk_cell (i := 0) (u := .slice none 0 0) QN rfl).1
    have n1 := (blk_cell (i := 1) (u := .slice none 0 0) QN rfl).1
    have n2 := (blk_cell (i := 2) (u := .slice none 0 0) QN rfl).1
    have lR := heap_lt QR
    have lN := heap_lt QN
    have HQR := Lib.hid QR
    clear QR QN
    go_wp2
    all_goals
      (try simp only [Exit.inBlock, Exit.then])
      refine bodyPost_ret (v := .tuple #[.agg #[.slice none 0 0, .slice none 0 0, .slice none 0 0], .int .i64 p1, .int .i64 p2, .int .i64 2]) ?_ rfl ⟨?_, ?_⟩
      · exact results_cttt (p0 := 2) (p1 := 3) (p2 := 4) (p3 := 5) rfl rfl (run_loadVar_row _ w.heap.size 29 29 _ (0, 0) _ (store3 (w := w2) HQR.out _ _ _) Tryd.underlying29 rfl (by kernel_rfl))
      · exact store3_below (HBW.out) (Nat.le_refl _) _ _ _
      · unfold ParseEndR
        rw [hpar.out]
        rfl

end Go.Proofs.YtejjdfmobiegdaaDoor
