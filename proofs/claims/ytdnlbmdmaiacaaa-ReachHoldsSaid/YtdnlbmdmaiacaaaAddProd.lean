/- addProd: a part becomes a production. -/
import Derived.Test.YtdnlbmdmaiacaaaSymE
import Derived.RegionDies
namespace Go.Proofs.Ytdnlbmdmaiacaaa
open Go.RowKit
open Doc

/-- The cells xs lie at a, whatever is made or written from block b on. -/
def Under (b : Nat) (w : World) (a : Option Addr) (xs : List Value) : Prop := ∀ W, Below b w W → Cells W a xs
theorem Under.trans {b : Nat} {w w' : World} {a : Option Addr} {xs : List Value} (h : Under b w a xs) (hb : Below b w w') : Under b w' a xs := fun W hW => h W (hb.trans hW)

section
variable {b : Nat} {w : World} {ts ns : List (List UInt8)} {ls : List Lay} {at_ an ap : Option Addr} {ct cn cp : Nat}

theorem own_base {w : World} {B B' e size n : Nat} {v : Value} {xs : List Value} (h : w.ownsRow B e size v n xs) (hB : B' ≤ B) : w.ownsRow B' e size v n xs := by
  refine ⟨h.1, ?_⟩
  rcases h.2 with h0 | ⟨g, cap, cur, hv, hg, rest⟩
  · exact .inl h0
  · exact .inr ⟨g, cap, cur, hv, Nat.le_trans hB hg, rest⟩

theorem any_mem (ls : List Lay) (x : Int × List Int) : (ls.any fun q => decide (x = q.plain)) = true ↔ x ∈ ls.map Lay.plain := by
  rw [List.any_eq_true, List.mem_map]
  constructor
  · rintro ⟨q, hq, h⟩; exact ⟨q, hq, (of_decide_eq_true h).symm⟩
  · rintro ⟨q, hq, h⟩; exact ⟨q, hq, decide_eq_true h.symm⟩

/-- The builder stands while the part's own row grows. -/
theorem bld_row {B7 : Nat} {w2 w4 : World} {ra : Option Addr} {r : List Int} {rc : Nat} {o : Obj} {left : Int} {v : Value} (h : Bld b w2 ts ns ls at_ an ap ct cn cp) (q : w2.heap[B7 + 1]? = some (.cells #[.int .i64 left, .slice ra r.length rc] 37)) (hown : w2.ownsRow (B7 + 1 + 1) 3 1 (.slice ra r.length rc) r.length (nums r))
    (hg : (w2.alloc o).grownBy w4 (Value.slice ra r.length rc).ownBlock) (hbw : b < B7) (hap : ∀ k, (Value.slice ap ls.length cp).ownBlock = some k → k < B7) (hr : ∀ q ∈ ls, ∀ k, (Value.slice q.addr q.right.length q.cap).ownBlock = some k → k < B7) :
    Bld b (w4.setCell ⟨B7 + 1, 1, none⟩ v) ts ns ls at_ an ap ct cn cp := by
  have hlow : ∀ k, k < B7 → k < w2.heap.size → (w4.setCell ⟨B7 + 1, 1, none⟩ v).heap[k]? = w2.heap[k]? := fun k hk hl => by
    rw [Below.heap_setCell _ _ _ _ (show k ≠ B7 + 1 by omega), hg.block k (by simp; omega) (fun e => by have := (own_block hown e.symm).1; omega), Below.heap_alloc _ _ _ hl]
  have hoth : ∀ {e size n : Nat} {u : Value} {xs : List Value}, w2.ownsRow (b + 1) e size u n xs → e ≠ 37 → e ≠ 3 → ∀ k, u.ownBlock = some k → (w4.setCell ⟨B7 + 1, 1, none⟩ v).heap[k]? = w2.heap[k]? := by
    intro e size n u xs ho h1 h2 k hk
    obtain ⟨_, hl, cur, hc⟩ := own_block ho hk
    have hne : k ≠ B7 + 1 := by
      rintro rfl
      rw [q] at hc
      cases hc
      exact h1 rfl
    rw [Below.heap_setCell _ _ _ _ hne, hg.block k (by simp; omega) (fun e' => own_apart hown ho (Ne.symm h2) e'.symm hk), Below.heap_alloc _ _ _ hl]
  exact h.same (hlow b hbw h.lt) (hoth h.t (by decide) (by decide)) (hoth h.n (by decide) (by decide)) (fun k hk => hlow k (hap k hk) (own_block h.p hk).2.1) (fun q' hq' k hk => hlow k (hr q' hq' k hk) (own_block (h.r q' hq') hk).2.1)

/-- How addProd ends. -/
def ProdEnd (b : Nat) (ts ns : List (List UInt8)) (ls : List Lay) (an : Option Addr) (cn : Nat) (left : Int) (names : List Tok) (p : Tok) (e : Ending) (w' : World) : Prop :=
  match prodF ns left names p ts (ls.map Lay.plain) with
  | .inr x => e = .panicked [{ v := faultV x.1 x.2.1 x.2.2, recovered := false }]
  | .inl (ts', ps') => e = .returned (.tuple #[]) ∧ Names ts' ns ∧ ∃ (at' ap' : Option Addr) (ct' cp' : Nat) (ls' : List Lay), Bld b w' ts' ns ls' at' an ap' ct' cn cp' ∧ ls'.map Lay.plain = ps'

set_option maxRecDepth 100000 in
set_option maxHeartbeats 8000000 in
theorem addProd_any (left : Int) (a : Option Addr) (cap : Nat) (names : List Tok) (p : Tok) (h : Bld b w ts ns ls at_ an ap ct cn cp) (hN : Names ts ns) (hnm : ∀ t ∈ names, isName t ∧ FairT t) (hu : Under b w a (tall names)) (hl : names.length ≤ 4000000) (hls : ls.length ≤ 24) :
    Calls Try.prog 112 #[.pointer (some ⟨b, 0, none⟩), .int .i64 left, .slice a names.length cap, tokV p] w fun e w' => Below b w w' ∧ ProdEnd b ts ns ls an cn left names p e w' := by
  obtain ⟨i0, hi0, hz0, hz1, hz2⟩ := info_of infoI
  obtain ⟨i1, hi1, hy0, hy1, hy2⟩ := info_of infoP
  obtain ⟨pk, pt, pln, pc⟩ := p
  unfold tokV
  simp only
  go_enter Try.func112, Try.ntmps112
  go_wp2
  have hS : Below w.heap.size w ((w.alloc (.cells #[.int .i64 pk, .string ⟨pt.toArray⟩, .int .i64 pln, .int .i64 pc] 124)).alloc (.cells #[.int .i64 left, .slice none 0 0] 37)) := ((Below.refl _ _).alloc (Nat.le_refl _) _).alloc (by simp) _
  have s7 : ((w.alloc (.cells #[.int .i64 pk, .string ⟨pt.toArray⟩, .int .i64 pln, .int .i64 pc] 124)).alloc (.cells #[.int .i64 left, .slice none 0 0] 37)).heap[w.heap.size]? = some (.cells #[.int .i64 pk, .string ⟨pt.toArray⟩, .int .i64 pln, .int .i64 pc] 124) := by
    rw [Below.heap_alloc _ _ _ (by simp)]; exact heap_alloc_new w _
  have s8 : ((w.alloc (.cells #[.int .i64 pk, .string ⟨pt.toArray⟩, .int .i64 pln, .int .i64 pc] 124)).alloc (.cells #[.int .i64 left, .slice none 0 0] 37)).heap[w.heap.size + 1]? = some (.cells #[.int .i64 left, .slice none 0 0] 37) := by
    have := heap_alloc_new (w.alloc (.cells #[.int .i64 pk, .string ⟨pt.toArray⟩, .int .i64 pln, .int .i64 pc] 124)) (.cells #[.int .i64 left, .slice none 0 0] 37)
    simpa using this
  have hbw := h.lt
  have hS' := h.below hS
  have hapb : ∀ k, (Value.slice ap ls.length cp).ownBlock = some k → k < w.heap.size := fun k hk => (own_block h.p hk).2.1
  have hrb : ∀ q ∈ ls, ∀ k, (Value.slice q.addr q.right.length q.cap).ownBlock = some k → k < w.heap.size := fun q hq k hk => (own_block (h.r q hq) hk).2.1
  have HU := Lib.hid hu
  have HN := Lib.hid hN
  have HNM := Lib.hid hnm
  have HAPB := Lib.hid hapb
  have HRB := Lib.hid hrb
  clear hu hN hnm hapb hrb
  have HS0 := Lib.hid hS
  clear hS
  generalize (w.alloc (.cells #[.int .i64 pk, .string ⟨pt.toArray⟩, .int .i64 pln, .int .i64 pc] 124)).alloc (.cells #[.int .i64 left, .slice none 0 0] 37) = S at *
  generalize hB7 : w.heap.size = B7 at *
  go_loopw [15] (fun i wr => ∃ (k : Nat) (ts' : List (List UInt8)) (at' : Option Addr) (ct' : Nat) (ra : Option Addr) (r : List Int) (rc : Nat), k ≤ names.length ∧ i = .int .i64 k ∧ r.length ≤ 6 ∧ Bld b wr ts' ns ls at' an ap ct' cn cp ∧ Names ts' ns ∧
      wr.heap[B7]? = some (.cells #[.int .i64 pk, .string ⟨pt.toArray⟩, .int .i64 pln, .int .i64 pc] 124) ∧ wr.heap[B7 + 1]? = some (.cells #[.int .i64 left, .slice ra r.length rc] 37) ∧ wr.ownsRow (B7 + 1 + 1) 3 1 (.slice ra r.length rc) r.length (nums r) ∧
      Below b w wr ∧ Hid (rowF ns names ts [] = rowF ns (names.drop k) ts' r)) (fun i _ => names.length - (intOf i).toNat)
  case atStart => exact ⟨0, ts, at_, ct, none, [], 0, Nat.zero_le _, rfl, by simp, hS', HN.out, s7, s8, World.ownsRow_nil _ _ _ _, HS0.out.mono (by omega), Lib.hid (by simp)⟩
  case round =>
    obtain ⟨k, ts', at', ct', ra, r, rc, hk, rfl, hr6, hbl, hnn, q7, q8, hown, hbe, HR⟩ := hrel
    clear s7 s8 hS'
    have c7 := (blk_cell (i := 0) q7 rfl).1
    have c8 := (blk_cell (i := 1) q8 rfl).1
    have l8 := heap_lt q8
    by_cases hlt : k < names.length
    · obtain ⟨t, ht⟩ : ∃ t, names[k]? = some t := ⟨_, List.getElem?_eq_getElem hlt⟩
      have hd : rowF ns (names.drop k) ts' r = if 6 ≤ r.length then .inr (t.line, t.col, 5) else match symF ns ts' t with
          | .inr e => .inr (t.line, t.col, e)
          | .inl (ts2, s) => rowF ns (names.drop (k + 1)) ts2 (r ++ [s]) := by
        rw [List.drop_eq_getElem_cons hlt]
        have : names[k] = t := by rw [List.getElem?_eq_getElem hlt] at ht; exact Option.some.inj ht
        rw [this]; rfl
      have hnt := HNM.out t (List.mem_of_getElem? ht)
      obtain ⟨bb, off, rfl, hbbl, hc⟩ := (HU.out wr hbe).get (tall_nil_iff (by omega))
      obtain ⟨c0, c1, c2, c3⟩ := tok_cells hc ht
      have e1 : (k : Int) < names.length := by omega
      have HD := Lib.hid (HR.out.trans hd)
      obtain ⟨tk, tt, tln, tc⟩ := t
      simp only at c0 c1 c2 c3
      clear hc hd ht HR
      by_cases h6 : r.length = 6
      · have h6b : ((r.length : Int) == 6) = true := by simp; omega
        have HB := Lib.hid (hbe.alloc (Nat.le_of_lt hbl.lt))
        have HR6 := Lib.hid (show 6 ≤ r.length by omega)
        clear h6 hr6
        go_wp2_with (go_at_call 111; refine (refuse_any ⟨tk, tt, tln, tc⟩ 5 _).mono ?_; rintro e w2 ⟨rfl, hb2⟩)
        refine ⟨rfl, (HB.out _).trans (hb2.mono (by have := hbl.lt; simp; omega)), ?_⟩
        unfold ProdEnd prodF
        rw [HD.out, if_pos HR6.out]
      · have h6b : ((r.length : Int) == 6) = false := by simp; omega
        have HH6 := Lib.hid h6
        have HTT := Lib.hid hnt
        clear h6 hnt
        go_wp2
        have hb3 : Below b w (wr.alloc (.cells #[.int .i64 tk, .string ⟨tt.toArray⟩, .int .i64 tln, .int .i64 tc] 124)) := hbe.alloc (Nat.le_of_lt hbl.lt) _
        have hk3 : Below wr.heap.size wr (wr.alloc (.cells #[.int .i64 tk, .string ⟨tt.toArray⟩, .int .i64 tln, .int .i64 tc] 124)) := (Below.refl _ _).alloc (Nat.le_refl _) _
        have hbl3 := hbl.below hk3
        have q73 := (hk3.block _ (heap_lt q7)).trans q7
        have q83 := (hk3.block _ (heap_lt q8)).trans q8
        have hown3 := own_same hown (fun g _ hg => hk3.block g hg)
        have t3 := heap_alloc_new wr (.cells #[.int .i64 tk, .string ⟨tt.toArray⟩, .int .i64 tln, .int .i64 tc] 124)
        have t30 := (blk_cell (i := 0) t3 rfl).1
        have t31 := (blk_cell (i := 1) t3 rfl).1
        have t32 := (blk_cell (i := 2) t3 rfl).1
        have t33 := (blk_cell (i := 3) t3 rfl).1
        have c83 := (blk_cell (i := 1) q83 rfl).1
        have hz3 : wr.heap.size < (wr.alloc (.cells #[.int .i64 tk, .string ⟨tt.toArray⟩, .int .i64 tln, .int .i64 tc] 124)).heap.size := by simp
        have l83 := heap_lt q83
        clear c0 c1 c2 c3 c7 c8 hk3 hbl q7 q8 hown t3 hbe l8 hbbl
        generalize wr.alloc (.cells #[.int .i64 tk, .string ⟨tt.toArray⟩, .int .i64 tln, .int .i64 tc] 124) = w1 at *
        generalize wr.heap.size = B10 at *
        cases hs : symF ns ts' ⟨tk, tt, tln, tc⟩ with
        | inr x =>
          have hsy := symbol_bad (w := w1.drew) ⟨tk, tt, tln, tc⟩ x (hbl3.below (Below.refl _ _).drew) hnn HTT.out.1 HTT.out.2 hs
          unfold tokV at hsy
          simp only at hsy
          have HSY := Lib.hid hsy
          have HX := Lib.hid hs
          clear hs hsy
          go_region_dies
          all_goals
            go_at_call 121
            with_reducible refine HSY.out.mono ?_
            rintro e w2 ⟨rfl, hb2⟩
            exact ⟨rfl, (hb3.drew).trans (hb2.mono (Nat.le_of_lt (heap_lt hbl3.blk))), by unfold ProdEnd prodF; rw [HD.out, if_neg (by have := HH6.out; omega), HX.out]⟩
        | inl x =>
          obtain ⟨ts2, sx⟩ := x
          have hsy := symbol_ok (w := w1.drew) ⟨tk, tt, tln, tc⟩ ts2 sx (hbl3.below (Below.refl _ _).drew) hnn HTT.out.1 HTT.out.2 hs
          unfold tokV at hsy
          simp only at hsy
          have HSY := Lib.hid hsy
          have HR2 : Hid (rowF ns names ts [] = rowF ns (names.drop (k + 1)) ts2 (r ++ [sx])) := Lib.hid (by rw [HD.out, if_neg (by have := HH6.out; omega), hs])
          clear hs hsy HD
          go_region_law (first
            | (go_simp
               go_at_call 121
               with_reducible refine HSY.out.mono ?_
               rintro e w2 ⟨rfl, hb2, hst2, hn2, at2, ct2, hbl2⟩
               have q72 := hst2 _ _ _ _ q73 (by decide)
               have q82 := hst2 _ _ _ _ q83 (by decide)
               have hown2 := own_same (w' := w2) hown3 (fun g hg _ => by
                 obtain ⟨_, _, cur, hc⟩ := own_block hown3 hg
                 rw [hst2 _ _ _ _ hc (by decide), hc])
               have c82 := (blk_cell (i := 1) q82 rfl).1
               have l82 := heap_lt q82)
            | (refine step_append_lies _ (by rfl) _ _ _ (by rfl) (B7 + 1 + 1) 3 i0 _ 1 8 Try.underlying35 hi0 hz0 hz1 hz2 rfl (by omega) _ r.length (nums r) (by rfl) (hown2.alloc _) ⟨w2.heap.size, 0, none⟩ 1 1 [.int .i64 sx] (by rfl) (by rfl) (World.news_of_block (cs := #[.int .i64 sx]) (t := 3) (fr := (0, 0)) (heap_alloc_new w2 _)) (by simp [Value.oneCell']) (by omega) (by unfold maxLen; omega) (by omega) (by simp; omega) (w2.heap.size + 1) (by simp) ?_
               intro g cap4 w4 hown4 hgrow4 hat4 hlt4
               have q84 := (hgrow4.block (B7 + 1) (by simp; omega) (by intro e; have := (own_block hown2 e.symm).1; omega)).trans ((Below.heap_alloc w2 _ (B7 + 1) l82).trans q82)
               obtain ⟨c84, z84⟩ := blk_cell (i := 1) q84 rfl))
          all_goals
            have hbF := bld_row (v := .slice (some ⟨g, 0, none⟩) (r.length + 1) cap4) hbl2 q82 hown2 hgrow4 hbw HAPB.out HRB.out
            have hset : ∀ k, k ≠ B7 + 1 → (w4.setCell ⟨B7 + 1, 1, none⟩ (.slice (some ⟨g, 0, none⟩) (r.length + 1) cap4)).heap[k]? = w4.heap[k]? := fun k hk => Below.heap_setCell _ _ _ _ hk
            have q7F := (hset B7 (by omega)).trans ((hgrow4.block B7 (by simp; omega) (by intro e; have := (own_block hown2 e.symm).1; omega)).trans ((Below.heap_alloc w2 _ B7 (by omega)).trans q72))
            have q8F := heap_set w4 (B7 + 1) 1 (.slice (some ⟨g, 0, none⟩) (r.length + 1) cap4) _ _ q84 (by simp)
            have hownF := own_same (w' := w4.setCell ⟨B7 + 1, 1, none⟩ (.slice (some ⟨g, 0, none⟩) (r.length + 1) cap4)) hown4 (fun k hk _ => hset k (by have := (own_block hown4 hk).1; omega))
            have hbeF : Below b w (w4.setCell ⟨B7 + 1, 1, none⟩ (.slice (some ⟨g, 0, none⟩) (r.length + 1) cap4)) :=
              ((((hb3.drew).trans hb2).alloc (Nat.le_of_lt hbl2.lt) _).grown hgrow4 (by have := hbl2.lt; simp; omega) (fun k hk => by have := (own_block hown2 hk).1; omega)).setCell (by show b ≤ B7 + 1; omega) _
            have HBF := Lib.hid hbF
            have HQ7 := Lib.hid q7F
            have HQ8 := Lib.hid q8F
            have HOF := Lib.hid hownF
            have HEF := Lib.hid hbeF
            clear hbF q7F q8F hownF hbeF hset hown4 hgrow4 hat4 q84 c84 z84 hbl2 hst2 hb2 hown2 q72 q82 c82
            go_wp2
            go_roundw
            case rel => exact ⟨k + 1, ts2, at2, ct2, some ⟨g, 0, none⟩, r ++ [sx], cap4, by omega, by go_num, by have := HH6.out; simp; omega, HBF.out, hn2, HQ7.out, by simpa using HQ8.out, by simpa [nums] using HOF.out, HEF.out, HR2⟩
            case measure => simp [intOf]; omega
    · have hd : rowF ns (names.drop k) ts' r = .inl (ts', r) := by rw [List.drop_of_length_le (by omega)]; rfl
      have HD := Lib.hid (HR.out.trans hd)
      have e1 : ¬ (k : Int) < names.length := by omega
      have hlen : (ls.map Lay.plain).length = ls.length := List.length_map _
      obtain ⟨d0, d1, d2⟩ := hbl.cell
      have d3 := (blk_cell (i := 1) q7 rfl).1
      have d4 := (blk_cell (i := 2) q7 rfl).1
      have d5 := (blk_cell (i := 3) q7 rfl).1
      have d6 := (blk_cell (i := 0) q8 rfl).1
      clear hd HR
      by_cases h24 : ls.length = 24
      · have h24b : ((ls.length : Int) == 24) = true := by simp; omega
        have H24 := Lib.hid h24
        clear h24 hls
        go_wp2_with (go_at_call 111; refine (refuse_any ⟨pk, pt, pln, pc⟩ 5 _).mono ?_; rintro e w2 ⟨rfl, hb2⟩)
        refine ⟨rfl, hbe.trans (hb2.mono (Nat.le_of_lt hbl.lt)), ?_⟩
        unfold ProdEnd prodF
        rw [HD.out]
        simp only []
        rw [if_pos (by have := H24.out; omega)]
      · have h24b : ((ls.length : Int) == 24) = false := by simp; omega
        have H24 := Lib.hid h24
        clear h24
        have hbl3 := hbl.below (Below.refl wr.heap.size wr).drew
        have hst := stands_any ap cp ls ⟨left, r, ra, rc⟩ wr.drew (own_cells hbl3.p).1 (by omega) (own_cells (own_same (w' := wr.drew) hown (fun g _ _ => rfl))).1 (by show r.length ≤ _; omega)
          (fun q hq => ⟨(own_cells (hbl3.r q hq)).1, by have := hbl3.r6 q hq; omega⟩)
        unfold prodV at hst
        simp only at hst
        cases hm : ls.any (fun q => decide ((Lay.mk left r ra rc).plain = q.plain)) with
        | true =>
          rw [hm] at hst
          have HM := Lib.hid ((any_mem ls (left, r)).1 hm)
          have HST := Lib.hid hst
          clear hst hm
          go_wp2
          go_region_with (go_at_call 96; with_reducible refine HST.out.mono ?_
                          rintro e w2 ⟨rfl, hb2⟩
                          have d22 := (hb2.cell (p := ⟨B7, 0, none⟩) (heap_lt q7)).trans (blk_cell (i := 0) q7 rfl).1
                          have d32 := (hb2.cell (p := ⟨B7, 1, none⟩) (heap_lt q7)).trans d3
                          have d42 := (hb2.cell (p := ⟨B7, 2, none⟩) (heap_lt q7)).trans d4
                          have d52 := (hb2.cell (p := ⟨B7, 3, none⟩) (heap_lt q7)).trans d5)
          all_goals
            go_wp2_with (go_at_call 111; refine (refuse_any ⟨pk, pt, pln, pc⟩ 4 _).mono ?_; rintro e w3 ⟨rfl, hb3⟩)
            refine ⟨rfl, (hbe.drew.trans (hb2.mono (Nat.le_of_lt hbl.lt))).trans (hb3.mono (Nat.le_trans (Nat.le_of_lt hbl.lt) hb2.size)), ?_⟩
            unfold ProdEnd prodF
            rw [HD.out]
            simp only []
            rw [if_neg (by have := H24.out; omega), if_pos HM.out]
        | false =>
          rw [hm] at hst
          have HM := Lib.hid (show ¬ (left, r) ∈ ls.map Lay.plain from fun h => by have := (any_mem ls (left, r)).2 h; rw [show (left, r) = (Lay.mk left r ra rc).plain from rfl, hm] at this; cases this)
          have HST := Lib.hid hst
          clear hst hm
          go_wp2
          go_region_with (go_at_call 96; with_reducible refine HST.out.mono ?_
                          rintro e w2 ⟨rfl, hb2⟩)
          all_goals
            have hb3 : Below wr.heap.size wr w2 := (Below.refl _ _).drew.trans hb2
            have hbl2 := hbl.below hb3
            have q82 := (hb3.block _ l8).trans q8
            have hown2 := own_same hown (fun g _ hg => hb3.block g hg)
            obtain ⟨v0, v1, v2⟩ := hbl2.cell
            have v3 := (blk_cell (i := 0) q82 rfl).1
            have v4 := (blk_cell (i := 1) q82 rfl).1
            have hbe2 := hbe.trans (hb3.mono (Nat.le_of_lt hbl.lt))
            have hlt2 := hbl2.lt
            have l82 := heap_lt q82
            clear hbl hbl3 hown q7 q8 hbe c7 c8 l8 d0 d1 d2 d3 d4 d5 d6 HST hb2 hb3
            go_wp2
            go_region_law (first
              | (refine step_append_lies _ (by rfl) _ _ _ (by rfl) (b + 1) 37 i1 _ 2 32 Try.underlying24 hi1 hy0 hy1 hy2 rfl (by omega) _ ls.length (lays ls) (by rfl) (hbl2.p.drew.alloc _) ⟨w2.heap.size, 0, none⟩ 1 1 [.int .i64 left, .slice ra r.length rc] (by rfl) (by rfl) (World.news_of_block (cs := #[.int .i64 left, .slice ra r.length rc]) (t := 37) (fr := (0, 0)) (heap_alloc_new w2.drew _)) (by simp [Value.oneCell']) (by omega) (by unfold maxLen; omega) (by omega) (by simp; omega) (w2.heap.size + 1) (by simp) ?_
                 intro g cap4 w4 hown4 hgrow4 hat4 hlt4
                 obtain ⟨c84, z84⟩ := blk_cell (i := 2) ((hgrow4.block b (by simp; omega) (by intro e; have := (own_block hbl2.p e.symm).1; omega)).trans ((Below.heap_alloc w2.drew _ b hlt2).trans hbl2.blk)) rfl))
            all_goals
              have hp := ((hbl2.alloc (.cells #[.int .i64 left, .slice ra r.length rc] 37)).below (Below.refl _ _).drew).put_p (q := ⟨left, r, ra, rc⟩) (w1 := w4) hown4 hgrow4
                (own_base (own_same hown2 (fun k _ hk => Below.heap_alloc w2 _ k hk)) (by omega)) hr6
              have hB := ((hbe2.alloc (Nat.le_of_lt hlt2) (.cells #[.int .i64 left, .slice ra r.length rc] 37)).drew.grown hgrow4 (by simp; omega) (fun k hk => by have := (own_block hbl2.p hk).1; omega)).setCell (p := ⟨b, 2, none⟩) (Nat.le_refl _) (.slice (some ⟨g, 0, none⟩) (ls.length + 1) cap4)
              go_end0
              refine ⟨hB, ?_⟩
              unfold ProdEnd prodF
              rw [HD.out]
              simp only []
              rw [if_neg (by have := H24.out; omega), if_neg HM.out]
              exact ⟨trivial, hnn, _, _, _, _, _, hp, by simp [Lay.plain]⟩
end

end Go.Proofs.Ytdnlbmdmaiacaaa
