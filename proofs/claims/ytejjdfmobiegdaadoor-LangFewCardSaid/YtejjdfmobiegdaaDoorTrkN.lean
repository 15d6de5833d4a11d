/- lang: wordTrack, walked. -/
import Derived.Test.YtejjdfmobiegdaaDoorTrkT
import Derived.StillTailTactics
import Derived.Deep.WholeRow
import Derived.Laws.CopyOwn
set_option linter.unusedVariables false
namespace Go.Proofs.YtejjdfmobiegdaaDoor
open Go.RowKit

theorem infoTrk : (Tryd.prog.info? 81).map (·.size) = some 117 := by kernel_rfl
/-- A track that is made. -/
def newT (ap : Option Addr) (cp : Nat) (ls : List Lay) (terms last : Nat) : Trk := ⟨ap, cp, ls, terms, last, List.replicate 9 0, 0, List.replicate 104 0⟩
theorem zero_trk : Tryd.zeroCells81.toList = .slice none 0 0 :: .int .i64 0 :: .int .i64 0 :: (u16s (List.replicate 9 0) ++ [.int .u16 0] ++ u16s (List.replicate 104 0)) := by kernel_rfl
theorem new_trk (ap : Option Addr) (cp : Nat) (ls : List Lay) (terms last : Nat) : ((Tryd.zeroCells81.toList.set 0 (.slice ap ls.length cp)).set 1 (.int .i64 terms)).set 2 (.int .i64 last) = trkL (newT ap cp ls terms last) := by
  rw [zero_trk]; rfl
theorem one_trk (X : Trk) : (trkL X).toArray.all (·.oneCell') = true := by
  simp [trkL, u16s, Value.oneCell']
theorem len_trk {X : Trk} (h9 : X.st.length = 9) (h104 : X.en.length = 104) : (trkL X).length = 117 := by simp [trkL, u16s, h9, h104]
theorem zero_size : Tryd.zeroCells81.size = 117 := by rw [← Array.length_toList, zero_trk]; simp [u16s]
theorem store_trk (W : World) (X : Trk) (h9 : X.st.length = 9) (h104 : X.en.length = 104) : (storeCells ⟨W.heap.size, 0, none⟩ (trkL X) 0).run Tryd.prog (W.alloc (.cells Tryd.zeroCells81 81)) = .ok () (W.alloc (.cells (trkL X).toArray 81)) := by
  have h := run_storeCells_new (P := Tryd.prog) W 81 Tryd.zeroCells81 (trkL X).toArray (by rw [infoTrk]; simp [len_trk h9 h104]) (by rw [zero_size]; simp [len_trk h9 h104]) (one_trk X)
  exact h
theorem store_old (W : World) (g : Nat) (X : Trk) (h9 : X.st.length = 9) (h104 : X.en.length = 104) (hg : W.heap[g]? = some (.cells Tryd.zeroCells81 81)) : (storeCells ⟨g, 0, none⟩ (trkL X) 0).run Tryd.prog W = .ok () (W.setRow g (trkL X).toArray) := by
  have h := run_storeCells_from (P := Tryd.prog) g 81 (trkL X) 0 _ W hg (by rw [zero_size, len_trk h9 h104]) (fun v hv => (Array.all_eq_true_iff_forall_mem.1 (one_trk X)) v (by simpa using hv))
  simpa using h
/-- The track of a word, but for its ends. -/
def wordT (ap : Option Addr) (cp : Nat) (ls : List Lay) (terms : Nat) (S : List Nat) (last y : Nat) : Trk := ⟨ap, cp, ls, terms, last, S, y, List.replicate 104 0⟩
theorem trkL_y {ap : Option Addr} {cp : Nat} {ls : List Lay} {terms last : Nat} {S E : List Nat} (h9 : S.length = 9) (y z : Nat) : trkL ((wordT ap cp ls terms S last z).wen E) = (trkL ((wordT ap cp ls terms S last y).wen E)).set 12 (.int .u16 (z : Int)) := by
  have key : ∀ (hd tl : List Value) (a b : Value), hd.length = 12 → hd ++ [b] ++ tl = (hd ++ [a] ++ tl).set 12 b := by
    intro hd tl a b hl
    rw [List.append_assoc, List.append_assoc, List.set_append_right _ _ (by omega), hl]
    rfl
  exact key _ _ _ _ (by simp [u16s, wordT, Trk.wen, h9])
theorem TrkQ.yset {w : World} {B : Nat} {ap : Option Addr} {cp : Nat} {ls : List Lay} {terms last : Nat} {S E : List Nat} {y : Nat} (h : TrkQ w B (wordT ap cp ls terms S last y) E) (z : Nat) : TrkQ (w.setCell ⟨B, 12, none⟩ (.int .u16 (z : Int))) B (wordT ap cp ls terms S last z) E := by
  refine ⟨?_, h.s9, h.e104⟩
  rw [heap_set w B 12 _ _ _ h.q (by rw [List.size_toArray, len_trk (X := (wordT ap cp ls terms S last y).wen E) h.s9 h.e104]; omega)]
  simp only [Array.set!_eq_setIfInBounds]
  rw [List.setIfInBounds_toArray]
  exact congrArg (fun l => some (Obj.cells (List.toArray l) 81)) (trkL_y h.s9 y z).symm
theorem TrkQ.yc {w : World} {B : Nat} {X : Trk} {E : List Nat} (h : TrkQ w B X E) : w.cell? ⟨B, 12, none⟩ = some (.int .u16 (X.stays : Int)) ∧ w.frozen? ⟨B, 12, none⟩ = false := blk_cell (w := w) (i := 12) (u := .int .u16 (X.stays : Int)) h.q (by rw [List.getElem?_toArray]; exact trk_stays (X := X.wen E) h.s9)
/-- The steps of a word's first k terminals. -/
def stT (u : List Int) : Nat → List Nat
  | 0 => List.replicate 9 0
  | k + 1 => (stT u k).set (u.getD k 0).toNat ((stT u k).getD (u.getD k 0).toNat 0 ||| 2 ^ k)
theorem stT_len (u : List Int) : ∀ k, (stT u k).length = 9
  | 0 => by simp [stT]
  | k + 1 => by unfold stT; rw [List.length_set]; exact stT_len u k
theorem stT_lt (u : List Int) : ∀ k, k ≤ 12 → ∀ x ∈ stT u k, x < 4096
  | 0, _ => fun x hx => by rw [stT, List.mem_replicate] at hx; omega
  | k + 1, h => by
    unfold stT
    exact set_lt (stT_lt u k (by omega)) (Nat.or_lt_two_pow (n := 12) (getD_lt (stT_lt u k (by omega)) (by omega) _) (Nat.pow_lt_pow_right (by omega) (by omega)))
def Trk.wst (X : Trk) (S : List Nat) : Trk := { X with st := S }
theorem trkL_st {X : Trk} {S : List Nat} (h9 : S.length = 9) {j : Nat} (hj : j < 9) (v : Nat) : trkL (X.wst (S.set j v)) = (trkL (X.wst S)).set (3 + j) (.int .u16 (v : Int)) := by
  have key : ∀ (hd tl : List Value), hd.length = 3 → hd ++ u16s (S.set j v) ++ tl = (hd ++ u16s S ++ tl).set (3 + j) (.int .u16 (v : Int)) := by
    intro hd tl hl
    rw [u16s_set, List.set_append_left _ _ (by simp [u16s, h9, hl]; omega), List.set_append_right _ _ (by omega), hl, show 3 + j - 3 = j by omega]
  unfold trkL
  rw [List.append_assoc, List.append_assoc (_ ++ u16s (X.wst S).st)]
  exact key _ _ (by simp)
theorem TrkQ.sset {w : World} {B : Nat} {X : Trk} {S E : List Nat} (h : TrkQ w B (X.wst S) E) {j : Nat} (v : Nat) (hj : j < 9) : TrkQ (w.setCell ⟨B, 3 + j, none⟩ (.int .u16 (v : Int))) B (X.wst (S.set j v)) E := by
  have h9 : S.length = 9 := h.s9
  refine ⟨?_, by show (S.set j v).length = 9; rw [List.length_set]; exact h9, h.e104⟩
  rw [heap_set w B (3 + j) _ _ _ h.q (by rw [List.size_toArray, len_trk (X := (X.wst S).wen E) h.s9 h.e104]; omega)]
  simp only [Array.set!_eq_setIfInBounds]
  rw [List.setIfInBounds_toArray]
  have := trkL_st (X := X.wen E) h9 hj v
  exact congrArg (fun l => some (Obj.cells (List.toArray l) 81)) this.symm
theorem TrkQ.stc {w : World} {B : Nat} {X : Trk} {E : List Nat} (h : TrkQ w B X E) {j : Nat} (hj : j < 9) : w.cell? ⟨B, 3 + j, none⟩ = some (.int .u16 ((X.st.getD j 0 : Nat) : Int)) ∧ w.frozen? ⟨B, 3 + j, none⟩ = false := blk_cell (w := w) (i := 3 + j) (u := .int .u16 ((X.st.getD j 0 : Nat) : Int)) h.q (by rw [List.getElem?_toArray]; exact trk_st (X := X.wen E) h.s9 hj)

set_option maxRecDepth 100000 in
set_option maxHeartbeats 8000000 in
theorem wtrack_any (ap : Option Addr) (cp : Nat) (ls : List Lay) (terms : Nat) (pa : Option Addr) (pc : Nat) (u : List Int) (op : Bool) (w : World) (hr : Cells w ap (lays ls)) (hrow : ∀ p ∈ ls, Cells w p.addr (nums p.right)) (hp : LaysOk (newT ap cp ls terms u.length)) (hu : Cells w pa (nums u)) (hul : u.length ≤ 12) (hus : ∀ s ∈ u, 1 ≤ s ∧ s < 9) (hls : ls.length ≤ 1000000) (hT : Tab32 w) :
    Calls Tryd.prog 55 #[.slice ap ls.length cp, .int .i64 terms, .slice pa u.length pc, .bool op] w fun e w' => Below w.heap.size w w' ∧ ∃ E, e = .returned (.agg (trkL ((wordT ap cp ls terms (stT u u.length) u.length (if op then 2 ^ u.length else 0)).wen E)).toArray) ∧ SetT (wordT ap cp ls terms (stT u u.length) u.length (if op then 2 ^ u.length else 0)) (u.length + 1) (List.replicate 104 0) E ∧ E.length = 104 ∧ ∀ x ∈ E, x < 8192 := by
  have HR := Lib.hid hr
  have HROW := Lib.hid hrow
  have HU := Lib.hid hu
  have HUS := Lib.hid hus
  have HT := Lib.hid hT
  have HP := Lib.hid hp
  clear hr hrow hu hus hT hp
  go_enter Tryd.func55, Tryd.ntmps55
  go_upto_region 1 with fail
  have HW0 := Lib.hid (show Below w.heap.size w (w.alloc (.cells Tryd.zeroCells81 81)) from (Below.refl _ _).alloc (Nat.le_refl _) _)
  have HZ0 := Lib.hid (heap_alloc_new w (.cells Tryd.zeroCells81 81))
  have HSZ0 := Lib.hid (show (w.alloc (.cells Tryd.zeroCells81 81)).heap.size = w.heap.size + 1 by simp)
  generalize hA : w.alloc (.cells Tryd.zeroCells81 81) = A at *
  clear hA
  have hstore := store_trk A (newT ap cp ls terms u.length) (by simp [newT]) (by simp [newT])
  rw [← new_trk] at hstore
  go_upto_region 2 with fail
  rw [new_trk]
  clear hstore
  have HQ0 : Hid (TrkQ (A.alloc (.cells (trkL (newT ap cp ls terms u.length)).toArray 81)) A.heap.size ((newT ap cp ls terms u.length).wst (stT u 0)) (List.replicate 104 0)) := Lib.hid ⟨heap_alloc_new A _, by simp [stT, Trk.wst], by simp⟩
  have HB0 := Lib.hid (show Below A.heap.size A (A.alloc (.cells (trkL (newT ap cp ls terms u.length)).toArray 81)) from (Below.refl _ _).alloc (Nat.le_refl _) _)
  go_wp2_with fail
  generalize hB : A.heap.size = B at *
  go_loopw [19] (fun i wr => ∃ k : Nat, k ≤ u.length ∧ i = .int .i64 k ∧ Hid (TrkQ wr B ((newT ap cp ls terms u.length).wst (stT u k)) (List.replicate 104 0)) ∧ Hid (Below A.heap.size A wr)) (fun i _ => u.length - (intOf i).toNat)
  case atStart => exact ⟨0, by omega, rfl, HQ0, hB ▸ HB0⟩
  case round =>
    clear HQ0 HB0
    obtain ⟨k, hk, rfl, HQ, HBW⟩ := hrel
    by_cases hlt : k < u.length
    · obtain ⟨s, hs⟩ : ∃ s, u[k]? = some s := ⟨_, List.getElem?_eq_getElem hlt⟩
      have h19 := HUS.out s (List.mem_of_getElem? hs)
      obtain ⟨t, rfl⟩ := Int.eq_ofNat_of_zero_le (show 0 ≤ s by omega)
      have ht9 : t < 9 := by omega
      have ht9' : (t : Int) < 9 := by omega
      obtain ⟨b, off, hpa, hb, hcell⟩ := Cells.get ((HU.out.below HW0.out).below HBW.out) (by intro e; have := congrArg List.length e; unfold nums at this; rw [List.length_map, List.length_nil] at this; omega)
      have hck := hcell k (.int .i64 t) (by unfold nums; rw [List.getElem?_map, hs]; rfl)
      subst hpa
      have hlt' : (k : Int) < u.length := by omega
      obtain ⟨v1, v2⟩ := HQ.out.stc ht9
      have v3 := heap_lt HQ.out.q
      have hold : ((newT ap cp ls terms u.length).wst (stT u k)).st.getD t 0 < 4096 := getD_lt (stT_lt u k (by omega)) (by omega) _
      have HO := Lib.hid fun W => only_any k (by omega) W
      have hp2 : 2 ^ k < 65536 := (show 2 ^ k < 2 ^ 16 from Nat.pow_lt_pow_right (by omega) (by omega))
      have hsk : stT u (k + 1) = (stT u k).set t ((stT u k).getD t 0 ||| 2 ^ k) := by
        show (stT u k).set (u.getD k 0).toNat _ = _
        rw [List.getD_eq_getElem?_getD, hs]; rfl
      have hTS := HQ.out.sset ((stT u k).getD t 0 ||| 2 ^ k) ht9
      rw [← hsk] at hTS
      have hBS := HBW.out.setCell (p := ⟨B, 3 + t, none⟩) (by show A.heap.size ≤ B; omega) (.int .u16 (((stT u k).getD t 0 ||| 2 ^ k : Nat) : Int))
      have hst : ((newT ap cp ls terms u.length).wst (stT u k)).st.getD t 0 = (stT u k).getD t 0 := rfl
      rw [hst] at v1 hold
      have HTF := Lib.hid hTS
      have HBF := Lib.hid hBS
      clear hTS hBS hsk hs hcell hst
      generalize (stT u k).getD t 0 = x at *
      have hor := u16_or_nat x (2 ^ k) (by omega) hp2
      generalize 2 ^ k = y at *
      go_upto_region 5 with fail
      go_region_with (go_at_call 82; refine (HO.out _).mono ?_; rintro e w5 ⟨rfl, rfl⟩)
      all_goals
        go_wp2
        go_roundw
        case rel => exact ⟨k + 1, by omega, by go_num, Lib.hid ⟨HTF.out.q, HTF.out.s9, HTF.out.e104⟩, Lib.hid HBF.out.drew⟩
        case measure => simp [intOf]; omega
    · have hkl : k = u.length := by omega
      subst hkl
      have HSE := Lib.hid fun (y : Nat) (W : World) (hy : y < 8192) (hW : Below A.heap.size A W) (hq : TrkQ W B (wordT ap cp ls terms (stT u u.length) u.length y) (List.replicate 104 0)) => settle_any B (wordT ap cp ls terms (stT u u.length) u.length y) u.length (List.replicate 104 0) A W hW (by omega) hq ⟨stT_lt u _ hul, hy, fun x hx => by rw [show (wordT ap cp ls terms (stT u u.length) u.length y).en = List.replicate 104 0 from rfl, List.mem_replicate] at hx; omega⟩ (fun x hx => by rw [List.mem_replicate] at hx; omega) (HR.out.below HW0.out) (fun p hp => (HROW.out p hp).below HW0.out) HP.out (by omega) hls (HT.out.below HW0.out)
      have z2 := (blk_cell (i := 2) (u := .int .i64 u.length) HQ.out.q rfl).1
      have z9 := heap_lt HQ.out.q
      cases op with
      | false =>
        have HS1 := Lib.hid (HSE.out 0 wr (by omega) HBW.out HQ.out)
        go_upto_region 10 with (go_at_call 83; refine HS1.out.mono ?_; rintro e w5 ⟨rfl, hb5, E, hq5, hE, hE5⟩)
        have HB5 := Lib.hid hb5
        have HE5 := Lib.hid hE
        have HL5 := Lib.hid hE5
        have HL104 := Lib.hid hq5.e104
        have hz5 := (hb5.block _ (heap_lt HZ0.out)).trans HZ0.out
        have HZ5 := Lib.hid hz5
        have hlen := len_trk (X := (wordT ap cp ls terms (stT u u.length) u.length 0).wen E) hq5.s9 hq5.e104
        have hst2 := store_old w5 w.heap.size ((wordT ap cp ls terms (stT u u.length) u.length 0).wen E) hq5.s9 hq5.e104 hz5
        have HLEN := Lib.hid hlen
        have HQ5 := Lib.hid hq5.q
        clear hq5 hb5 hE hE5 hz5
        generalize hZ : trkL ((wordT ap cp ls terms (stT u u.length) u.length 0).wen E) = Z at *
        have HZE := Lib.hid hZ
        clear hZ
        go_wp2
        refine wp_load_row 81 (.tmp 9) rfl B rfl 81 _ (0, 0) _ HQ5.out Tryd.underlying81 rfl (by rw [infoTrk, List.size_toArray, HLEN.out]) ?_
        go_wp2
        refine bodyPost_ret (results_cell_row (g := w.heap.size) (t := 81) (cs := Z.toArray) (fr := (0, 0)) rfl _ _ _ rfl (setRow_heap _ _ _ _ _ _ HZ5.out) Tryd.underlying81 rfl (by rw [infoTrk, List.size_toArray, HLEN.out])) rfl ?_
        exact ⟨below_setRow (HW0.out.trans (HB5.out.mono HW0.out.size)) (Nat.le_refl _) _, E, by rw [← HZE.out], HE5.out, HL104.out, HL5.out⟩
      | true =>
        obtain ⟨y1, y2⟩ := HQ.out.yc
        have hpl : 2 ^ u.length < 8192 := (show 2 ^ u.length < 2 ^ 13 from Nat.pow_lt_pow_right (by omega) (by omega))
        have hbY := HBW.out.setCell (p := ⟨B, 12, none⟩) (by show A.heap.size ≤ B; omega) (.int .u16 ((2 ^ u.length : Nat) : Int))
        have hqY : TrkQ (wr.setCell ⟨B, 12, none⟩ (.int .u16 ((2 ^ u.length : Nat) : Int))) B (wordT ap cp ls terms (stT u u.length) u.length (2 ^ u.length)) (List.replicate 104 0) := TrkQ.yset (y := 0) (ap := ap) (cp := cp) (ls := ls) (terms := terms) (last := u.length) (S := stT u u.length) HQ.out (2 ^ u.length)
        have HS1 := Lib.hid (HSE.out (2 ^ u.length) _ hpl hbY hqY)
        have z2' := (blk_cell (i := 2) (u := .int .i64 u.length) hqY.q rfl).1
        have z9' := heap_lt hqY.q
        have HO := Lib.hid fun W => only_any u.length (by omega) W
        clear hqY hbY
        go_upto_region 10 with (first
          | (go_at_call 82; refine (HO.out _).mono ?_; rintro e w5 ⟨rfl, rfl⟩)
          | (go_at_call 83; refine HS1.out.mono ?_; rintro e w5 ⟨rfl, hb5, E, hq5, hE, hE5⟩))
        have HB5 := Lib.hid hb5
        have HE5 := Lib.hid hE
        have HL5 := Lib.hid hE5
        have HL104 := Lib.hid hq5.e104
        have hz5 := (hb5.block _ (heap_lt HZ0.out)).trans HZ0.out
        have HZ5 := Lib.hid hz5
        have hlen := len_trk (X := (wordT ap cp ls terms (stT u u.length) u.length (2 ^ u.length)).wen E) hq5.s9 hq5.e104
        have hst2 := store_old w5 w.heap.size ((wordT ap cp ls terms (stT u u.length) u.length (2 ^ u.length)).wen E) hq5.s9 hq5.e104 hz5
        have HLEN := Lib.hid hlen
        have HQ5 := Lib.hid hq5.q
        clear hq5 hb5 hE hE5 hz5
        generalize hZ : trkL ((wordT ap cp ls terms (stT u u.length) u.length (2 ^ u.length)).wen E) = Z at *
        have HZE := Lib.hid hZ
        clear hZ
        go_wp2
        refine wp_load_row 81 (.tmp 9) rfl B rfl 81 _ (0, 0) _ HQ5.out Tryd.underlying81 rfl (by rw [infoTrk, List.size_toArray, HLEN.out]) ?_
        go_wp2
        refine bodyPost_ret (results_cell_row (g := w.heap.size) (t := 81) (cs := Z.toArray) (fr := (0, 0)) rfl _ _ _ rfl (setRow_heap _ _ _ _ _ _ HZ5.out) Tryd.underlying81 rfl (by rw [infoTrk, List.size_toArray, HLEN.out])) rfl ?_
        exact ⟨below_setRow (HW0.out.trans (HB5.out.mono HW0.out.size)) (Nat.le_refl _) _, E, by rw [← HZE.out], HE5.out, HL104.out, HL5.out⟩
end Go.Proofs.YtejjdfmobiegdaaDoor
