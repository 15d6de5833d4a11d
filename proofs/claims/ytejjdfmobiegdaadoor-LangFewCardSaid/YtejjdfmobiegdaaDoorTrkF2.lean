/- lang: freeTrack, fixed: walked. lang: fixed, walked. lang: slices.Clone of a row of numbers; what addWords turns. -/
import Derived.Test.YtejjdfmobiegdaaDoorTrkE
import Derived.Test.YtejjdfmobiegdaaDoorTrkN
import Derived.Test.YtejjdfmobiegdaaDoorTrkT
import Derived.Test.YtejjdfmobiegdaaDoorTrkZ
import Derived.Test.YtejjdfmobiegdaaDoorTrkB
set_option linter.unusedVariables false
namespace Go.Proofs.YtejjdfmobiegdaaDoor
open Go.RowKit
open Doc

/-- The steps of all words of a length, of the first m terminals. -/
def freeS (n : Nat) : Nat → List Nat
  | 0 => List.replicate 9 0
  | m + 1 => (freeS n m).set (m + 1) (2 ^ n - 1)
theorem freeS_len (n : Nat) : ∀ m, (freeS n m).length = 9
  | 0 => by simp [freeS]
  | m + 1 => by unfold freeS; rw [List.length_set]; exact freeS_len n m
theorem freeS_bit (n : Nat) : ∀ m, m ≤ 8 → ∀ x p : Nat, ((freeS n m).getD x 0).testBit p = true ↔ (1 ≤ x ∧ x ≤ m ∧ p < n)
  | 0, _, x, p => by
    rw [freeS, List.getD_eq_getElem?_getD, List.getElem?_replicate]
    constructor
    · intro h; split at h <;> simp at h
    · rintro ⟨h1, h2, _⟩; omega
  | m + 1, hm, x, p => by
    unfold freeS
    rw [getD_set, freeS_len]
    by_cases hx : m + 1 = x
    · subst hx
      rw [if_pos ⟨rfl, by omega⟩, Nat.testBit_two_pow_sub_one, decide_eq_true_iff]
      constructor
      · intro h; exact ⟨by omega, by omega, h⟩
      · rintro ⟨_, _, h⟩; exact h
    · rw [if_neg (by omega), freeS_bit n m (by omega)]
      constructor
      · rintro ⟨h1, h2, h3⟩; exact ⟨h1, by omega, h3⟩
      · rintro ⟨h1, h2, h3⟩; exact ⟨h1, by omega, h3⟩
theorem free_fix (ap : Option Addr) (cp : Nat) (ls : List Lay) (t n : Nat) (ht : t ≤ 8) : StFix ((newT ap cp ls t n).wst (freeS n t)) t n [] :=
  ⟨freeS_len n t, fun x p => by
    show ((freeS n t).getD x 0).testBit p = true ↔ _
    rw [freeS_bit n t ht]
    constructor
    · rintro ⟨h1, h2, h3⟩; exact ⟨h1, h2, h3, fun s hs => by simp at hs⟩
    · rintro ⟨h1, h2, h3, _⟩; exact ⟨h1, h2, h3⟩, rfl, rfl, rfl⟩
/-- A place's steps but for one terminal's are taken away. -/
def fixS (S : List Nat) (pl s : Nat) : Nat → List Nat
  | 0 => S
  | m + 1 => if m + 1 = s then fixS S pl s m else (fixS S pl s m).set (m + 1) ((fixS S pl s m).getD (m + 1) 0 &&& (65535 - 2 ^ pl))
theorem fixS_len (S : List Nat) (pl s : Nat) : ∀ m, (fixS S pl s m).length = S.length
  | 0 => rfl
  | m + 1 => by
    unfold fixS
    split
    · exact fixS_len S pl s m
    · rw [List.length_set]; exact fixS_len S pl s m
theorem clr_bit {x pl q : Nat} (hp : pl < 16) (hx : x < 65536) : (x &&& (65535 - 2 ^ pl)).testBit q = true ↔ (x.testBit q = true ∧ q ≠ pl) := by
  have h2 : 2 ^ pl < 2 ^ 16 := Nat.pow_lt_pow_right (by omega) hp
  rw [Nat.testBit_and, show 65535 - 2 ^ pl = 2 ^ 16 - (2 ^ pl + 1) by omega, Nat.testBit_two_pow_sub_succ h2, Nat.testBit_two_pow, Bool.and_eq_true, Bool.and_eq_true]
  constructor
  · rintro ⟨h, _, h3⟩
    refine ⟨h, fun e => ?_⟩
    subst e
    simp at h3
  · rintro ⟨h, h3⟩
    have := bit_lt (n := 16) hx h
    exact ⟨h, by simpa using this, by simp; omega⟩
theorem fixS_lt {S : List Nat} (h : ∀ x ∈ S, x < 4096) (pl s : Nat) : ∀ m, ∀ x ∈ fixS S pl s m, x < 4096
  | 0 => h
  | m + 1 => by
    unfold fixS
    split
    · exact fixS_lt h pl s m
    · exact set_lt (fixS_lt h pl s m) (Nat.lt_of_le_of_lt Nat.and_le_left (getD_lt (fixS_lt h pl s m) (by omega) _))
theorem fixS_bit {S : List Nat} (h9 : S.length = 9) (h : ∀ x ∈ S, x < 4096) {pl : Nat} (hp : pl < 16) (s : Nat) : ∀ m, m ≤ 8 → ∀ x p : Nat, ((fixS S pl s m).getD x 0).testBit p = true ↔ ((S.getD x 0).testBit p = true ∧ (1 ≤ x → x ≤ m → x ≠ s → p ≠ pl))
  | 0, _, x, p => by
    constructor
    · intro k; exact ⟨k, fun _ _ => by omega⟩
    · rintro ⟨k, _⟩; exact k
  | m + 1, hm, x, p => by
    have ih := fixS_bit h9 h hp s m (by omega)
    unfold fixS
    split
    · rename_i hs
      rw [ih]
      constructor
      · rintro ⟨k1, k2⟩; exact ⟨k1, fun a b c => k2 a (by omega) c⟩
      · rintro ⟨k1, k2⟩; exact ⟨k1, fun a b c => k2 a (by omega) c⟩
    · rename_i hs
      rw [getD_set, fixS_len]
      by_cases hx : m + 1 = x
      · subst hx
        rw [if_pos ⟨rfl, by omega⟩, clr_bit hp (by have := getD_lt (fixS_lt h pl s m) (by omega) (m + 1); omega), ih]
        constructor
        · rintro ⟨⟨k1, _⟩, k2⟩; exact ⟨k1, fun _ _ _ => k2⟩
        · rintro ⟨k1, k2⟩; exact ⟨⟨k1, fun _ b => by omega⟩, k2 (by omega) (by omega) hs⟩
      · rw [if_neg (by omega), ih]
        constructor
        · rintro ⟨k1, k2⟩; exact ⟨k1, fun a b c => k2 a (by omega) c⟩
        · rintro ⟨k1, k2⟩; exact ⟨k1, fun a b c => k2 a (by omega) c⟩
theorem fix_fix {X : Trk} {t n : Nat} {b : List Int} (h : StFix X t n b) (ht : t ≤ 8) (hn : n ≤ 12) (hb : b.length < n) (s : Nat) (hs : 1 ≤ s) (hst : s ≤ t) : StFix (X.wst (fixS X.st b.length s t)) t n (b ++ [(s : Int)]) :=
  ⟨by show (fixS X.st b.length s t).length = 9; rw [fixS_len]; exact h.s9, fun x p => by
    show ((fixS X.st b.length s t).getD x 0).testBit p = true ↔ _
    rw [fixS_bit h.s9 (h.ok hn) (by omega) s t ht, h.bit]
    constructor
    · rintro ⟨⟨h1, h2, h3, h4⟩, h5⟩
      refine ⟨h1, h2, h3, fun c hc => ?_⟩
      by_cases hp : p < b.length
      · rw [List.getElem?_append_left hp] at hc
        exact h4 c hc
      · rw [List.getElem?_append_right (by omega)] at hc
        have hpl : p = b.length := by
          have := (List.getElem?_eq_some_iff.1 hc).1
          simp at this; omega
        subst hpl
        simp at hc
        by_cases hxs : x = s
        · omega
        · exact absurd rfl (h5 h1 h2 hxs)
    · rintro ⟨h1, h2, h3, h4⟩
      refine ⟨⟨h1, h2, h3, fun c hc => h4 c (by rw [List.getElem?_append_left (List.getElem?_eq_some_iff.1 hc).1]; exact hc)⟩, fun _ _ hxs hp => ?_⟩
      have := h4 s (by rw [List.getElem?_append_right (by omega), hp]; simp)
      omega, h.stays, h.last, h.terms⟩

set_option maxRecDepth 100000 in
set_option maxHeartbeats 8000000 in
theorem ftrack_any (ap : Option Addr) (cp : Nat) (ls : List Lay) (t n : Nat) (w : World) (hr : Cells w ap (lays ls)) (hrow : ∀ p ∈ ls, Cells w p.addr (nums p.right)) (hp : LaysOk (newT ap cp ls t n)) (ht : t ≤ 8) (hn : n ≤ 12) (hls : ls.length ≤ 1000000) (hT : Tab32 w) :
    Calls Tryd.prog 47 #[.slice ap ls.length cp, .int .i64 t, .int .i64 n] w fun e w' => Below w.heap.size w w' ∧ ∃ E, e = .returned (.agg (trkL (((newT ap cp ls t n).wst (freeS n t)).wen E)).toArray) ∧ TrkB ((newT ap cp ls t n).wst (freeS n t)) E t n [] := by
  have HR := Lib.hid hr
  have HROW := Lib.hid hrow
  have HT := Lib.hid hT
  have HP := Lib.hid hp
  have HFX := Lib.hid (free_fix ap cp ls t n ht)
  clear hr hrow hT hp
  go_enter Tryd.func47, Tryd.ntmps47
  go_upto_region 1 with fail
  have HW0 := Lib.hid (show Below w.heap.size w (w.alloc (.cells Tryd.zeroCells81 81)) from (Below.refl _ _).alloc (Nat.le_refl _) _)
  have HZ0 := Lib.hid (heap_alloc_new w (.cells Tryd.zeroCells81 81))
  have HSZ0 := Lib.hid (show (w.alloc (.cells Tryd.zeroCells81 81)).heap.size = w.heap.size + 1 by simp)
  generalize hA : w.alloc (.cells Tryd.zeroCells81 81) = A at *
  clear hA
  have hstore := store_trk A (newT ap cp ls t n) (by simp [newT]) (by simp [newT])
  rw [← new_trk] at hstore
  go_upto_region 2 with fail
  rw [new_trk]
  clear hstore
  have HQ0 : Hid (TrkQ (A.alloc (.cells (trkL (newT ap cp ls t n)).toArray 81)) A.heap.size ((newT ap cp ls t n).wst (freeS n 0)) (List.replicate 104 0)) := Lib.hid ⟨heap_alloc_new A _, by simp [freeS, Trk.wst], by simp⟩
  have HB0 := Lib.hid (show Below A.heap.size A (A.alloc (.cells (trkL (newT ap cp ls t n)).toArray 81)) from (Below.refl _ _).alloc (Nat.le_refl _) _)
  go_wp2_with fail
  generalize hB : A.heap.size = B at *
  go_loopw [14] (fun i wr => ∃ k : Nat, k ≤ t ∧ i = .int .i64 k ∧ Hid (TrkQ wr B ((newT ap cp ls t n).wst (freeS n k)) (List.replicate 104 0)) ∧ Hid (Below A.heap.size A wr)) (fun i _ => t - (intOf i).toNat)
  case atStart => exact ⟨0, by omega, rfl, HQ0, hB ▸ HB0⟩
  case round =>
    clear HQ0 HB0
    obtain ⟨k, hk, rfl, HQ, HBW⟩ := hrel
    by_cases hlt : k < t
    · have hlt' : (k : Int) < t := by omega
      have hk9 : k + 1 < 9 := by omega
      have hk9' : (k : Int) + 1 < 9 := by omega
      obtain ⟨v1, v2⟩ := HQ.out.stc hk9
      have v3 := heap_lt HQ.out.q
      have HO := Lib.hid fun W => only_any n (by omega) W
      have hp2 : 2 ^ n < 65536 := (show 2 ^ n < 2 ^ 16 from Nat.pow_lt_pow_right (by omega) (by omega))
      have hp1 : 0 < 2 ^ n := Nat.two_pow_pos n
      have hsk : freeS n (k + 1) = (freeS n k).set (k + 1) (2 ^ n - 1) := rfl
      have hTS := HQ.out.sset (2 ^ n - 1) hk9
      rw [← hsk] at hTS
      have hBS := HBW.out.setCell (p := ⟨B, 3 + (k + 1), none⟩) (by show A.heap.size ≤ B; omega) (.int .u16 ((2 ^ n - 1 : Nat) : Int))
      have HTF := Lib.hid hTS
      have HBF := Lib.hid hBS
      clear hTS hBS hsk
      generalize hy : 2 ^ n = y at *
      have hsub : IntKind.u16.wrap ((y : Int) - 1) = ((y - 1 : Nat) : Int) := by rw [IntKind.wrap_u16]; omega
      clear hy
      generalize hz : y - 1 = z at *
      clear hz hp2 hp1
      go_wp2_with (go_at_call 82; refine (HO.out _).mono ?_; rintro e w5 ⟨rfl, hw5⟩; obtain rfl := hw5.symm)
      go_roundw
      case rel => exact ⟨k + 1, by omega, by go_num, Lib.hid ⟨HTF.out.q, HTF.out.s9, HTF.out.e104⟩, Lib.hid HBF.out⟩
      case measure => simp [intOf]; omega
    · have hkl : k = t := by omega
      subst hkl
      have HSE := Lib.hid (settle_any B ((newT ap cp ls k n).wst (freeS n k)) n (List.replicate 104 0) A wr HBW.out (by omega) HQ.out (HFX.out.trkOk hn (fun x hx => by rw [show ((newT ap cp ls k n).wst (freeS n k)).en = List.replicate 104 0 from rfl, List.mem_replicate] at hx; omega)) (fun x hx => by rw [List.mem_replicate] at hx; omega) (HR.out.below HW0.out) (fun p hp => (HROW.out p hp).below HW0.out) HP.out (by omega) hls (HT.out.below HW0.out))
      have z2 := (blk_cell (i := 2) (u := .int .i64 n) HQ.out.q rfl).1
      have z9 := heap_lt HQ.out.q
      go_upto_region 8 with (go_at_call 83; refine HSE.out.mono ?_; rintro e w5 ⟨rfl, hb5, E, hq5, hE, hE5⟩)
      have HB5 := Lib.hid hb5
      have HF5 := Lib.hid (trkB_free HFX.out hn (fun x hx => by rw [show ((newT ap cp ls k n).wst (freeS n k)).en = List.replicate 104 0 from rfl, List.mem_replicate] at hx; omega) HP.out hE)
      have hz5 := (hb5.block _ (heap_lt HZ0.out)).trans HZ0.out
      have HZ5 := Lib.hid hz5
      have hlen := len_trk (X := ((newT ap cp ls k n).wst (freeS n k)).wen E) hq5.s9 hq5.e104
      have hst2 := store_old w5 w.heap.size (((newT ap cp ls k n).wst (freeS n k)).wen E) hq5.s9 hq5.e104 hz5
      have HLEN := Lib.hid hlen
      have HQ5 := Lib.hid hq5.q
      clear hq5 hb5 hE hE5 hz5
      generalize hZ : trkL (((newT ap cp ls k n).wst (freeS n k)).wen E) = Z at *
      have HZE := Lib.hid hZ
      clear hZ
      go_wp2
      refine wp_load_row 81 (.tmp 7) rfl B rfl 81 _ (0, 0) _ HQ5.out Tryd.underlying81 rfl (by rw [infoTrk, List.size_toArray, HLEN.out]) ?_
      go_wp2
      refine bodyPost_ret (results_cell_row (g := w.heap.size) (t := 81) (cs := Z.toArray) (fr := (0, 0)) rfl _ _ _ rfl (setRow_heap _ _ _ _ _ _ HZ5.out) Tryd.underlying81 rfl (by rw [infoTrk, List.size_toArray, HLEN.out])) rfl ?_
      exact ⟨below_setRow (HW0.out.trans (HB5.out.mono HW0.out.size)) (Nat.le_refl _) _, E, by rw [← HZE.out], HF5.out⟩

end Go.Proofs.YtejjdfmobiegdaaDoor

set_option linter.unusedVariables false
namespace Go.Proofs.YtejjdfmobiegdaaDoor
open Go.RowKit
open Doc

set_option maxRecDepth 100000 in
set_option maxHeartbeats 8000000 in
theorem fixed_any (X : Trk) (E : List Nat) (t n : Nat) (b : List Int) (s : Nat) (w : World) (hr : Cells w X.ap (lays X.ls)) (hrow : ∀ p ∈ X.ls, Cells w p.addr (nums p.right)) (hp : LaysOk X) (hX : TrkB X E t n b) (hXe : ∀ x ∈ X.en, x < 8192) (ht : t ≤ 8) (hn : n ≤ 12) (hb : b.length < n) (hs : 1 ≤ s) (hst : s ≤ t) (hls : X.ls.length ≤ 1000000) (hT : Tab32 w) :
    Calls Tryd.prog 81 #[.agg (trkL (X.wen E)).toArray, .int .i64 b.length, .int .i64 s] w fun e w' => Below w.heap.size w w' ∧ ∃ E', e = .returned (.agg (trkL ((X.wst (fixS X.st b.length s t)).wen E')).toArray) ∧ TrkB (X.wst (fixS X.st b.length s t)) E' t n (b ++ [(s : Int)]) := by
  have HR := Lib.hid hr
  have HROW := Lib.hid hrow
  have HT := Lib.hid hT
  have HP := Lib.hid hp
  have HXB := Lib.hid hX
  have HXE := Lib.hid hXe
  have HFX := Lib.hid (fix_fix hX.st ht hn hb s hs hst)
  have HS9 := Lib.hid hX.st.s9
  have HOK := Lib.hid (hX.st.ok hn)
  have HTE := Lib.hid hX.st.terms
  have hEL := hX.full.lt
  have h104 := hX.full.len
  have HFIX := Lib.hid fun (E' : List Nat) hS => hX.fix (Y := X.wst (fixS X.st b.length s t)) (s := (s : Int)) (E' := E') hn hb HFX.out hXe rfl hp hS
  clear hr hrow hT hp hX hXe
  generalize hPL : b.length = pl at *
  have HPL := Lib.hid hPL
  clear hPL
  have hQA : TrkQ (w.alloc (.cells (trkL (X.wen E)).toArray 81)) w.heap.size (X.wst (fixS X.st pl s 0)) E := ⟨heap_alloc_new w _, HS9.out, h104⟩
  have HEL := Lib.hid hEL
  have hAB : Below w.heap.size w (w.alloc (.cells (trkL (X.wen E)).toArray 81)) := (Below.refl _ _).alloc (Nat.le_refl _) _
  have hQ0 := hQA.below ((Below.refl _ _).alloc (Nat.le_refl _) (.cells Tryd.zeroCells81 81))
  have hB0 := hAB.alloc (by simp) (.cells Tryd.zeroCells81 81)
  have hZ0 := heap_alloc_new (w.alloc (.cells (trkL (X.wen E)).toArray 81)) (.cells Tryd.zeroCells81 81)
  have hSZ : (w.alloc (.cells (trkL (X.wen E)).toArray 81)).heap.size = w.heap.size + 1 := by simp
  rw [hSZ] at hZ0
  have HQ0 := Lib.hid hQ0
  have HB0 := Lib.hid hB0
  have HZ0 := Lib.hid hZ0
  clear hQA hAB hQ0 hB0 hZ0 hSZ hEL h104
  go_enter Tryd.func81, Tryd.ntmps81
  go_upto_region 1 with fail
  generalize (w.alloc (.cells (trkL (X.wen E)).toArray 81)).alloc (.cells Tryd.zeroCells81 81) = S at *
  have hBw : w.heap.size ≤ w.heap.size := Nat.le_refl _
  generalize hB : w.heap.size = B at *
  have HBZ := Lib.hid hB
  clear hB
  have y1 := (blk_cell (i := 1) (u := .int .i64 X.terms) HQ0.out.q rfl).1
  rw [HTE.out] at y1
  have y9 := heap_lt HQ0.out.q
  go_wp2_with fail
  clear y1 y9
  go_loopw [10] (fun i wr => ∃ k : Nat, k ≤ t ∧ i = .int .i64 k ∧ Hid (TrkQ wr B (X.wst (fixS X.st pl s k)) E) ∧ Hid (Below B w wr) ∧ Hid (wr.heap[B + 1]? = some (.cells Tryd.zeroCells81 81))) (fun i _ => t - (intOf i).toNat)
  case atStart => exact ⟨0, by omega, rfl, HQ0, HB0, HZ0⟩
  case round =>
    clear HQ0 HB0 HZ0
    obtain ⟨k, hk, rfl, HQ, HBW, HZ⟩ := hrel
    by_cases hlt : k < t
    · have hlt' : (k : Int) < t := by omega
      by_cases hks : k + 1 = s
      · have e2 : ((k : Int) + 1 != (s : Int)) = false := by simp; omega
        have HFS := Lib.hid (show fixS X.st pl s (k + 1) = fixS X.st pl s k by show (if k + 1 = s then _ else _) = _; rw [if_pos hks])
        clear hks
        go_wp2
        go_roundw
        case rel => exact ⟨k + 1, by omega, by go_num, Lib.hid (by rw [HFS.out]; exact HQ.out), HBW, HZ⟩
        case measure => simp [intOf]; omega
      · have e2 : ((k : Int) + 1 != (s : Int)) = true := by simp; omega
        have hFS : fixS X.st pl s (k + 1) = (fixS X.st pl s k).set (k + 1) ((fixS X.st pl s k).getD (k + 1) 0 &&& (65535 - 2 ^ pl)) := by show (if k + 1 = s then _ else _) = _; rw [if_neg hks]
        have hk9 : k + 1 < 9 := by omega
        have hk9' : (k : Int) + 1 < 9 := by omega
        obtain ⟨v1, v2⟩ := HQ.out.stc hk9
        have v3 := heap_lt HQ.out.q
        have HO := Lib.hid fun W => only_any pl (by omega) W
        have hp2 : 2 ^ pl < 65536 := (show 2 ^ pl < 2 ^ 16 from Nat.pow_lt_pow_right (by omega) (by omega))
        have hxl : (fixS X.st pl s k).getD (k + 1) 0 < 4096 := getD_lt (fixS_lt HOK.out pl s k) (by omega) _
        have hTS := HQ.out.sset ((fixS X.st pl s k).getD (k + 1) 0 &&& (65535 - 2 ^ pl)) hk9
        rw [← hFS] at hTS
        have hBS := HBW.out.setCell (p := ⟨B, 3 + (k + 1), none⟩) (by show B ≤ B; omega) (.int .u16 (((fixS X.st pl s k).getD (k + 1) 0 &&& (65535 - 2 ^ pl) : Nat) : Int))
        have hst : (X.wst (fixS X.st pl s k)).st.getD (k + 1) 0 = (fixS X.st pl s k).getD (k + 1) 0 := rfl
        rw [hst] at v1
        have hZS : (wr.setCell ⟨B, 3 + (k + 1), none⟩ (.int .u16 (((fixS X.st pl s k).getD (k + 1) 0 &&& (65535 - 2 ^ pl) : Nat) : Int))).heap[B + 1]? = some (.cells Tryd.zeroCells81 81) := (Below.heap_setCell _ _ _ _ (by show B + 1 ≠ B; omega)).trans HZ.out
        have HTF := Lib.hid hTS
        have HBF := Lib.hid hBS
        have HZF := Lib.hid hZS
        clear hTS hBS hFS hst hks hZS
        generalize (fixS X.st pl s k).getD (k + 1) 0 = x at *
        have hand := u16_andNot_nat x (2 ^ pl) (by omega) hp2
        generalize 2 ^ pl = y at *
        clear hxl hp2
        have hwk : IntKind.i64.wrap ((k : Int) + 1) = (k : Int) + 1 := IntWalk.i64_in _ (by omega)
        go_upto_region 5 with fail
        go_region_with (go_at_call 82; refine (HO.out _).mono ?_; rintro e w5 ⟨rfl, rfl⟩)
        all_goals
          go_wp2
          go_roundw
          case rel => exact ⟨k + 1, by omega, by go_num, Lib.hid ⟨HTF.out.q, HTF.out.s9, HTF.out.e104⟩, Lib.hid HBF.out.drew, HZF⟩
          case measure => simp [intOf]; omega
    · have hkl : k = t := by omega
      subst hkl
      have HSE := Lib.hid (settle_anyK B (X.wst (fixS X.st pl s k)) pl E w wr (by rw [HBZ.out]; exact HBW.out) (by rw [HBZ.out]; exact hBw) HQ.out (HFX.out.trkOk hn HXE.out) HEL.out HR.out HROW.out HP.out (by omega) hls HT.out)
      go_upto_region 8 with (go_at_call 83; refine HSE.out.mono ?_; rintro e w5 ⟨rfl, hb5, hk5, E', hq5, hE, hE5⟩)
      have hB1 := heap_lt HZ.out
      rw [HBZ.out] at hb5
      have HB5 := Lib.hid hb5
      have HF5 := Lib.hid (HFIX.out E' hE)
      have hz5 := (hk5.block (B + 1) hB1 (by omega)).trans HZ.out
      have HZ5 := Lib.hid hz5
      have hlen := len_trk (X := (X.wst (fixS X.st pl s k)).wen E') hq5.s9 hq5.e104
      have hst2 := store_old w5 (B + 1) ((X.wst (fixS X.st pl s k)).wen E') hq5.s9 hq5.e104 hz5
      have HLEN := Lib.hid hlen
      have HQ5 := Lib.hid hq5.q
      clear hq5 hb5 hk5 hE hE5 hz5 hB1
      generalize hZ : trkL ((X.wst (fixS X.st pl s k)).wen E') = Z at *
      have HZE := Lib.hid hZ
      clear hZ
      go_wp2
      refine wp_load_row 81 (.tmp 3) rfl B rfl 81 _ (0, 0) _ HQ5.out Tryd.underlying81 rfl (by rw [infoTrk, List.size_toArray, HLEN.out]) ?_
      go_wp2
      refine bodyPost_ret (results_cell_row (g := B + 1) (t := 81) (cs := Z.toArray) (fr := (0, 0)) rfl _ _ _ rfl (setRow_heap _ _ _ _ _ _ HZ5.out) Tryd.underlying81 rfl (by rw [infoTrk, List.size_toArray, HLEN.out])) rfl ?_
      exact ⟨by rw [HBZ.out]; exact below_setRow HB5.out (by omega) _, E', by rw [← HZE.out], HF5.out⟩
end Go.Proofs.YtejjdfmobiegdaaDoor

set_option linter.unusedVariables false
namespace Go.Proofs.YtejjdfmobiegdaaDoor
open Go.RowKit
open Doc

set_option maxRecDepth 100000 in
set_option maxHeartbeats 2000000 in
theorem cloneI_any (a : Option Addr) (c : Nat) (l : List Int) (w : World) (hc : Cells w a (nums l)) (hl : l.length ≤ 1000000) (hn : a = none → l = []) :
    Calls Tryd.prog 74 #[.slice a l.length c] w fun e w' => ∃ (a' : Option Addr) (c' : Nat), e = .returned (.slice a' l.length c') ∧ w'.ownsRow w.heap.size 3 1 (.slice a' l.length c') l.length (nums l) ∧ Below w.heap.size w w' := by
  have HC := Lib.hid hc
  clear hc
  cases a with
  | none =>
    obtain rfl := hn rfl
    have hEQ : ∀ W, (binOp .eql 25 (.slice none 0 c) (.slice none 0 0)).run Tryd.prog W = .ok (.bool true) W := fun _ => rfl
    go_enter Tryd.func74, Tryd.ntmps74
    go_wp2
    go_ret
    exact ⟨none, 0, rfl, World.ownsRow_nil _ _ _ _, Below.refl _ _⟩
  | some x =>
    clear hn
    have hA : Below w.heap.size w (w.alloc (.cells #[] 3)) := (Below.refl _ _).alloc (Nat.le_refl _) _
    have HO := Lib.hid (World.ownsRow_made (e := 3) (size := 1) (base := w.heap.size) w #[] 0 (Nat.le_refl _) (by unfold maxLen; omega) (by simp))
    have HA := Lib.hid hA
    have HCA := Lib.hid (HC.out.below hA)
    clear hA
    have hEQ : ∀ W, (binOp .eql 25 (.slice (some x) l.length c) (.slice none 0 0)).run Tryd.prog W = .ok (.bool false) W := fun _ => rfl
    go_enter Tryd.func74, Tryd.ntmps74
    go_wp2_with (at_builtin; refine wpList_app rfl (.tmp 5) (.tmp 6) rfl w.heap.size (some ⟨w.heap.size, 0, none⟩) 0 0 [] rfl HO.out HA.out.size (some x) l c rfl HCA.out (by omega) ?_; intro va vc w4 ho4 hg4)
    go_ret
    have hB := HA.out.grown hg4 HA.out.size (fun k hk => by cases hk; exact Nat.le_refl _)
    simp only [Nat.zero_add, List.nil_append] at ho4 ⊢
    exact ⟨va, vc, rfl, ho4, hB⟩

/-- One more behind a row of one's own: in place, or in a new block. -/
theorem run_app1 (ty : TypeId) (base : Nat) (va : Option Addr) (n vc : Nat) (xs : List Int) (w : World) (hown : w.ownsRow base 3 1 (.slice va n vc) n (nums xs)) (hb : base ≤ w.heap.size) (x : Addr) (y : Int) (xc : Nat) (hc : Cells w (some x) (nums [y])) (hn : n ≤ 1000000000000) :
    ∃ va' vc' w', (Builtin.append_ #[25, 25] ty #[.slice va n vc, .slice (some x) 1 xc]).run Tryd.prog w = .ok (.slice va' (n + 1) vc') w' ∧ w'.ownsRow base 3 1 (.slice va' (n + 1) vc') (n + 1) (nums (xs ++ [y])) ∧ w.grownBy w' (Value.slice va n vc).ownBlock ∧ ((va' = va ∧ vc' = vc) ∨ ∃ g, va' = some ⟨g, 0, none⟩ ∧ w.heap.size ≤ g ∧ w.grownBy w' none) := by
  obtain ⟨i0, hi0, hz0, hz1, hz2⟩ := info_of infoI
  obtain ⟨g0, off, hx0, hn5⟩ := own_news0 (b := 0) hc (by simp)
  cases hx0
  have h1 : ∀ u ∈ nums [y], u.oneCell' = true := fun u hu => by obtain ⟨z, _, rfl⟩ := List.mem_map.1 hu; rfl
  have hml : maxLen = 9223372036854775807 := rfl
  rw [nums_app]
  rcases hown.2 with ⟨hv, hz⟩ | ⟨g, cap, cur, hv, hbg, hg, hnc, hcm, hcs, htake⟩
  · injection hv with e1 e2 e3
    subst e1 e2 e3
    obtain ⟨v', w', hr, h2, h3, _, h5⟩ := run_append_own_at (P := Tryd.prog) w base 25 ty 3 i0 (.int .i64 0) 1 8 Tryd.underlying25 hi0 hz0 hz1 hz2 rfl (by decide) _ 0 (nums xs) hown ⟨g0, off, none⟩ 1 xc (nums [y]) (by simp [nums]) hn5 h1 (by rw [hml]; omega) (by omega) hb
    obtain ⟨g, cap, rfl, _, hlt⟩ := h2.form (by omega)
    refine ⟨_, _, w', hr, h2, h3, .inr ⟨g, rfl, ?_, h3⟩⟩
    rcases h5 with h5 | h5
    · simp [Value.ownBlock] at h5
    · have : g = w.heap.size := by simpa [Value.ownBlock] using h5
      omega
  · injection hv with e1 e2 e3
    subst e1 e3
    by_cases hroom : n + 1 ≤ vc
    · have hl1 : (nums [y]).length = 1 := by simp [nums]
      have hfit : n * i0.size + (nums [y]).length ≤ cur.size := by rw [hl1, hz1, hcs]; omega
      have hr := run_append_room (P := Tryd.prog) w 25 ty 3 i0 Tryd.underlying25 hi0 g n vc cur hg ⟨g0, off, none⟩ 1 xc (nums [y]) (by rw [hl1, hz1]) hn5 h1 hroom hfit
      have hlen : (nums xs ++ nums [y]).length = (n + 1) * 1 := by rw [List.length_append, hown.1, hl1]; omega
      refine ⟨some ⟨g, 0, none⟩, vc, _, hr, ⟨hlen, .inr ⟨g, vc, _, rfl, hbg, setRow_heap w g cur _ 3 _ hg, hroom, hcm, ?_, ?_⟩⟩, ⟨rfl, rfl, rfl, by simp, fun k _ hk => setRow_other w g k _ (fun e => hk (by simp [Value.ownBlock, e]))⟩, .inl ⟨rfl, rfl⟩⟩
      · simp only [List.size_toArray, List.length_append, List.length_take, List.length_drop, Array.length_toList]
        rw [hl1, hz1]
        omega
      · rw [hz1, htake, ← hlen]
        exact List.take_left
    · obtain ⟨v', w', hr, h2, h3⟩ := run_append_arg_grows (P := Tryd.prog) w 25 ty 3 i0 (.int .i64 0) 1 8 Tryd.underlying25 hi0 hz0 hz1 hz2 rfl (by decide) ⟨g, 0, none⟩ n vc (nums xs) hown.1 (hown.cells (g := g) rfl) ⟨g0, off, none⟩ 1 xc (nums [y]) (by simp [nums]) hn5 (by omega) (by rw [hml]; omega) (by omega)
      obtain ⟨g', cap, rfl, hgb, hlt⟩ := h2.form (by omega)
      refine ⟨_, _, w', hr, own_base' h2 hb, ⟨h3.os, h3.tape, h3.output, h3.size, fun k hk _ => h3.block k hk (by simp)⟩, .inr ⟨g', rfl, hgb, h3⟩⟩
theorem wpList_app1 {w : World} {ops : Array Oper} {rest : List Oper} {o : Oper} {a : Act} {Q : Exit → Act → World → Prop} (hgd : o.guard = none) (s x : Operand)
    (ho : o.op = .call { callee := .builtin .append, args := #[s, x], argTypes := #[25, 25] })
    (base : Nat) (va : Option Addr) (n vc : Nat) (xs : List Int) (hs : a.eval s = .slice va n vc) (hown : w.ownsRow base 3 1 (.slice va n vc) n (nums xs)) (hb : base ≤ w.heap.size)
    (xa : Addr) (y : Int) (xc : Nat) (hx : a.eval x = .slice (some xa) 1 xc) (hc : Cells w (some xa) (nums [y])) (hn : n ≤ 1000000000000)
    (h : ∀ va' vc' w', w'.ownsRow base 3 1 (.slice va' (n + 1) vc') (n + 1) (nums (xs ++ [y])) → w.grownBy w' (Value.slice va n vc).ownBlock → ((va' = va ∧ vc' = vc) ∨ ∃ g, va' = some ⟨g, 0, none⟩ ∧ w.heap.size ≤ g ∧ w.grownBy w' none) → wpList Tryd.prog ops Q rest (a.put o.dst (.slice va' (n + 1) vc')) w') : wpList Tryd.prog ops Q (o :: rest) a w :=
  wpList_plain hgd fun _ hK => by
    obtain ⟨va', vc', w', hr, h2, h3, h4⟩ := run_app1 o.type base va n vc xs w hown hb xa y xc hc hn
    unfold Oper.wp execOp
    simp only [ho, resolve, invoke, builtin, Sem.run_bind, Sem.run_pure, Result.andThen_ok, List.map_toArray, List.map_cons, List.map_nil, hs, hx, hr]
    exact hK _ _ (h va' vc' w' h2 h3 h4)

/-- What lies while words are looked for: the words found, in a row of their own; the beginning, in its own. -/
structure WSt (base : Nat) (w0 w : World) (la : Option Addr) (lc : Nat) (R : List RowL) (ba : Option Addr) (bc : Nat) (b : List Int) : Prop where
  below : Below base w0 w
  rows : RowsG w base la lc R
  own : w.ownsRow base 3 1 (.slice ba b.length bc) b.length (nums b)
  apart : ∀ r ∈ R, ∀ x, r.addr = some x → ∀ y, ba = some y → x.block ≠ y.block
/-- From one world to a later one: the two rows alone are turned, the words that are new lie in new memory. -/
structure WTo (w w' : World) (la la' : Option Addr) (ba : Option Addr) (N : List RowL) : Prop where
  size : w.heap.size ≤ w'.heap.size
  keep : ∀ k, k < w.heap.size → (∀ y, la = some y → y.block ≠ k) → (∀ y, ba = some y → y.block ≠ k) → w'.heap[k]? = w.heap[k]?
  loc : ∀ x, la' = some x → (∃ y, la = some y ∧ y.block = x.block) ∨ w.heap.size ≤ x.block
  new : ∀ r ∈ N, ∀ x, r.addr = some x → w.heap.size ≤ x.block
theorem WTo.refl (w : World) (la ba : Option Addr) : WTo w w la la ba [] := ⟨Nat.le_refl _, fun _ _ _ _ => rfl, fun x hx => .inl ⟨x, hx, rfl⟩, fun r hr => by cases hr⟩
theorem WTo.trans {w w1 w2 : World} {la la1 la2 ba : Option Addr} {M N : List RowL} (h : WTo w w1 la la1 ba M) (k : WTo w1 w2 la1 la2 ba N) : WTo w w2 la la2 ba (M ++ N) := by
  refine ⟨Nat.le_trans h.size k.size, fun i hi h1 h2 => ?_, fun x hx => ?_, fun r hr x hx => ?_⟩
  · refine (k.keep i (Nat.lt_of_lt_of_le hi h.size) (fun y hy e => ?_) h2).trans (h.keep i hi h1 h2)
    rcases h.loc y hy with ⟨z, hz, hzy⟩ | hz
    · exact h1 z hz (hzy.trans e)
    · omega
  · rcases k.loc x hx with ⟨y, hy, hyx⟩ | hy
    · rcases h.loc y hy with ⟨z, hz, hzy⟩ | hz
      · exact .inl ⟨z, hz, hzy.trans hyx⟩
      · exact .inr (by omega)
    · exact .inr (Nat.le_trans h.size hy)
  · rcases List.mem_append.1 hr with hr | hr
    · exact h.new r hr x hx
    · exact Nat.le_trans h.size (k.new r hr x hx)
theorem WSt.base {base : Nat} {w0 w : World} {la ba : Option Addr} {lc bc : Nat} {R : List RowL} {b : List Int} (h : WSt base w0 w la lc R ba bc b) (h0 : w0.heap.size = base) : base ≤ w.heap.size := by have := h.below.size; omega
/-- A call that turns nothing of old. -/
theorem WSt.later {base : Nat} {w0 w w' : World} {la ba : Option Addr} {lc bc : Nat} {R : List RowL} {b : List Int} (h : WSt base w0 w la lc R ba bc b) (h0 : base ≤ w.heap.size) (hb : Below w.heap.size w w') : WSt base w0 w' la lc R ba bc b :=
  ⟨h.below.trans (hb.mono h0), h.rows.below hb, own_same h.own fun k _ hk => hb.block k hk, h.apart⟩
theorem WTo.later (w w' : World) (la ba : Option Addr) (hb : Below w.heap.size w w') : WTo w w' la la ba [] := ⟨hb.size, fun k hk _ _ => hb.block k hk, fun x hx => .inl ⟨x, hx, rfl⟩, fun r hr => by cases hr⟩
/-- The two rows lie in blocks of their own. -/
theorem WSt.two {base : Nat} {w0 w : World} {la ba : Option Addr} {lc bc : Nat} {R : List RowL} {b : List Int} (h : WSt base w0 w la lc R ba bc b) {x y : Addr} (hx : la = some x) (hy : ba = some y) : x.block ≠ y.block := by
  intro e
  obtain ⟨_, _, c1, h1⟩ := own_block h.rows.own (g := x.block) (by rw [hx]; rfl)
  obtain ⟨_, _, c2, h2⟩ := own_block h.own (g := y.block) (by rw [hy]; rfl)
  rw [e, h2] at h1
  injection h1 with h1
  injection h1 with _ h1 _
  exact absurd h1 (by decide)
/-- A beginning made longer by an append, in its own row or a new one. -/
theorem WSt.longer {base : Nat} {w0 w w1 : World} {la ba ca : Option Addr} {lc bc cc : Nat} {R : List RowL} {b : List Int} {s : Int} (h : WSt base w0 w la lc R ba bc b) (h0 : base ≤ w.heap.size) (ho : w1.ownsRow base 3 1 (.slice ca (b.length + 1) cc) (b.length + 1) (nums (b ++ [s]))) (hg : w.grownBy w1 (Value.slice ba b.length bc).ownBlock) (hl : (ca = ba ∧ cc = bc) ∨ ∃ g, ca = some ⟨g, 0, none⟩ ∧ w.heap.size ≤ g ∧ w.grownBy w1 none) :
    WSt base w0 w1 la lc R ca cc (b ++ [s]) := by
  have hlow : ∀ k, (Value.slice ba b.length bc).ownBlock = some k → base ≤ k := fun k hk => (own_block h.own hk).1
  have hra : ∀ r ∈ R, ∀ x, r.addr = some x → some x.block ≠ (Value.slice ba b.length bc).ownBlock := fun r hr x hx e => by
    obtain ⟨y, hy, hyx⟩ := ownBlock_eq e.symm
    exact h.apart r hr x hx y hy hyx.symm
  have hla : ∀ x, la = some x → some x.block ≠ (Value.slice ba b.length bc).ownBlock := fun x hx e => by
    obtain ⟨y, hy, hyx⟩ := ownBlock_eq e.symm
    exact h.two hx hy hyx.symm
  refine ⟨h.below.grown hg h0 hlow, ⟨own_same h.rows.own fun k hk hk2 => ?_, fun r hr => cells_grown (h.rows.rows r hr) hg fun x hx => hra r hr x hx, fun r hr x hx => ?_⟩, by rw [List.length_append]; exact ho, fun r hr x hx y hy => ?_⟩
  · obtain ⟨x, hx, rfl⟩ := ownBlock_eq hk
    exact hg.block _ hk2 (hla x hx)
  · have h3 := h.rows.apart r hr x hx
    exact ⟨h3.1, h3.2.1, Nat.lt_of_lt_of_le h3.2.2 hg.size⟩
  · have h3 := h.rows.apart r hr x hx
    rcases hl with ⟨rfl, _⟩ | ⟨g, rfl, hg2, _⟩
    · exact h.apart r hr x hx y hy
    · cases hy
      show x.block ≠ g
      omega
/-- Behind what was done with the longer beginning. -/
theorem WSt.back {base : Nat} {w0 w w1 w2 : World} {la la2 ba ca : Option Addr} {lc lc2 bc cc : Nat} {R N : List RowL} {b : List Int} {s : Int} (h : WSt base w0 w la lc R ba bc b) (hg : w.grownBy w1 (Value.slice ba b.length bc).ownBlock) (hl : (ca = ba ∧ cc = bc) ∨ ∃ g, ca = some ⟨g, 0, none⟩ ∧ w.heap.size ≤ g ∧ w.grownBy w1 none)
    (h1 : WSt base w0 w1 la lc R ca cc (b ++ [s])) (h2 : WSt base w0 w2 la2 lc2 (R ++ N) ca cc (b ++ [s])) (hw : WTo w1 w2 la la2 ca N) : WSt base w0 w2 la2 lc2 (R ++ N) ba bc b ∧ WTo w w2 la la2 ba N := by
  have hsz := hg.size
  have hNapart : ∀ r ∈ N, ∀ x, r.addr = some x → w.heap.size ≤ x.block := fun r hr x hx => Nat.le_trans hsz (hw.new r hr x hx)
  refine ⟨⟨h2.below, h2.rows, ?_, fun r hr x hx y hy => ?_⟩, ⟨Nat.le_trans hsz hw.size, fun k hk h3 h4 => ?_, fun x hx => ?_, hNapart⟩⟩
  · -- the beginning's own row
    rcases hl with ⟨rfl, rfl⟩ | ⟨g, rfl, hgg, hgn⟩
    · -- in place
      rcases h2.own.2 with ⟨hn, hz⟩ | ⟨g2, cap2, cur2, hv2, hb2, hgc2, hle2, hmx2, hcs2, htk2⟩
      · rw [List.length_append] at hz; simp at hz
      · injection hv2 with e1 e2 e3
        subst e1 e3
        rw [List.length_append, List.length_singleton] at hle2 htk2
        refine ⟨h.own.1, .inr ⟨g2, cc, cur2, rfl, hb2, hgc2, by omega, hmx2, hcs2, ?_⟩⟩
        have e4 : cur2.toList.take (b.length * 1) = (cur2.toList.take ((b.length + 1) * 1)).take (b.length * 1) := by rw [List.take_take]; congr 1; omega
        rw [e4, htk2, nums_app, show b.length * 1 = (nums b).length by simp [nums]]
        exact List.take_left
    · refine own_same h.own fun k hk hk2 => ?_
      obtain ⟨y, hy, rfl⟩ := ownBlock_eq hk
      have e1 : w2.heap[y.block]? = w1.heap[y.block]? := hw.keep _ (Nat.lt_of_lt_of_le hk2 hsz) (fun z hz => h.two hz hy) (fun z hz => by cases hz; show g ≠ y.block; omega)
      exact e1.trans (hgn.block _ hk2 (by simp))
  · rcases List.mem_append.1 hr with hr | hr
    · exact h.apart r hr x hx y hy
    · have := hNapart r hr x hx
      have := (own_block h.own (g := y.block) (by rw [hy]; rfl)).2.1
      omega
  · have e1 : w1.heap[k]? = w.heap[k]? := hg.block k hk fun e => by
      obtain ⟨y, hy, hyk⟩ := ownBlock_eq e.symm
      exact h4 y hy hyk
    refine (hw.keep k (Nat.lt_of_lt_of_le hk hsz) h3 fun y hy e => ?_).trans e1
    rcases hl with ⟨rfl, _⟩ | ⟨g, rfl, hgg, _⟩
    · exact h4 y hy e
    · cases hy
      have : g = k := e
      omega
  · rcases hw.loc x hx with h5 | h5
    · exact .inl h5
    · exact .inr (Nat.le_trans hsz h5)
end Go.Proofs.YtejjdfmobiegdaaDoor
