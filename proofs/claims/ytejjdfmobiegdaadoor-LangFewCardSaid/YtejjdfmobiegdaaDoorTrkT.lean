/- lang: grow, walked. lang: settle, walked. lang: grow, settle: that they turn a track's own block alone, and blocks of their own. -/
import Derived.Test.YtejjdfmobiegdaaDoorTrkR
import Derived.Test.YtejjdfmobiegdaaDoorFirstN
set_option linter.unusedVariables false
namespace Go.Proofs.YtejjdfmobiegdaaDoor
open Go.RowKit

def Trk.wen (X : Trk) (E : List Nat) : Trk := { X with en := E }
/-- One production's. -/
def gsT (X : Trk) (at_ : Nat) (E : List Nat) (p : Lay) : List Nat := E.set ((p.left - 100).toNat * 13 + at_) (E.getD ((p.left - 100).toNat * 13 + at_) 0 ||| rowT (X.wen E) p.right at_)
def growE (X : Trk) (at_ : Nat) (l : List Lay) (E : List Nat) : List Nat := l.foldl (gsT X at_) E
theorem gsT_len (X : Trk) (at_ : Nat) (E : List Nat) (p : Lay) : (gsT X at_ E p).length = E.length := by unfold gsT; rw [List.length_set]
theorem growE_len (X : Trk) (at_ : Nat) : ∀ (l : List Lay) (E : List Nat), (growE X at_ l E).length = E.length
  | [], _ => rfl
  | p :: l, E => (growE_len X at_ l _).trans (gsT_len X at_ E p)
theorem gsT_ext (X : Trk) (at_ : Nat) (E : List Nat) (p : Lay) : SubF E (gsT X at_ E p) := fun j => by
  unfold gsT
  rw [getD_set]
  split
  · rename_i h; rw [h.1]; exact sub_or_left _ _
  · exact Sub.refl _
theorem growE_ext (X : Trk) (at_ : Nat) : ∀ (l : List Lay) (E : List Nat), SubF E (growE X at_ l E)
  | [], E => SubF.refl E
  | p :: l, E => (gsT_ext X at_ E p).trans (growE_ext X at_ l _)
theorem TrkOk.wen {X : Trk} (h : TrkOk X) {E : List Nat} (hE : ∀ x ∈ E, x < 8192) : TrkOk (X.wen E) := ⟨h.st, h.sy, hE⟩
theorem set_lt {E : List Nat} {b : Nat} (h : ∀ x ∈ E, x < b) {j v : Nat} (hv : v < b) : ∀ x ∈ E.set j v, x < b := fun x hx => by
  rcases List.mem_or_eq_of_mem_set hx with h1 | h1
  · exact h x h1
  · rw [h1]; exact hv
theorem gsT_lt {X : Trk} (hk : TrkOk X) {at_ : Nat} (ha : at_ < 13) {E : List Nat} (hE : ∀ x ∈ E, x < 8192) (p : Lay) : ∀ x ∈ gsT X at_ E p, x < 8192 :=
  set_lt hE (Nat.or_lt_two_pow (n := 13) (getD_lt hE (by omega) _) (rowT_lt (hk.wen hE) _ _ ha))
theorem growE_lt {X : Trk} (hk : TrkOk X) {at_ : Nat} (ha : at_ < 13) : ∀ (l : List Lay) {E : List Nat}, (∀ x ∈ E, x < 8192) → ∀ x ∈ growE X at_ l E, x < 8192
  | [], E, h => h
  | p :: l, E, h => growE_lt hk ha l (gsT_lt hk ha h p)
structure GrowT (X : Trk) (at_ : Nat) (F : List Nat) (k : Nat) (gb : Bool) (E : List Nat) : Prop where
  e : E = growE X at_ (X.ls.take k) F
  g : gb = true ↔ E ≠ F
theorem GrowT.step {X : Trk} {at_ : Nat} {F : List Nat} {k : Nat} {gb : Bool} {E : List Nat} (h : GrowT X at_ F k gb E) {p : Lay} (hp : X.ls[k]? = some p) {i : Nat} (hi : (p.left - 100).toNat * 13 + at_ = i) (hil : i < E.length) {x : Nat} (hx : E.getD i 0 = x) (gb' : Bool) (hg : gb' = true ↔ (gb = true ∨ (x ||| rowT (X.wen E) p.right at_) ≠ x)) :
    GrowT X at_ F (k + 1) gb' (E.set i (x ||| rowT (X.wen E) p.right at_)) := by
  have e1 : E.set i (x ||| rowT (X.wen E) p.right at_) = gsT X at_ E p := by unfold gsT; rw [hi, hx]
  have hext : SubF F E := by rw [h.e]; exact growE_ext X at_ _ F
  have hE : E.length = F.length := by rw [h.e]; exact growE_len X at_ _ F
  have hstep : SubF E (E.set i (x ||| rowT (X.wen E) p.right at_)) := by rw [e1]; exact gsT_ext X at_ E p
  have hxx : E[i]? = some x := by rw [List.getD_eq_getElem?_getD, List.getElem?_eq_getElem hil] at hx; rw [List.getElem?_eq_getElem hil]; exact congrArg some hx
  refine ⟨?_, ?_⟩
  · rw [e1, h.e]; unfold growE; rw [List.take_add_one, hp]; simp
  · rw [hg, h.g]
    have hsame : (x ||| rowT (X.wen E) p.right at_) = x ↔ E.set i (x ||| rowT (X.wen E) p.right at_) = E := by
      constructor
      · intro e
        rw [e]
        exact List.ext_getElem? fun m => by
          rw [List.getElem?_set]
          split
          · rename_i hm; subst hm; first | rw [hxx] | rw [if_pos hil, hxx]
          · rfl
      · intro e
        have : (E.set i (x ||| rowT (X.wen E) p.right at_))[i]? = E[i]? := by rw [e]
        rw [List.getElem?_set, if_pos rfl, if_pos hil, hxx] at this
        exact Option.some.inj this
    constructor
    · rintro (h1 | h1)
      · intro e
        rw [e] at hstep
        exact h1 (SubF.anti hE hstep hext)
      · intro e
        rw [e] at hstep
        have := SubF.anti hE hstep hext
        exact h1 (hsame.2 (e.trans this.symm))
    · intro h1
      by_cases h2 : E = F
      · right
        intro h3
        exact h1 ((hsame.1 h3).trans h2)
      · exact .inl h2
theorem u16s_set (F : List Nat) (i v : Nat) : u16s (F.set i v) = (u16s F).set i (.int .u16 (v : Int)) := by unfold u16s; rw [List.map_set]
theorem trkL_set {X : Trk} {E : List Nat} (h9 : X.st.length = 9) {j : Nat} (v : Nat) : trkL (X.wen (E.set j v)) = (trkL (X.wen E)).set (13 + j) (.int .u16 (v : Int)) := by
  have key : ∀ hd : List Value, hd.length = 13 → hd ++ u16s (E.set j v) = (hd ++ u16s E).set (13 + j) (.int .u16 (v : Int)) := by
    intro hd hl
    rw [u16s_set, List.set_append_right _ _ (by rw [hl]; omega), hl, show 13 + j - 13 = j by omega]
  exact key _ (by simp [u16s, Trk.wen, h9])
/-- A track's block alone. -/
structure TrkQ (w : World) (B : Nat) (X : Trk) (E : List Nat) : Prop where
  q : w.heap[B]? = some (.cells (trkL (X.wen E)).toArray 81)
  s9 : X.st.length = 9
  e104 : E.length = 104
theorem TrkQ.at {w w0 : World} {B : Nat} {X : Trk} {E : List Nat} (h : TrkQ w B X E) (h0 : Below w0.heap.size w0 w) (hr : Cells w0 X.ap (lays X.ls)) (hrow : ∀ p ∈ X.ls, Cells w0 p.addr (nums p.right)) : TrkAt w B (X.wen E) :=
  ⟨h.q, hr.below h0, fun p hp => (hrow p hp).below h0, h.s9, h.e104⟩
theorem TrkQ.below {w w' : World} {B : Nat} {X : Trk} {E : List Nat} (h : TrkQ w B X E) (hb : Below w.heap.size w w') : TrkQ w' B X E := ⟨(hb.block _ (heap_lt h.q)).trans h.q, h.s9, h.e104⟩
theorem TrkQ.set {w : World} {B : Nat} {X : Trk} {E : List Nat} (h : TrkQ w B X E) {j : Nat} (v : Nat) (hj : j < 104) : TrkQ (w.setCell ⟨B, 13 + j, none⟩ (.int .u16 (v : Int))) B X (E.set j v) := by
  refine ⟨?_, h.s9, by rw [List.length_set]; exact h.e104⟩
  rw [heap_set w B (13 + j) _ _ _ h.q (by
    show 13 + j < (trkL (X.wen E)).toArray.size
    simp [trkL, Trk.wen, u16s, h.s9, h.e104]; omega)]
  simp only [Array.set!_eq_setIfInBounds]
  rw [trkL_set h.s9, List.setIfInBounds_toArray]
theorem TrkQ.en {w : World} {B : Nat} {X : Trk} {E : List Nat} (h : TrkQ w B X E) {j : Nat} (hj : j < 104) : w.cell? ⟨B, 13 + j, none⟩ = some (.int .u16 ((E.getD j 0 : Nat) : Int)) :=
  (blk_cell (w := w) (i := 13 + j) (u := .int .u16 ((E.getD j 0 : Nat) : Int)) h.q (by rw [List.getElem?_toArray]; exact trk_en (X := X.wen E) h.s9 h.e104 hj)).1
theorem TrkQ.fz {w : World} {B : Nat} {X : Trk} {E : List Nat} (h : TrkQ w B X E) {j : Nat} (hj : j < 104) : w.frozen? ⟨B, 13 + j, none⟩ = false :=
  (blk_cell (w := w) (i := 13 + j) (u := .int .u16 ((E.getD j 0 : Nat) : Int)) h.q (by rw [List.getElem?_toArray]; exact trk_en (X := X.wen E) h.s9 h.e104 hj)).2
theorem TrkQ.pr {w : World} {B : Nat} {X : Trk} {E : List Nat} (h : TrkQ w B X E) : w.cell? ⟨B, 0, none⟩ = some (.slice X.ap X.ls.length X.cp) := (blk_cell (i := 0) (u := .slice X.ap X.ls.length X.cp) h.q rfl).1
/-- The productions of a track are as they should be. -/
def LaysOk (X : Trk) : Prop := ∀ p ∈ X.ls, (100 ≤ p.left ∧ p.left < 108) ∧ (∀ s ∈ p.right, (1 ≤ s ∧ s < 9) ∨ (100 ≤ s ∧ s < 108)) ∧ p.right.length ≤ 1000000

set_option maxRecDepth 100000 in
set_option maxHeartbeats 8000000 in
theorem tgrow_any (B : Nat) (X : Trk) (at_ : Nat) (F : List Nat) (w0 w : World) (h0 : Below w0.heap.size w0 w) (hB : w0.heap.size ≤ B) (h : TrkQ w B X F) (hok : TrkOk X) (hF : ∀ x ∈ F, x < 8192) (hr : Cells w0 X.ap (lays X.ls)) (hrow : ∀ p ∈ X.ls, Cells w0 p.addr (nums p.right)) (hp : LaysOk X) (ha : at_ < 13) (hls : X.ls.length ≤ 1000000) (hT : Tab32 w0) :
    Calls Tryd.prog 110 #[.pointer (some ⟨B, 0, none⟩), .int .i64 at_] w fun e w' =>
      e = .returned (.bool (decide (growE X at_ X.ls F ≠ F))) ∧ TrkQ w' B X (growE X at_ X.ls F) ∧ Below w0.heap.size w0 w' := by
  have H0 := Lib.hid h0
  have H := Lib.hid h
  have H3 := Lib.hid hr
  have H4 := Lib.hid hrow
  have HP := Lib.hid hp
  have HF := Lib.hid hF
  have HOK := Lib.hid hok
  have HB := Lib.hid hB
  have HT := Lib.hid hT
  have x0 := h.pr
  have l0 := heap_lt h.q
  clear h0 h hr hrow hp hF hok hB hT
  go_enter Tryd.func110, Tryd.ntmps110
  go_wp2
  clear x0 l0
  go_loopw [5, 15] (fun g i wr => ∃ (k : Nat) (gb : Bool) (E : List Nat), k ≤ X.ls.length ∧ i = .int .i64 k ∧ g = .bool gb ∧ Hid (GrowT X at_ F k gb E) ∧ Hid (TrkQ wr B X E) ∧ Hid (Below w0.heap.size w0 wr)) (fun _ i _ => X.ls.length - (intOf i).toNat)
  case atStart => exact ⟨0, false, F, by omega, rfl, rfl, Lib.hid ⟨rfl, by simp⟩, H, H0⟩
  case round =>
    obtain ⟨k, gb, E, hk, rfl, rfl, HG, HTA, HBE⟩ := hrel
    by_cases hlt : k < X.ls.length
    · obtain ⟨p, hp⟩ : ∃ p, X.ls[k]? = some p := ⟨_, List.getElem?_eq_getElem hlt⟩
      have hpm := List.mem_of_getElem? hp
      have hElow : ∀ x ∈ E, x < 8192 := by rw [HG.out.e]; exact growE_lt HOK.out ha _ HF.out
      obtain ⟨pl, pr, pa, pc⟩ := p
      obtain ⟨⟨hp1, hp2⟩, hp3, hp4⟩ := HP.out _ hpm
      simp only at hp1 hp2 hp3 hp4
      obtain ⟨i, hi⟩ := Int.eq_ofNat_of_zero_le (show 0 ≤ pl - 100 by omega)
      have hi8 : i < 8 := by omega
      have hi8' : (i : Int) < 8 := by omega
      obtain ⟨b3, o3, hap, hb3, hc3⟩ := (H3.out.below HBE.out).get (by intro e; have := (lays_at X.ls k _ hp).1; rw [e] at this; simp at this)
      have x1 := hc3 _ _ (lays_at X.ls k _ hp).1
      have x2 := hc3 _ _ (lays_at X.ls k _ hp).2
      rw [← Nat.add_assoc] at x2
      simp only at x1 x2
      have e1 : (k : Int) < X.ls.length := by omega
      have hil : i * 13 + at_ < E.length := by rw [HTA.out.e104]; omega
      have hxl : E.getD (i * 13 + at_) 0 < 8192 := getD_lt hElow (by omega) _
      have hol : rowT (X.wen E) pr at_ < 8192 := rowT_lt (HOK.out.wen hElow) pr at_ ha
      have hbA : Below wr.heap.size wr (wr.alloc (.cells #[.int .i64 pl, .slice pa pr.length pc] 68)) := (Below.refl _ _).alloc (Nat.le_refl _) _
      have qA := heap_alloc_new wr (.cells #[.int .i64 pl, .slice pa pr.length pc] 68)
      have HOFC := Lib.hid fun (W : World) (hW : Below wr.heap.size wr W) => trow_any B (X.wen E) pa pc at_ pr W ((HTA.out.below hW).at (HBE.out.trans (hW.mono HBE.out.size)) H3.out H4.out) (HOK.out.wen hElow) (((H4.out _ hpm).below HBE.out).below hW) hp3 hp4 ha (HT.out.below (HBE.out.trans (hW.mono HBE.out.size)))
      have HST := Lib.hid fun gb' hg => HG.out.step (p := ⟨pl, pr, pa, pc⟩) hp (i := i * 13 + at_) (by simp only; rw [hi, Int.toNat_natCast]) hil rfl gb' hg
      simp only at HST
      have hj104 : i * 13 + at_ < 104 := by omega
      have HJ := Lib.hid hj104
      have ha' : (at_ : Int) < 13 := by omega
      have HQ := Lib.hid qA
      have HBA := Lib.hid hbA
      have hsz := hbA.size
      have y2 := heap_lt HTA.out.q
      clear hp hpm hc3 qA hElow hp3 hbA hil hj104
      rw [hap] at *
      go_upto_region 5 with fail
      have HBW := Lib.hid (HBE.out.trans (HBA.out.mono HBE.out.size))
      have HTA2 := Lib.hid (HTA.out.below HBA.out)
      have z0 := (blk_cell (i := 0) (u := .int .i64 pl) HQ.out rfl).1
      have z1 := (blk_cell (i := 1) (u := .slice pa pr.length pc) HQ.out rfl).1
      have z2 := heap_lt HQ.out
      have v2 := heap_lt HTA2.out.q
      have v1 := HTA2.out.en HJ.out
      rw [← Nat.add_assoc] at v1
      have HOFD := Lib.hid fun (W : World) (hW : Below (wr.alloc (.cells #[.int .i64 pl, .slice pa pr.length pc] 68)).heap.size (wr.alloc (.cells #[.int .i64 pl, .slice pa pr.length pc] 68)) W) => HOFC.out W (HBA.out.trans (hW.mono HBA.out.size))
      clear HOFC HBA y2 hsz
      generalize hSeq : wr.alloc (.cells #[.int .i64 pl, .slice pa pr.length pc] 68) = S at *
      clear hSeq
      generalize hPB : wr.heap.size = PB at *
      clear hPB
      generalize E.getD (i * 13 + at_) 0 = x at *
      generalize rowT (X.wen E) pr at_ = R at *
      have hor := u16_or_nat x R (by omega) (by omega)
      go_quiet (fail)
      go_upto_region 7 with (go_at_call 136; refine (HOFD.out _ (below_drews (Below.refl _ _) nq)).mono ?_; rintro e w4 ⟨rfl, nr, hw4⟩)
      have v4 : (S.drewN (nq + nr)).cell? ⟨B, 13 + i * 13 + at_, none⟩ = some (.int .u16 (x : Int)) := v1
      have hTS := (HTA2.out.below (below_drews (Below.refl _ _) (nq + nr))).set (x ||| R) HJ.out
      have hBS := (HBW.out.trans (below_drews (Below.refl _ _) (nq + nr))).setCell (p := ⟨B, 13 + (i * 13 + at_), none⟩) HB.out (.int .u16 ((x ||| R : Nat) : Int))
      have v5 := HTA2.out.fz HJ.out
      rw [← Nat.add_assoc] at hTS hBS v5
      have HTF := Lib.hid hTS
      have HBF := Lib.hid hBS
      clear hTS hBS
      by_cases hnw : (x ||| R) = x
      · have hnb : (((x ||| R : Nat) : Int) != (x : Int)) = false := by rw [hnw]; simp
        have HN := Lib.hid (HST.out gb (by constructor <;> intro h <;> first | exact .inl h | (rcases h with h | h; exact h; exact absurd hnw h)))
        clear hnw HST
        cases gb
        all_goals
          go_region
          all_goals
            go_wp2
            go_roundw
            case rel => exact ⟨k + 1, _, _, by omega, by go_num, by rfl, HN, Lib.hid ⟨HTF.out.q, HTF.out.s9, HTF.out.e104⟩, Lib.hid HBF.out.drew⟩
            case measure => simp [intOf]; omega
      · have hnb : (((x ||| R : Nat) : Int) != (x : Int)) = true := by
          have : ((x ||| R : Nat) : Int) ≠ (x : Int) := by omega
          simpa using this
        have HN := Lib.hid (HST.out true (by simp [hnw]))
        clear hnw HST
        cases gb
        all_goals
          go_region
          all_goals
            go_wp2
            go_roundw
            case rel => exact ⟨k + 1, _, _, by omega, by go_num, by rfl, HN, Lib.hid ⟨HTF.out.q, HTF.out.s9, HTF.out.e104⟩, Lib.hid HBF.out.drew⟩
            case measure => simp [intOf]; omega
    · have e1 : ¬ (k : Int) < X.ls.length := by omega
      have hfin : E = growE X at_ X.ls F := by rw [HG.out.e, List.take_of_length_le (by omega)]
      have hgb : gb = decide (growE X at_ X.ls F ≠ F) := by rw [← hfin, Bool.eq_iff_iff, decide_eq_true_eq]; exact HG.out.g
      have HFIN := Lib.hid hfin
      have HGB := Lib.hid hgb
      clear hfin hgb
      go_wp2
      go_ret
      exact ⟨ret_bool (HGB.out.trans (by simp)), HFIN.out ▸ HTA.out, HBE.out⟩
end Go.Proofs.YtejjdfmobiegdaaDoor

set_option linter.unusedVariables false
namespace Go.Proofs.YtejjdfmobiegdaaDoor
open Go.RowKit

/-- A place's column, the first n nonterminals', cleared. -/
def zeroN (at_ : Nat) : Nat → List Nat → List Nat
  | 0, F => F
  | n + 1, F => (zeroN at_ n F).set (n * 13 + at_) 0
theorem zeroN_len (at_ : Nat) : ∀ n F, (zeroN at_ n F).length = F.length
  | 0, _ => rfl
  | n + 1, F => by unfold zeroN; rw [List.length_set, zeroN_len]
theorem zeroN_lt (at_ : Nat) {F : List Nat} (h : ∀ x ∈ F, x < 8192) : ∀ n, ∀ x ∈ zeroN at_ n F, x < 8192
  | 0 => h
  | n + 1 => set_lt (zeroN_lt at_ h n) (by omega)
/-- One place's column, settled. -/
def ColOf (X : Trk) (at_ : Nat) (F E : List Nat) : Prop := ∃ n, E = iterL (growE X at_ X.ls) (zeroN at_ 8 F) n ∧ growE X at_ X.ls E = E
/-- The columns of the places below m, settled, from the last on. -/
def SetT (X : Trk) : Nat → List Nat → List Nat → Prop
  | 0, F, E => E = F
  | m + 1, F, E => ∃ G, ColOf X m F G ∧ SetT X m G E
theorem iterE_len (X : Trk) (at_ : Nat) (F : List Nat) : ∀ n, (iterL (growE X at_ X.ls) F n).length = F.length
  | 0 => rfl
  | n + 1 => (growE_len X at_ _ _).trans (iterE_len X at_ F n)
theorem iterE_lt {X : Trk} (hk : TrkOk X) {at_ : Nat} (ha : at_ < 13) {F : List Nat} (h : ∀ x ∈ F, x < 8192) : ∀ n, ∀ x ∈ iterL (growE X at_ X.ls) F n, x < 8192
  | 0 => h
  | n + 1 => growE_lt hk ha _ (iterE_lt hk ha h n)
def massX (X : Trk) : Nat := X.terms + X.last + X.st.sum + X.stays
theorem sum_u16s (l : List Nat) : ((u16s l).map valNat).sum = l.sum := by
  unfold u16s
  rw [List.map_map]
  congr 1
  conv => rhs; rw [← List.map_id l]
  exact List.map_congr_left fun x _ => by simp [valNat]
theorem mass_trk {w : World} {B : Nat} {X : Trk} {E : List Nat} (h : TrkQ w B X E) : massW B w = massX X + E.sum := by
  unfold massW
  rw [h.q]
  simp only [trkL, Trk.wen, List.map_append, List.sum_append, sum_u16s, massX]
  simp [valNat]
theorem sum_top13 : ∀ {F : List Nat}, (∀ x ∈ F, x < 8192) → F.sum ≤ F.length * 8192
  | [], _ => by simp
  | a :: F, h => by
    have h0 := h a List.mem_cons_self
    have h1 := sum_top13 (F := F) (fun x hx => h x (List.mem_cons_of_mem _ hx))
    simp only [List.sum_cons, List.length_cons]; omega

set_option maxRecDepth 100000 in
set_option maxHeartbeats 8000000 in
theorem settle_any (B : Nat) (X : Trk) (frm : Nat) (F : List Nat) (w0 w : World) (h0 : Below w0.heap.size w0 w) (hB : w0.heap.size ≤ B) (h : TrkQ w B X F) (hok : TrkOk X) (hF : ∀ x ∈ F, x < 8192) (hr : Cells w0 X.ap (lays X.ls)) (hrow : ∀ p ∈ X.ls, Cells w0 p.addr (nums p.right)) (hp : LaysOk X) (ha : frm < 13) (hls : X.ls.length ≤ 1000000) (hT : Tab32 w0) :
    Calls Tryd.prog 83 #[.pointer (some ⟨B, 0, none⟩), .int .i64 frm] w fun e w' =>
      e = .returned (.tuple #[]) ∧ Below w0.heap.size w0 w' ∧ ∃ E, TrkQ w' B X E ∧ SetT X (frm + 1) F E ∧ ∀ x ∈ E, x < 8192 := by
  have H0 := Lib.hid h0
  have H := Lib.hid h
  have H3 := Lib.hid hr
  have H4 := Lib.hid hrow
  have HP := Lib.hid hp
  have HF := Lib.hid hF
  have HOK := Lib.hid hok
  have HB := Lib.hid hB
  have HT := Lib.hid hT
  clear h0 h hr hrow hp hF hok hB hT
  go_enter Tryd.func83, Tryd.ntmps83
  go_wp2
  go_loopw [4] (fun v wr => ∃ (m : Nat) (E : List Nat), m ≤ frm + 1 ∧ v = .int .i64 ((m : Int) - 1) ∧ Hid (TrkQ wr B X E) ∧ Hid (Below w0.heap.size w0 wr) ∧ Hid (∀ x ∈ E, x < 8192) ∧ Hid (∀ E', SetT X m E E' → SetT X (frm + 1) F E')) (fun v _ => (intOf v + 1).toNat)
  case atStart => exact ⟨frm + 1, F, by omega, by go_num, H, H0, HF, Lib.hid fun _ h => h⟩
  case round =>
    obtain ⟨m, E, hm, rfl, HQ, HBW, HE, HS⟩ := hrel
    cases m with
    | zero =>
      have HFIN := Lib.hid (HS.out E rfl)
      rw [show ((0 : Nat) : Int) - 1 = -1 by omega]
      go_wp2
      go_end0
      exact ⟨rfl, HBW.out, E, HQ.out, HFIN.out, HE.out⟩
    | succ m =>
      rw [show ((m + 1 : Nat) : Int) - 1 = (m : Int) by omega]
      have hm13 : m < 13 := by omega
      have hm13' : (m : Int) < 13 := by omega
      go_wp2_with fail
      go_loopw [11] (fun i wr => ∃ k : Nat, k ≤ 8 ∧ i = .int .i64 k ∧ Hid (TrkQ wr B X (zeroN m k E)) ∧ Hid (Below w0.heap.size w0 wr)) (fun i _ => 8 - (intOf i).toNat)
      case atStart => exact ⟨0, by omega, rfl, HQ, HBW⟩
      case round =>
        clear HQ HBW
        obtain ⟨k, hk, rfl, HQ, HBW⟩ := hrel
        by_cases hk8 : k < 8
        · have hj : k * 13 + m < 104 := by omega
          have v1 := HQ.out.en hj
          have v5 := HQ.out.fz hj
          have v2 := heap_lt HQ.out.q
          have hTS := HQ.out.set 0 hj
          have hBS := HBW.out.setCell (p := ⟨B, 13 + (k * 13 + m), none⟩) HB.out (.int .u16 ((0 : Nat) : Int))
          rw [← Nat.add_assoc] at hTS hBS v5 v1
          have HTF := Lib.hid hTS
          have HBF := Lib.hid hBS
          have hk8' : (k : Int) < 8 := by omega
          clear hTS hBS
          go_wp2
          go_roundw
          case rel => exact ⟨k + 1, by omega, by go_num, Lib.hid ⟨HTF.out.q, HTF.out.s9, HTF.out.e104⟩, HBF⟩
          case measure => simp [intOf]; omega
        · have hk8e : k = 8 := by omega
          subst hk8e
          have hE8 := zeroN_lt m HE.out 8
          have hgl8 : (zeroN m 8 E).length = 104 := HQ.out.e104
          go_wp2_with fail
          go_loopw [24] (fun _ wr => ∃ n, Hid (TrkQ wr B X (iterL (growE X m X.ls) (zeroN m 8 E) n)) ∧ Hid (Below w0.heap.size w0 wr)) (fun _ wr => massX X + 104 * 8192 - massW B wr)
          case atStart => exact ⟨0, HQ, HBW⟩
          case round =>
            clear HQ HBW
            obtain ⟨n, HQ, HBW⟩ := hrel
            have hms := mass_trk HQ.out
            have hL := iterE_lt HOK.out hm13 hE8 n
            have hL1 := iterE_lt HOK.out hm13 hE8 (n + 1)
            have hext := growE_ext X m X.ls (iterL (growE X m X.ls) (zeroN m 8 E) n)
            have hlen := growE_len X m X.ls (iterL (growE X m X.ls) (zeroN m 8 E) n)
            have HNX : Hid (growE X m X.ls (iterL (growE X m X.ls) (zeroN m 8 E) n) = iterL (growE X m X.ls) (zeroN m 8 E) (n + 1)) := Lib.hid rfl
            have hst := sum_top13 hL1
            have hln1 : (iterL (growE X m X.ls) (zeroN m 8 E) (n + 1)).length = 104 := (iterE_len X m _ _).trans hgl8
            rw [hln1] at hst
            generalize iterL (growE X m X.ls) (zeroN m 8 E) (n + 1) = F' at *
            generalize hFm : iterL (growE X m X.ls) (zeroN m 8 E) n = Fn at *
            have HFM := Lib.hid hFm
            clear hFm
            have HGR := Lib.hid (tgrow_any B X m Fn w0 wr HBW.out HB.out HQ.out HOK.out hL H3.out H4.out HP.out hm13 hls HT.out)
            by_cases hfx : growE X m X.ls Fn = Fn
            · rw [decide_eq_false (show ¬ (growE X m X.ls Fn ≠ Fn) from fun h => h hfx)] at HGR
              have HFX := Lib.hid hfx
              have HLL := Lib.hid hL
              clear hfx hext hlen hL hL1 hst hms
              go_wp2_with (go_at_call 110; refine HGR.out.mono ?_; rintro e w4 ⟨rfl, hT4, hb4⟩)
              have HT4 := Lib.hid hT4
              have HB4 := Lib.hid hb4
              clear hT4 hb4
              go_roundw
              case rel => exact ⟨m, Fn, by omega, by go_num, Lib.hid (by have := HT4.out; rwa [HFX.out] at this), HB4, HLL, Lib.hid fun E' h => HS.out E' ⟨Fn, ⟨n, HFM.out.symm, HFX.out⟩, h⟩⟩
              case measure => simp [intOf]
            · rw [decide_eq_true (show growE X m X.ls Fn ≠ Fn from hfx)] at HGR
              have hlt := sum_lt hlen.symm hext (fun e => hfx e.symm)
              rw [HNX.out] at hlt
              clear hfx hext hlen hL hL1
              go_wp2_with (go_at_call 110; refine HGR.out.mono ?_; rintro e w4 ⟨rfl, hT4, hb4⟩)
              have hms4 := mass_trk hT4
              rw [HNX.out] at hT4 hms4
              have HT4 := Lib.hid hT4
              have HB4 := Lib.hid hb4
              clear hT4 hb4
              refine ⟨⟨_, _, _, ⟨n + 1, Lib.hid (by have h : iterL (growE X m X.ls) (zeroN m 8 E) (n + 1) = growE X m X.ls Fn := congrArg _ HFM.out; rw [h, HNX.out]; exact HT4.out), HB4⟩, rfl⟩, ?_⟩
              rw [hms4, hms]
              omega
end Go.Proofs.YtejjdfmobiegdaaDoor

set_option linter.unusedVariables false
namespace Go.Proofs.YtejjdfmobiegdaaDoor
open Go.RowKit

/-- But for one block all is as it was. -/
structure KeptB (B : Nat) (w w' : World) : Prop where
  size : w.heap.size ≤ w'.heap.size
  block : ∀ k, k < w.heap.size → k ≠ B → w'.heap[k]? = w.heap[k]?
theorem KeptB.refl (B : Nat) (w : World) : KeptB B w w := ⟨Nat.le_refl _, fun _ _ _ => rfl⟩
theorem KeptB.trans {B : Nat} {a b c : World} (h : KeptB B a b) (k : KeptB B b c) : KeptB B a c := ⟨Nat.le_trans h.size k.size, fun i hi hB => (k.block i (Nat.lt_of_lt_of_le hi h.size) hB).trans (h.block i hi hB)⟩
theorem KeptB.alloc {B : Nat} {a w : World} (h : KeptB B a w) (o : Obj) : KeptB B a (w.alloc o) := h.trans ⟨by simp, fun k hk _ => Below.heap_alloc _ _ _ hk⟩
theorem KeptB.setCell {B : Nat} {a w : World} (h : KeptB B a w) {p : Addr} (hp : p.block = B) (u : Value) : KeptB B a (w.setCell p u) := h.trans ⟨by simp [World.setCell], fun k hk hB => Below.heap_setCell _ _ _ _ (by rw [hp]; exact hB)⟩
theorem KeptB.drew {B : Nat} {a w : World} (h : KeptB B a w) : KeptB B a w.drew := ⟨h.size, h.block⟩
theorem KeptB.drewN {B : Nat} {a w : World} (h : KeptB B a w) (n : Nat) : KeptB B a (w.drewN n) := ⟨h.size, h.block⟩

set_option maxRecDepth 100000 in
set_option maxHeartbeats 8000000 in
theorem tgrow_anyK (B : Nat) (X : Trk) (at_ : Nat) (F : List Nat) (w0 w : World) (h0 : Below w0.heap.size w0 w) (hB : w0.heap.size ≤ B) (h : TrkQ w B X F) (hok : TrkOk X) (hF : ∀ x ∈ F, x < 8192) (hr : Cells w0 X.ap (lays X.ls)) (hrow : ∀ p ∈ X.ls, Cells w0 p.addr (nums p.right)) (hp : LaysOk X) (ha : at_ < 13) (hls : X.ls.length ≤ 1000000) (hT : Tab32 w0) :
    Calls Tryd.prog 110 #[.pointer (some ⟨B, 0, none⟩), .int .i64 at_] w fun e w' =>
      e = .returned (.bool (decide (growE X at_ X.ls F ≠ F))) ∧ TrkQ w' B X (growE X at_ X.ls F) ∧ Below w0.heap.size w0 w' ∧ KeptB B w w' := by
  have H0 := Lib.hid h0
  have H := Lib.hid h
  have H3 := Lib.hid hr
  have H4 := Lib.hid hrow
  have HP := Lib.hid hp
  have HF := Lib.hid hF
  have HOK := Lib.hid hok
  have HB := Lib.hid hB
  have HT := Lib.hid hT
  have x0 := h.pr
  have l0 := heap_lt h.q
  clear h0 h hr hrow hp hF hok hB hT
  go_enter Tryd.func110, Tryd.ntmps110
  go_wp2
  clear x0 l0
  go_loopw [5, 15] (fun g i wr => ∃ (k : Nat) (gb : Bool) (E : List Nat), k ≤ X.ls.length ∧ i = .int .i64 k ∧ g = .bool gb ∧ Hid (GrowT X at_ F k gb E) ∧ Hid (TrkQ wr B X E) ∧ Hid (Below w0.heap.size w0 wr) ∧ Hid (KeptB B w wr)) (fun _ i _ => X.ls.length - (intOf i).toNat)
  case atStart => exact ⟨0, false, F, by omega, rfl, rfl, Lib.hid ⟨rfl, by simp⟩, H, H0, Lib.hid (KeptB.refl B w)⟩
  case round =>
    obtain ⟨k, gb, E, hk, rfl, rfl, HG, HTA, HBE, HKB⟩ := hrel
    by_cases hlt : k < X.ls.length
    · obtain ⟨p, hp⟩ : ∃ p, X.ls[k]? = some p := ⟨_, List.getElem?_eq_getElem hlt⟩
      have hpm := List.mem_of_getElem? hp
      have hElow : ∀ x ∈ E, x < 8192 := by rw [HG.out.e]; exact growE_lt HOK.out ha _ HF.out
      obtain ⟨pl, pr, pa, pc⟩ := p
      obtain ⟨⟨hp1, hp2⟩, hp3, hp4⟩ := HP.out _ hpm
      simp only at hp1 hp2 hp3 hp4
      obtain ⟨i, hi⟩ := Int.eq_ofNat_of_zero_le (show 0 ≤ pl - 100 by omega)
      have hi8 : i < 8 := by omega
      have hi8' : (i : Int) < 8 := by omega
      obtain ⟨b3, o3, hap, hb3, hc3⟩ := (H3.out.below HBE.out).get (by intro e; have := (lays_at X.ls k _ hp).1; rw [e] at this; simp at this)
      have x1 := hc3 _ _ (lays_at X.ls k _ hp).1
      have x2 := hc3 _ _ (lays_at X.ls k _ hp).2
      rw [← Nat.add_assoc] at x2
      simp only at x1 x2
      have e1 : (k : Int) < X.ls.length := by omega
      have hil : i * 13 + at_ < E.length := by rw [HTA.out.e104]; omega
      have hxl : E.getD (i * 13 + at_) 0 < 8192 := getD_lt hElow (by omega) _
      have hol : rowT (X.wen E) pr at_ < 8192 := rowT_lt (HOK.out.wen hElow) pr at_ ha
      have hbA : Below wr.heap.size wr (wr.alloc (.cells #[.int .i64 pl, .slice pa pr.length pc] 68)) := (Below.refl _ _).alloc (Nat.le_refl _) _
      have qA := heap_alloc_new wr (.cells #[.int .i64 pl, .slice pa pr.length pc] 68)
      have HOFC := Lib.hid fun (W : World) (hW : Below wr.heap.size wr W) => trow_any B (X.wen E) pa pc at_ pr W ((HTA.out.below hW).at (HBE.out.trans (hW.mono HBE.out.size)) H3.out H4.out) (HOK.out.wen hElow) (((H4.out _ hpm).below HBE.out).below hW) hp3 hp4 ha (HT.out.below (HBE.out.trans (hW.mono HBE.out.size)))
      have HST := Lib.hid fun gb' hg => HG.out.step (p := ⟨pl, pr, pa, pc⟩) hp (i := i * 13 + at_) (by simp only; rw [hi, Int.toNat_natCast]) hil rfl gb' hg
      simp only at HST
      have hj104 : i * 13 + at_ < 104 := by omega
      have HJ := Lib.hid hj104
      have ha' : (at_ : Int) < 13 := by omega
      have HQ := Lib.hid qA
      have HBA := Lib.hid hbA
      have HKS := Lib.hid (HKB.out.alloc (.cells #[.int .i64 pl, .slice pa pr.length pc] 68))
      clear HKB
      have hsz := hbA.size
      have y2 := heap_lt HTA.out.q
      clear hp hpm hc3 qA hElow hp3 hbA hil hj104
      rw [hap] at *
      go_upto_region 5 with fail
      have HBW := Lib.hid (HBE.out.trans (HBA.out.mono HBE.out.size))
      have HTA2 := Lib.hid (HTA.out.below HBA.out)
      have z0 := (blk_cell (i := 0) (u := .int .i64 pl) HQ.out rfl).1
      have z1 := (blk_cell (i := 1) (u := .slice pa pr.length pc) HQ.out rfl).1
      have z2 := heap_lt HQ.out
      have v2 := heap_lt HTA2.out.q
      have v1 := HTA2.out.en HJ.out
      rw [← Nat.add_assoc] at v1
      have HOFD := Lib.hid fun (W : World) (hW : Below (wr.alloc (.cells #[.int .i64 pl, .slice pa pr.length pc] 68)).heap.size (wr.alloc (.cells #[.int .i64 pl, .slice pa pr.length pc] 68)) W) => HOFC.out W (HBA.out.trans (hW.mono HBA.out.size))
      clear HOFC HBA y2 hsz
      generalize hSeq : wr.alloc (.cells #[.int .i64 pl, .slice pa pr.length pc] 68) = S at *
      clear hSeq
      generalize hPB : wr.heap.size = PB at *
      clear hPB
      generalize E.getD (i * 13 + at_) 0 = x at *
      generalize rowT (X.wen E) pr at_ = R at *
      have hor := u16_or_nat x R (by omega) (by omega)
      go_quiet (fail)
      go_upto_region 7 with (go_at_call 136; refine (HOFD.out _ (below_drews (Below.refl _ _) nq)).mono ?_; rintro e w4 ⟨rfl, nr, hw4⟩)
      have v4 : (S.drewN (nq + nr)).cell? ⟨B, 13 + i * 13 + at_, none⟩ = some (.int .u16 (x : Int)) := v1
      have hTS := (HTA2.out.below (below_drews (Below.refl _ _) (nq + nr))).set (x ||| R) HJ.out
      have hBS := (HBW.out.trans (below_drews (Below.refl _ _) (nq + nr))).setCell (p := ⟨B, 13 + (i * 13 + at_), none⟩) HB.out (.int .u16 ((x ||| R : Nat) : Int))
      have v5 := HTA2.out.fz HJ.out
      rw [← Nat.add_assoc] at hTS hBS v5
      have HTF := Lib.hid hTS
      have HBF := Lib.hid hBS
      have HKF := Lib.hid ((HKS.out.drewN (nq + nr)).setCell (p := ⟨B, 13 + i * 13 + at_, none⟩) rfl (.int .u16 ((x ||| R : Nat) : Int)))
      clear hTS hBS
      by_cases hnw : (x ||| R) = x
      · have hnb : (((x ||| R : Nat) : Int) != (x : Int)) = false := by rw [hnw]; simp
        have HN := Lib.hid (HST.out gb (by constructor <;> intro h <;> first | exact .inl h | (rcases h with h | h; exact h; exact absurd hnw h)))
        clear hnw HST
        cases gb
        all_goals
          go_region
          all_goals
            go_wp2
            go_roundw
            case rel => exact ⟨k + 1, _, _, by omega, by go_num, by rfl, HN, Lib.hid ⟨HTF.out.q, HTF.out.s9, HTF.out.e104⟩, Lib.hid HBF.out.drew, Lib.hid HKF.out.drew⟩
            case measure => simp [intOf]; omega
      · have hnb : (((x ||| R : Nat) : Int) != (x : Int)) = true := by
          have : ((x ||| R : Nat) : Int) ≠ (x : Int) := by omega
          simpa using this
        have HN := Lib.hid (HST.out true (by simp [hnw]))
        clear hnw HST
        cases gb
        all_goals
          go_region
          all_goals
            go_wp2
            go_roundw
            case rel => exact ⟨k + 1, _, _, by omega, by go_num, by rfl, HN, Lib.hid ⟨HTF.out.q, HTF.out.s9, HTF.out.e104⟩, Lib.hid HBF.out.drew, Lib.hid HKF.out.drew⟩
            case measure => simp [intOf]; omega
    · have e1 : ¬ (k : Int) < X.ls.length := by omega
      have hfin : E = growE X at_ X.ls F := by rw [HG.out.e, List.take_of_length_le (by omega)]
      have hgb : gb = decide (growE X at_ X.ls F ≠ F) := by rw [← hfin, Bool.eq_iff_iff, decide_eq_true_eq]; exact HG.out.g
      have HFIN := Lib.hid hfin
      have HGB := Lib.hid hgb
      clear hfin hgb
      go_wp2
      go_ret
      exact ⟨ret_bool (HGB.out.trans (by simp)), HFIN.out ▸ HTA.out, HBE.out, HKB.out⟩

set_option maxRecDepth 100000 in
set_option maxHeartbeats 8000000 in
theorem settle_anyK (B : Nat) (X : Trk) (frm : Nat) (F : List Nat) (w0 w : World) (h0 : Below w0.heap.size w0 w) (hB : w0.heap.size ≤ B) (h : TrkQ w B X F) (hok : TrkOk X) (hF : ∀ x ∈ F, x < 8192) (hr : Cells w0 X.ap (lays X.ls)) (hrow : ∀ p ∈ X.ls, Cells w0 p.addr (nums p.right)) (hp : LaysOk X) (ha : frm < 13) (hls : X.ls.length ≤ 1000000) (hT : Tab32 w0) :
    Calls Tryd.prog 83 #[.pointer (some ⟨B, 0, none⟩), .int .i64 frm] w fun e w' =>
      e = .returned (.tuple #[]) ∧ Below w0.heap.size w0 w' ∧ KeptB B w w' ∧ ∃ E, TrkQ w' B X E ∧ SetT X (frm + 1) F E ∧ ∀ x ∈ E, x < 8192 := by
  have H0 := Lib.hid h0
  have H := Lib.hid h
  have H3 := Lib.hid hr
  have H4 := Lib.hid hrow
  have HP := Lib.hid hp
  have HF := Lib.hid hF
  have HOK := Lib.hid hok
  have HB := Lib.hid hB
  have HT := Lib.hid hT
  clear h0 h hr hrow hp hF hok hB hT
  go_enter Tryd.func83, Tryd.ntmps83
  go_wp2
  go_loopw [4] (fun v wr => ∃ (m : Nat) (E : List Nat), m ≤ frm + 1 ∧ v = .int .i64 ((m : Int) - 1) ∧ Hid (TrkQ wr B X E) ∧ Hid (Below w0.heap.size w0 wr) ∧ Hid (KeptB B w wr) ∧ Hid (∀ x ∈ E, x < 8192) ∧ Hid (∀ E', SetT X m E E' → SetT X (frm + 1) F E')) (fun v _ => (intOf v + 1).toNat)
  case atStart => exact ⟨frm + 1, F, by omega, by go_num, H, H0, Lib.hid (KeptB.refl B w), HF, Lib.hid fun _ h => h⟩
  case round =>
    obtain ⟨m, E, hm, rfl, HQ, HBW, HKB, HE, HS⟩ := hrel
    cases m with
    | zero =>
      have HFIN := Lib.hid (HS.out E rfl)
      rw [show ((0 : Nat) : Int) - 1 = -1 by omega]
      go_wp2
      go_end0
      exact ⟨rfl, HBW.out, HKB.out, E, HQ.out, HFIN.out, HE.out⟩
    | succ m =>
      rw [show ((m + 1 : Nat) : Int) - 1 = (m : Int) by omega]
      have hm13 : m < 13 := by omega
      have hm13' : (m : Int) < 13 := by omega
      go_wp2_with fail
      go_loopw [11] (fun i wr => ∃ k : Nat, k ≤ 8 ∧ i = .int .i64 k ∧ Hid (TrkQ wr B X (zeroN m k E)) ∧ Hid (Below w0.heap.size w0 wr) ∧ Hid (KeptB B w wr)) (fun i _ => 8 - (intOf i).toNat)
      case atStart => exact ⟨0, by omega, rfl, HQ, HBW, HKB⟩
      case round =>
        clear HQ HBW HKB
        obtain ⟨k, hk, rfl, HQ, HBW, HKB⟩ := hrel
        by_cases hk8 : k < 8
        · have hj : k * 13 + m < 104 := by omega
          have v1 := HQ.out.en hj
          have v5 := HQ.out.fz hj
          have v2 := heap_lt HQ.out.q
          have hTS := HQ.out.set 0 hj
          have hBS := HBW.out.setCell (p := ⟨B, 13 + (k * 13 + m), none⟩) HB.out (.int .u16 ((0 : Nat) : Int))
          rw [← Nat.add_assoc] at hTS hBS v5 v1
          have HTF := Lib.hid hTS
          have HBF := Lib.hid hBS
          have HKF := Lib.hid (HKB.out.setCell (p := ⟨B, 13 + k * 13 + m, none⟩) rfl (.int .u16 ((0 : Nat) : Int)))
          clear HKB
          have hk8' : (k : Int) < 8 := by omega
          clear hTS hBS
          go_wp2
          go_roundw
          case rel => exact ⟨k + 1, by omega, by go_num, Lib.hid ⟨HTF.out.q, HTF.out.s9, HTF.out.e104⟩, HBF, HKF⟩
          case measure => simp [intOf]; omega
        · have hk8e : k = 8 := by omega
          subst hk8e
          have hE8 := zeroN_lt m HE.out 8
          have hgl8 : (zeroN m 8 E).length = 104 := HQ.out.e104
          go_wp2_with fail
          go_loopw [24] (fun _ wr => ∃ n, Hid (TrkQ wr B X (iterL (growE X m X.ls) (zeroN m 8 E) n)) ∧ Hid (Below w0.heap.size w0 wr) ∧ Hid (KeptB B w wr)) (fun _ wr => massX X + 104 * 8192 - massW B wr)
          case atStart => exact ⟨0, HQ, HBW, HKB⟩
          case round =>
            clear HQ HBW HKB
            obtain ⟨n, HQ, HBW, HKB⟩ := hrel
            have hms := mass_trk HQ.out
            have hL := iterE_lt HOK.out hm13 hE8 n
            have hL1 := iterE_lt HOK.out hm13 hE8 (n + 1)
            have hext := growE_ext X m X.ls (iterL (growE X m X.ls) (zeroN m 8 E) n)
            have hlen := growE_len X m X.ls (iterL (growE X m X.ls) (zeroN m 8 E) n)
            have HNX : Hid (growE X m X.ls (iterL (growE X m X.ls) (zeroN m 8 E) n) = iterL (growE X m X.ls) (zeroN m 8 E) (n + 1)) := Lib.hid rfl
            have hst := sum_top13 hL1
            have hln1 : (iterL (growE X m X.ls) (zeroN m 8 E) (n + 1)).length = 104 := (iterE_len X m _ _).trans hgl8
            rw [hln1] at hst
            generalize iterL (growE X m X.ls) (zeroN m 8 E) (n + 1) = F' at *
            generalize hFm : iterL (growE X m X.ls) (zeroN m 8 E) n = Fn at *
            have HFM := Lib.hid hFm
            clear hFm
            have HGR := Lib.hid (tgrow_anyK B X m Fn w0 wr HBW.out HB.out HQ.out HOK.out hL H3.out H4.out HP.out hm13 hls HT.out)
            by_cases hfx : growE X m X.ls Fn = Fn
            · rw [decide_eq_false (show ¬ (growE X m X.ls Fn ≠ Fn) from fun h => h hfx)] at HGR
              have HFX := Lib.hid hfx
              have HLL := Lib.hid hL
              clear hfx hext hlen hL hL1 hst hms
              go_wp2_with (go_at_call 110; refine HGR.out.mono ?_; rintro e w4 ⟨rfl, hT4, hb4, hk4⟩)
              have HT4 := Lib.hid hT4
              have HB4 := Lib.hid hb4
              have HK4 := Lib.hid (HKB.out.trans hk4)
              clear hT4 hb4 hk4 HKB
              go_roundw
              case rel => exact ⟨m, Fn, by omega, by go_num, Lib.hid (by have := HT4.out; rwa [HFX.out] at this), HB4, HK4, HLL, Lib.hid fun E' h => HS.out E' ⟨Fn, ⟨n, HFM.out.symm, HFX.out⟩, h⟩⟩
              case measure => simp [intOf]
            · rw [decide_eq_true (show growE X m X.ls Fn ≠ Fn from hfx)] at HGR
              have hlt := sum_lt hlen.symm hext (fun e => hfx e.symm)
              rw [HNX.out] at hlt
              clear hfx hext hlen hL hL1
              go_wp2_with (go_at_call 110; refine HGR.out.mono ?_; rintro e w4 ⟨rfl, hT4, hb4, hk4⟩)
              have hms4 := mass_trk hT4
              rw [HNX.out] at hT4 hms4
              have HT4 := Lib.hid hT4
              have HB4 := Lib.hid hb4
              have HK4 := Lib.hid (HKB.out.trans hk4)
              clear hT4 hb4 hk4 HKB
              refine ⟨⟨_, _, _, ⟨n + 1, Lib.hid (by have h : iterL (growE X m X.ls) (zeroN m 8 E) (n + 1) = growE X m X.ls Fn := congrArg _ HFM.out; rw [h, HNX.out]; exact HT4.out), HB4, HK4⟩, rfl⟩, ?_⟩
              rw [hms4, hms]
              omega
end Go.Proofs.YtejjdfmobiegdaaDoor
