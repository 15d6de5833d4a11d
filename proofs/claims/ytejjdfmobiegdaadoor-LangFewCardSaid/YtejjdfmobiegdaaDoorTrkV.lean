/- lang: what the laws of chapter 10 end with. lang: Has, Begins and All as values, all ways out; what words have to do with what is of use. -/
import Derived.Test.YtejjdfmobiegdaaDoorTrkZ
import Derived.Test.YtejjdfmobiegdaaDoorTrkY
import Derived.Test.YtejjdfmobiegdaaDoorPlay
import Derived.Test.YtejjdfmobiegdaaDoorAllS
import Derived.Test.YtejjdfmobiegdaaDoorRTrim
set_option linter.unusedVariables false
namespace Go.Proofs.YtejjdfmobiegdaaDoor
open Go.RowKit
open Doc

def lg : Gr := ⟨[[97], [98]], [[83]], [(100, [1, 100]), (100, [2])]⟩
theorem lg_text : parse (textsL.getD 1 []) = .ok lg := by decide +kernel
theorem lg_check : CheckG lg := (chk_iff lg).1 (by decide +kernel)
theorem lg_der : Wd.Der lg.prods [100] [1, 2] := by
  have h2 : Wd.Der lg.prods [100] [2] := .non (100, [2]) [] [2] [] (by decide) (by decide) (.term 2 [] [] (by decide) .nil) .nil
  exact .non (100, [1, 100]) [] [1, 2] [] (by decide) (by decide) (.term 1 [100] [2] (by decide) h2) .nil
theorem levs12 : Al.levs 1 2 = [[], [1], [1, 1]] := by decide

theorem three_rows : ∀ R : List RowL, R.map (·.row) = [[], [1], [1, 1]] → ∃ r0 r1 r2 : RowL, R = [r0, r1, r2] ∧ r0.row = [] ∧ r1.row = [1] ∧ r2.row = [1, 1]
  | [], h => by simp at h
  | [_], h => by simp at h
  | [_, _], h => by simp at h
  | [r0, r1, r2], h => by simp at h; exact ⟨r0, r1, r2, rfl, h.1, h.2.1, h.2.2⟩
  | _ :: _ :: _ :: _ :: _, h => by simp at h
theorem lg_of {ts ns : List (List UInt8)} {ls : List Lay} (h : parse (textsL.getD ((1 : Int) % 17).toNat []) = .ok ⟨ts, ns, ls.map Lay.plain⟩) : (⟨ts, ns, ls.map Lay.plain⟩ : Gr) = lg := by
  have h2 : parse (textsL.getD ((1 : Int) % 17).toNat []) = .ok lg := lg_text
  rw [h2] at h
  injection h with h
  exact h.symm
set_option maxRecDepth 100000 in
set_option maxHeartbeats 4000000 in
theorem lwakes_any (w : World) (hT : Tab32 w) : Calls Tryd.prog 22 #[] w fun e w' => e = .returned (.bool true) ∧ Below w.heap.size w w' := by
  have HA := Lib.hid (lall_any 1 2 (by omega) (by omega) w)
  have HTT := Lib.hid hT
  clear hT
  go_enter Tryd.func22, Tryd.ntmps22
  go_upto_region 2 with (go_at_call 21; refine HA.out.mono ?_; rintro e w2 ⟨a, c, R, rfl, hR, hG, hB⟩)
  rw [levs12] at hR
  obtain ⟨r0, r1, r2, rfl, h0, h1, h2⟩ := three_rows R hR
  obtain ⟨b, off, rfl, hb, hc⟩ := (own_cells hG.own).1.get (by simp [rowVs])
  have c0 := hc 0 (.slice r0.addr 0 r0.cap) (by simp [rowVs, h0])
  have c2 := hc 2 (.slice r2.addr 2 r2.cap) (by simp [rowVs, h2])
  rw [Nat.add_zero] at c0
  have hr2 := hG.rows r2 (by simp)
  rw [h2] at hr2
  have HR2 := Lib.hid hr2
  have HB := Lib.hid hB
  have HS := Lib.hid fun (W : World) (hW : Below w2.heap.size w2 W) => keepSame2_any r2.addr (some ⟨W.heap.size, 0, none⟩) r2.cap 2 [1, 1] [1, 1] (W.alloc (.cells #[.int .i64 1, .int .i64 1] 3)) ((HR2.out.below hW).below ((Below.refl _ _).alloc (Nat.le_refl _) _)) (cells_new W #[.int .i64 1, .int .i64 1] 3) (by simp) (by simp)
  have HGD := Lib.hid fun W => good_any 1 W
  clear hc hG hr2 hB h0 h1 h2 HA hR
  go_wp2_with (first
    | (go_at_call 17; refine (HS.out w2 (Below.refl _ _)).mono ?_; rintro e w3 ⟨rfl, n3, hw3⟩
       have hB3 : Below w2.heap.size w2 w3 := by rw [hw3]; exact below_drews ((Below.refl _ _).alloc (Nat.le_refl _) _) _
       have HB3 := Lib.hid hB3
       clear hB3 hw3)
    | (go_at_call 33; refine (HGD.out _).mono ?_; rintro e w4 ⟨hb4, ts, ns, ls, at_, an, ap, ct, cn, cp, rfl, hrw, hpt⟩
       have HG4 := Lib.hid (lg_of hpt ▸ hrw.gram)
       have HB4 := Lib.hid hb4
       clear hrw hpt hb4))
  have hba : Below w4.heap.size w4 (w4.alloc (.cells #[.int .i64 1, .int .i64 2] 3)) := (Below.refl _ _).alloc (Nat.le_refl _) _
  have hw4 : Below w.heap.size w w4 := HB.out.trans ((HB3.out.trans (HB4.out.mono HB3.out.size)).mono HB.out.size)
  have hw5 := hw4.trans (hba.mono hw4.size)
  refine (lhas_is _ lg (some ⟨w4.heap.size, 0, none⟩) 2 [1, 2] (w4.alloc (.cells #[.int .i64 1, .int .i64 2] 3)) (HG4.out.below hba) lg_check (cells_new w4 #[.int .i64 1, .int .i64 2] 3) (by simp) (by intro s hs; simp at hs; rcases hs with rfl | rfl <;> decide) (HTT.out.below hw5)).mono ?_
  rintro e w5 ⟨hb5, bb, rfl, hbb⟩
  obtain rfl : bb = true := hbb.2 lg_der
  have HBF := Lib.hid (hw5.trans (hb5.mono hw5.size))
  clear hba hw4 hw5 hb5
  go_wp2
  go_ret
  exact ⟨rfl, HBF.out⟩
end Go.Proofs.YtejjdfmobiegdaaDoor

set_option linter.unusedVariables false
namespace Go.Proofs.YtejjdfmobiegdaaDoor
open Go.RowKit
open Doc

noncomputable def hasD (g : Gr) (u : List Int) : Bool := @decide (Wd.Der g.prods [100] u) (Classical.propDecidable _)
noncomputable def begD (g : Gr) (u : List Int) : Bool := @decide (∃ z, Wd.Der g.prods [100] (u ++ z)) (Classical.propDecidable _)
theorem hasD_iff {g : Gr} {u : List Int} : hasD g u = true ↔ Wd.Der g.prods [100] u := @decide_eq_true_iff _ (Classical.propDecidable _)
theorem begD_iff {g : Gr} {u : List Int} : begD g u = true ↔ ∃ z, Wd.Der g.prods [100] (u ++ z) := @decide_eq_true_iff _ (Classical.propDecidable _)
theorem has_beg {g : Gr} {u : List Int} (h : hasD g u = true) : begD g u = true := begD_iff.2 ⟨[], by rw [List.append_nil]; exact hasD_iff.1 h⟩
theorem beg_take {g : Gr} {u : List Int} (k : Nat) (h : begD g u = true) : begD g (u.take k) = true := by
  obtain ⟨z, hz⟩ := begD_iff.1 h
  exact begD_iff.2 ⟨u.drop k ++ z, by rw [← List.append_assoc, List.take_append_drop]; exact hz⟩
theorem lhas_d (v : Value) (g : Gr) (pa : Option Addr) (pc : Nat) (u : List Int) (w : World) (hg : GramAt w v g) (hck : CheckG g) (hu : Cells w pa (nums u)) (hul : u.length ≤ 12) (hus : ∀ s ∈ u, 1 ≤ s ∧ s ≤ (g.terms.length : Int)) (hT : Tab32 w) :
    Calls Tryd.prog 18 #[v, .slice pa u.length pc] w fun e w' => e = .returned (.bool (hasD g u)) ∧ Below w.heap.size w w' :=
  (lhas_is v g pa pc u w hg hck hu hul hus hT).mono fun e w' ⟨hb, b, he, hbb⟩ => ⟨he.trans (by rw [show b = hasD g u from Bool.eq_iff_iff.2 (hbb.trans hasD_iff.symm)]), hb⟩
theorem lbegins_d (v : Value) (g : Gr) (pa : Option Addr) (pc : Nat) (u : List Int) (w : World) (hg : GramAt w v g) (hck : CheckG g) (hu : Cells w pa (nums u)) (hul : u.length ≤ 12) (hus : ∀ s ∈ u, 1 ≤ s ∧ s ≤ (g.terms.length : Int)) (hT : Tab32 w) :
    Calls Tryd.prog 19 #[v, .slice pa u.length pc] w fun e w' => e = .returned (.bool (begD g u)) ∧ Below w.heap.size w w' :=
  (lbegins_is v g pa pc u w hg hck hu hul hus hT).mono fun e w' ⟨hb, b, he, hbb⟩ => ⟨he.trans (by rw [show b = begD g u from Bool.eq_iff_iff.2 (hbb.trans begD_iff.symm)]), hb⟩
theorem row_word {ps : List (Int × List Int)} : ∀ {r : List Int}, (∀ s ∈ r, 100 ≤ s → ∃ v, Wd.Der ps [s] v) → ∃ v, Wd.Der ps r v
  | [], _ => ⟨[], .nil⟩
  | s :: r, h => by
    obtain ⟨w, hw⟩ := row_word (r := r) fun x hx => h x (List.mem_cons_of_mem _ hx)
    by_cases hs : s < 100
    · exact ⟨s :: w, .term s r w hs hw⟩
    · obtain ⟨v, hv⟩ := h s List.mem_cons_self (by omega)
      exact ⟨v ++ w, der_two hv hw⟩
theorem fru_word {g : Gr} (hck : CheckG g) {s : Int} (h : Fru g s) : ∃ v, Wd.Der g.prods [s] v := by
  induction h with
  | mk p hp _ ih =>
    obtain ⟨v, hv⟩ := row_word ih
    have := Wd.Der.non p [] v [] hp (hck.pv p hp).1.1 hv .nil
    exact ⟨v ++ [], this⟩
theorem fru_iff {g : Gr} (hck : CheckG g) : Fru g 100 ↔ ∃ v, Wd.Der g.prods [100] v :=
  ⟨fru_word hck, fun ⟨v, h⟩ => wd_fru h 100 (by simp) (by omega)⟩
theorem rtrim_pos {g : Gr} (hck : CheckG g) : begD g [] = decide ((0 : Int) < ((rtrimL g).length : Int)) := by
  have hF := rfru_is hck
  have h0 : (iterG (gsF bearI g.prods) 0 g.nons.length).testBit 0 = true ↔ Fru g 100 := by
    rw [hF.2 0]
    constructor
    · rintro ⟨_, h⟩; simpa using h
    · intro h; exact ⟨by omega, by simpa using h⟩
  rw [Bool.eq_iff_iff, begD_iff, decide_eq_true_iff]
  simp only [List.nil_append]
  rw [← fru_iff hck]
  unfold rtrimL
  constructor
  · intro h
    rw [if_pos (h0.2 h)]
    generalize hs : (100 : Int) = s at h
    cases h with
    | mk p hp hr =>
      obtain ⟨j, hj⟩ := List.mem_iff_getElem?.1 hp
      have hm := (trimF_mem (iterG (gsF bearI g.prods) 0 g.nons.length) g.prods 0 _).2 ⟨j, p, hj, (usable_bear (nums_of_check hck) hF hp).2 hr, rfl⟩
      have := List.length_pos_of_mem hm
      omega
  · intro h
    by_cases hb : (iterG (gsF bearI g.prods) 0 g.nons.length).testBit 0 = true
    · exact h0.1 hb
    · rw [if_neg hb] at h
      simp at h

/-! ### All, refusing -/
theorem lall_no (t n : Int) (h : t < 0 ∨ 8 < t ∨ n < 0 ∨ 5 < n) (w : World) :
    Calls Tryd.prog 21 #[.int .i64 t, .int .i64 n] w fun e w' => e = .returned (.slice none 0 0) ∧ w' = w := by
  by_cases h1 : t < 0
  · clear h
    go_enter Tryd.func21, Tryd.ntmps21
    go_wp2
    go_ret
    exact ⟨rfl, rfl⟩
  by_cases h2 : 8 < t
  · clear h
    go_enter Tryd.func21, Tryd.ntmps21
    go_wp2
    go_ret
    exact ⟨rfl, rfl⟩
  by_cases h3 : n < 0
  · clear h
    go_enter Tryd.func21, Tryd.ntmps21
    go_wp2
    go_ret
    exact ⟨rfl, rfl⟩
  have h4 : 5 < n := by omega
  clear h
  go_enter Tryd.func21, Tryd.ntmps21
  go_wp2
  go_ret
  exact ⟨rfl, rfl⟩
end Go.Proofs.YtejjdfmobiegdaaDoor
