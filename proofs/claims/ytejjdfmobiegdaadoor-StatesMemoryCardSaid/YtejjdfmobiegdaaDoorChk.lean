/- Which grammars may be: the document's own Check, walked. What Check tells, in plain words. namesHold, prodHolds, prodsHold, Check: walked. prodsHold, Check: walked. Check: walked; what it tells, in plain words. -/
import Derived.Test.YtejjdfmobiegdaaDoorFind
import Derived.Test.YtejjdfmobiegdaaDoorSpec
import Derived.Test.YtejjdfmobiegdaaDoorForm
import Derived.Test.YtejjdfmobiegdaaDoorLeafs
import Derived.Test.YtejjdfmobiegdaaDoorWake
namespace Go.Proofs.YtejjdfmobiegdaaDoor
open Go.RowKit
open Doc

/-- What Name tells, and the first byte. -/
theorem kind_first {x : List UInt8} (h : nameOk x = true) : ∃ c l, x = c :: l ∧ (kindOf x = 1 ↔ c.toNat < 97) ∧ (kindOf x = 2 ↔ ¬ c.toNat < 97) := by
  cases x with
  | nil => simp [nameOk] at h
  | cons c l =>
    refine ⟨c, l, rfl, ?_⟩
    have e : kindOf (c :: l) = if nameOk (c :: l) = true then (if up c = true then 1 else 2) else 0 := rfl
    rw [e, if_pos h]
    have hl : lett c = true := by simp [nameOk] at h; exact h.1.2
    have hu : up c = true ↔ c.toNat < 97 := by
      unfold lett up low at hl
      unfold up
      simp at hl ⊢
      omega
    by_cases h97 : c.toNat < 97
    · rw [if_pos (hu.2 h97)]; simp [h97]
    · rw [if_neg (fun hx => h97 (hu.1 hx))]; simp [h97]
theorem kind_none {x : List UInt8} (h : nameOk x = false) : kindOf x = 0 := by
  cases x with
  | nil => rfl
  | cons c l =>
    have e : kindOf (c :: l) = if nameOk (c :: l) = true then (if up c = true then 1 else 2) else 0 := rfl
    rw [e, h]; rfl

theorem nodup_take {l : List (List UInt8)} {k : Nat} {x : List UInt8} (hx : l[k]? = some x) (h : (l.take k).Nodup) (hn : ∀ j, j < k → l[j]? ≠ some x) : (l.take (k + 1)).Nodup := by
  obtain ⟨hk, e⟩ := List.getElem?_eq_some_iff.1 hx
  rw [List.take_succ_eq_append_getElem hk, List.nodup_append]
  refine ⟨h, by simp, ?_⟩
  intro a ha b hb
  rw [List.mem_singleton.1 hb, e]
  rintro rfl
  obtain ⟨j, hj, ej⟩ := List.getElem_of_mem ha
  rw [List.length_take] at hj
  rw [List.getElem_take] at ej
  exact hn j (by omega) (by rw [List.getElem?_eq_getElem (by omega), ej])
theorem not_nodup {l : List (List UInt8)} {j k : Nat} {x : List UInt8} (hj : l[j]? = some x) (hk : l[k]? = some x) (hjk : j < k) : ¬ l.Nodup := by
  intro h
  obtain ⟨h1, e1⟩ := List.getElem?_eq_some_iff.1 hj
  obtain ⟨h2, e2⟩ := List.getElem?_eq_some_iff.1 hk
  have := nodup_at h h1 h2 (e1.trans e2.symm)
  omega

theorem nodup_atG {α : Type} : ∀ {l : List α}, l.Nodup → ∀ {i j : Nat} (h1 : i < l.length) (h2 : j < l.length), l[i] = l[j] → i = j
  | [], _, i, _, h1, _, _ => by simp at h1
  | x :: l, hn, 0, 0, _, _, _ => rfl
  | x :: l, hn, 0, j + 1, _, h2, e => by
    simp only [List.getElem_cons_zero, List.getElem_cons_succ] at e
    exact absurd (e ▸ List.getElem_mem _) (List.nodup_cons.1 hn).1
  | x :: l, hn, i + 1, 0, h1, _, e => by
    simp only [List.getElem_cons_zero, List.getElem_cons_succ] at e
    exact absurd (e ▸ List.getElem_mem _) (List.nodup_cons.1 hn).1
  | x :: l, hn, i + 1, j + 1, h1, h2, e => by
    simp only [List.getElem_cons_succ] at e
    rw [nodup_atG (List.nodup_cons.1 hn).2 (by simpa using h1) (by simpa using h2) e]
theorem nodup_takeG {α : Type} {l : List α} {k : Nat} {x : α} (hx : l[k]? = some x) (h : (l.take k).Nodup) (hn : ∀ j, j < k → l[j]? ≠ some x) : (l.take (k + 1)).Nodup := by
  obtain ⟨hk, e⟩ := List.getElem?_eq_some_iff.1 hx
  rw [List.take_succ_eq_append_getElem hk, List.nodup_append]
  refine ⟨h, by simp, ?_⟩
  intro a ha b hb
  rw [List.mem_singleton.1 hb, e]
  rintro rfl
  obtain ⟨j, hj, ej⟩ := List.getElem_of_mem ha
  rw [List.length_take] at hj
  rw [List.getElem_take] at ej
  exact hn j (by omega) (by rw [List.getElem?_eq_getElem (by omega), ej])
theorem not_nodupG {α : Type} {l : List α} {j k : Nat} {x : α} (hj : l[j]? = some x) (hk : l[k]? = some x) (hjk : j < k) : ¬ l.Nodup := by
  intro h
  obtain ⟨h1, e1⟩ := List.getElem?_eq_some_iff.1 hj
  obtain ⟨h2, e2⟩ := List.getElem?_eq_some_iff.1 hk
  have := nodup_atG h h1 h2 (e1.trans e2.symm)
  omega

/-- The terminals' loop, as the document's own Check has it: all is well, or not. -/
def TermsOk (g : Gr) : Prop := (∀ x ∈ g.terms, kindOf x = 2) ∧ g.terms.Nodup
def NonsOk (g : Gr) : Prop := (∀ x ∈ g.nons, kindOf x = 1) ∧ g.nons.Nodup ∧ ∀ i, i < g.nons.length → ∃ p ∈ g.prods, p.1 = ((100 + i : Nat) : Int)
def ProdsOk (g : Gr) : Prop := (∀ p ∈ g.prods, nonB g p.1 = true ∧ p.2.length ≤ 6 ∧ ∀ s ∈ p.2, symB g s = true) ∧ g.prods.Nodup
def SizesOk (g : Gr) : Prop := (1 ≤ g.terms.length ∧ g.terms.length ≤ 8) ∧ (1 ≤ g.nons.length ∧ g.nons.length ≤ 8) ∧ 1 ≤ g.prods.length ∧ g.prods.length ≤ 24
def AllOk (g : Gr) : Prop := SizesOk g ∧ TermsOk g ∧ NonsOk g ∧ ProdsOk g
noncomputable def okB (g : Gr) : Bool := @decide (AllOk g) (Classical.propDecidable _)
theorem okB_true {g : Gr} (h : AllOk g) : okB g = true := by unfold okB; exact @decide_eq_true _ (Classical.propDecidable _) h
theorem okB_false {g : Gr} (h : ¬ AllOk g) : okB g = false := by unfold okB; exact @decide_eq_false _ (Classical.propDecidable _) h

set_option maxRecDepth 100000 in
set_option maxHeartbeats 8000000 in
theorem check_any (hname : ∀ (s : ByteArray) (W : World), s.size ≤ maxLen → Calls Tryd.prog 48 #[.string s] W fun e w' => e = .returned (.bool (nameOk s.data.toList)) ∧ w' = W)
    (v : Value) (g : Gr) (w : World) (hg : GramAt w v g) (hl1 : g.terms.length ≤ 1000000) (hl2 : g.nons.length ≤ 1000000) (hl3 : g.prods.length ≤ 1000000) (hl4 : ∀ p ∈ g.prods, p.2.length ≤ 1000000) (hl5 : ∀ x ∈ g.terms ++ g.nons, x.length ≤ 1000000) :
    Calls Tryd.prog 14 #[v] w fun e w' => e = .returned (.bool (okB g)) ∧ Below w.heap.size w w' := by
  have hg' := hg
  obtain ⟨a1, a2, a3, c1, c2, c3, ls, rfl, hp, h1, h2, h3, h4, h5, h6, h7⟩ := hg
  have hS : ∀ x, Below w.heap.size w (w.alloc x) := fun x => (Below.refl _ _).alloc (Nat.le_refl _) _
  have hpl : ls.length = g.prods.length := by rw [← hp, List.length_map]
  by_cases hz : SizesOk g
  · obtain ⟨⟨z1, z2⟩, ⟨z3, z4⟩, z5, z6⟩ := hz
    have y1 : ¬ ((g.terms.length : Int) < 1) := by omega
    have y2 : ¬ (8 < (g.terms.length : Int)) := by omega
    have y3 : ¬ ((g.nons.length : Int) < 1) := by omega
    have y4 : ¬ (8 < (g.nons.length : Int)) := by omega
    have y5 : ¬ ((ls.length : Int) < 1) := by omega
    have y6 : ¬ (24 < (ls.length : Int)) := by omega
    have HPL := Lib.hid hpl
    clear hpl
    go_enter Tryd.func14, Tryd.ntmps14
    go_wp2
    have hSS := hS (.cells #[.slice a1 g.terms.length c1, .slice a2 g.nons.length c2, .slice a3 ls.length c3] 29)
    have s10 : (w.alloc (.cells #[.slice a1 g.terms.length c1, .slice a2 g.nons.length c2, .slice a3 ls.length c3] 29)).cell? ⟨w.heap.size, 0, none⟩ = some (.slice a1 g.terms.length c1) := by go_simp
    have s11 : (w.alloc (.cells #[.slice a1 g.terms.length c1, .slice a2 g.nons.length c2, .slice a3 ls.length c3] 29)).cell? ⟨w.heap.size, 1, none⟩ = some (.slice a2 g.nons.length c2) := by go_simp
    have s12 : (w.alloc (.cells #[.slice a1 g.terms.length c1, .slice a2 g.nons.length c2, .slice a3 ls.length c3] 29)).cell? ⟨w.heap.size, 2, none⟩ = some (.slice a3 ls.length c3) := by go_simp
    have sb : w.heap.size < (w.alloc (.cells #[.slice a1 g.terms.length c1, .slice a2 g.nons.length c2, .slice a3 ls.length c3] 29)).heap.size := by simp
    generalize (w.alloc (.cells #[.slice a1 g.terms.length c1, .slice a2 g.nons.length c2, .slice a3 ls.length c3] 29)) = S at *
    have C1 := Lib.hid (h1.below hSS)
    have C2 := Lib.hid (h2.below hSS)
    have C3 := Lib.hid (h3.below hSS)
    have C4 := Lib.hid (fun p (hp : p ∈ ls) => (h4 p hp).below hSS)
    have GA := Lib.hid (hg'.below hSS)
    have HSS := Lib.hid hSS
    have HP := Lib.hid hp
    clear h1 h2 h3 h4 hg' hSS hS hp
    go_loop [57] (fun i => ∃ k : Nat, k ≤ g.terms.length ∧ i = .int .i64 k ∧ Hid ((∀ j x, j < k → g.terms[j]? = some x → kindOf x = 2) ∧ (g.terms.take k).Nodup)) (fun i => g.terms.length - (intOf i).toNat)
    case atStart => exact ⟨0, Nat.zero_le _, rfl, Lib.hid ⟨by intro j x hj; omega, by simp⟩⟩
    case round =>
      obtain ⟨k, hk, rfl, HB⟩ := hrel
      by_cases hlt : k < g.terms.length
      · obtain ⟨x, hx⟩ : ∃ x, g.terms[k]? = some x := ⟨_, List.getElem?_eq_getElem hlt⟩
        obtain ⟨b, off, rfl, hb, hc⟩ := C1.out.get (by unfold strs; intro e; rw [List.map_eq_nil_iff] at e; rw [e] at hlt; simp at hlt)
        have x0 := hc k _ (strs_at hx)
        have e1 : (k : Int) < g.terms.length := by omega
        have hxl : x.length ≤ 1000000 := hl5 x (List.mem_append.2 (.inl (List.mem_of_getElem? hx)))
        have hN := fun W => hname ⟨x.toArray⟩ W (by show x.length ≤ _; unfold maxLen; omega)
        have HN := Lib.hid hN
        have HC := Lib.hid hc
        clear hN hc
        cases hnm : nameOk x with
        | false =>
          have hbad := Lib.hid (show ¬ AllOk g from fun h => by have := h.2.1.1 x (List.mem_of_getElem? hx); rw [kind_none hnm] at this; omega)
          go_wp2_with (go_at_call 48; refine (HN.out _).mono ?_; rintro e w2 ⟨rfl, rfl⟩; simp only [hnm])
          go_ret
          exact ⟨ret_bool (okB_false hbad.out).symm, HSS.out⟩
        | true =>
          obtain ⟨c, l, hcl, hk1, hk2⟩ := kind_first hnm
          by_cases h97 : (c.toNat : Int) < 97
          · have hbad := Lib.hid (show ¬ AllOk g from fun h => by have := h.2.1.1 x (List.mem_of_getElem? hx); have := hk1.2 (by omega); omega)
            clear hk1 hk2
            subst hcl
            have hc0 : ∀ h, (⟨(c :: l).toArray⟩ : ByteArray)[0]'h = c := fun _ => rfl
            go_wp2_with (go_at_call 48; refine (HN.out _).mono ?_; rintro e w2 ⟨rfl, rfl⟩; simp only [hnm])
            go_ret
            exact ⟨ret_bool (okB_false hbad.out).symm, HSS.out⟩
          · have hkind := Lib.hid (show kindOf x = 2 by exact hk2.2 (by omega))
            have HX := Lib.hid hx
            clear hk1 hk2
            have i1 : (0 : Int) ≤ k := by omega
            have i2 : (k : Int) ≤ c1 := by omega
            obtain ⟨X, hXX⟩ : ∃ X, X = x := ⟨_, rfl⟩
            have HXX := Lib.hid hXX
            clear hXX hx
            subst hcl
            have hc0 : ∀ h, (⟨(c :: l).toArray⟩ : ByteArray)[0]'h = c := fun _ => rfl
            go_wp2_with (go_at_call 48; refine (HN.out _).mono ?_; rintro e w2 ⟨rfl, rfl⟩; simp only [hnm])
            go_loop [75] (fun i => ∃ j : Nat, j ≤ k ∧ i = .int .i64 j ∧ Hid (∀ j', j' < j → g.terms[j']? ≠ some (c :: l))) (fun i => k - (intOf i).toNat)
            case atStart => exact ⟨0, Nat.zero_le _, rfl, Lib.hid (by intro j hj; omega)⟩
            case round =>
              obtain ⟨j, hj, rfl, HI⟩ := hrel
              by_cases hjk : j < k
              · obtain ⟨y, hy⟩ : ∃ y, g.terms[j]? = some y := ⟨_, List.getElem?_eq_getElem (by omega)⟩
                have x1 := HC.out j _ (strs_at hy)
                have e2 : (j : Int) < k := by omega
                have HY := Lib.hid hy
                by_cases hxy : y = c :: l
                · have hbad := Lib.hid (show ¬ AllOk g from fun h => not_nodup (hxy ▸ hy) HX.out hjk h.2.1.2)
                  have hbs : ((c :: l) == y) = true := by simp [hxy]
                  clear hy hxy
                  go_wp2
                  go_ret
                  exact ⟨ret_bool (okB_false hbad.out).symm, HSS.out⟩
                · have hbs : ((c :: l) == y) = false := by simpa using fun e => hxy e.symm
                  have HI2 : Hid (∀ j', j' < j + 1 → g.terms[j']? ≠ some (c :: l)) := Lib.hid fun j' hj' => by
                    by_cases h : j' = j
                    · subst h; rw [HY.out]; simpa using hxy
                    · exact HI.out j' (by omega)
                  clear hy
                  go_wp2
                  exact ⟨⟨j + 1, by omega, by go_num, HI2⟩, by simp [intOf]; omega⟩
              · have hres := Lib.hid (nodup_take HX.out HB.out.2 (fun j' hj' => HI.out j' (by omega)))
                have HB2 : Hid ((∀ j x, j < k + 1 → g.terms[j]? = some x → kindOf x = 2) ∧ (g.terms.take (k + 1)).Nodup) := Lib.hid ⟨fun j x hj hx => by
                  by_cases h : j = k
                  · subst h; rw [HX.out] at hx; cases hx; exact hkind.out
                  · exact HB.out.1 j x (by omega) hx, hres.out⟩
                have e2 : ¬ (j : Int) < k := by omega
                clear HI hres
                go_wp2
                exact ⟨⟨k + 1, by omega, by go_num, HB2⟩, by simp [intOf]; omega⟩
      · have hT : TermsOk g := by
          have e : g.terms.take k = g.terms := List.take_of_length_le (by omega)
          have h := HB.out
          rw [e] at h
          refine ⟨fun x hx => ?_, h.2⟩
          obtain ⟨j, hj, ej⟩ := List.getElem_of_mem hx
          exact h.1 j x (by omega) (by rw [List.getElem?_eq_getElem hj, ej])
        have HT := Lib.hid hT
        have e1 : ¬ (k : Int) < g.terms.length := by omega
        clear hT HB
        go_wp2
        clear e1 hlt hk
        go_loopw [87] (fun i wr => ∃ k : Nat, k ≤ g.nons.length ∧ i = .int .i64 k ∧ Below S.heap.size S wr ∧ Hid ((∀ j x, j < k → g.nons[j]? = some x → kindOf x = 1) ∧ (g.nons.take k).Nodup ∧ ∀ i, i < k → ∃ p ∈ g.prods, p.1 = ((100 + i : Nat) : Int))) (fun i _ => g.nons.length - (intOf i).toNat)
        case atStart => exact ⟨0, Nat.zero_le _, rfl, Below.refl _ _, Lib.hid ⟨by intro j x hj; omega, by simp, by intro i hi; omega⟩⟩
        case round =>
          obtain ⟨k, hk, rfl, hbr, HB⟩ := hrel
          by_cases hlt : k < g.nons.length
          · obtain ⟨x, hx⟩ : ∃ x, g.nons[k]? = some x := ⟨_, List.getElem?_eq_getElem hlt⟩
            obtain ⟨b, off, rfl, hb, hc⟩ := (C2.out.below hbr).get (by unfold strs; intro e; rw [List.map_eq_nil_iff] at e; rw [e] at hlt; simp at hlt)
            have x0 := hc k _ (strs_at hx)
            have e1 : (k : Int) < g.nons.length := by omega
            have r11 := (hbr.cell (p := ⟨w.heap.size, 1, none⟩) sb).trans s11
            have r12 := (hbr.cell (p := ⟨w.heap.size, 2, none⟩) sb).trans s12
            have hxl : x.length ≤ 1000000 := hl5 x (List.mem_append.2 (.inr (List.mem_of_getElem? hx)))
            have HN := Lib.hid (fun W => hname ⟨x.toArray⟩ W (by show x.length ≤ _; unfold maxLen; omega))
            have HC := Lib.hid hc
            have HBR := Lib.hid hbr
            have HBW := Lib.hid (HSS.out.trans (hbr.mono HSS.out.size))
            clear hc hbr
            cases hnm : nameOk x with
            | false =>
              have hbad := Lib.hid (show ¬ AllOk g from fun h => by have := h.2.2.1.1 x (List.mem_of_getElem? hx); rw [kind_none hnm] at this; omega)
              go_wp2_with (go_at_call 48; refine (HN.out _).mono ?_; rintro e w2 ⟨rfl, rfl⟩; simp only [hnm])
              go_ret
              exact ⟨ret_bool (okB_false hbad.out).symm, HBW.out⟩
            | true =>
              obtain ⟨c, l, hcl, hk1, hk2⟩ := kind_first hnm
              by_cases h97 : (c.toNat : Int) < 97
              · have hkind := Lib.hid (show kindOf x = 1 by exact hk1.2 (by omega))
                have HX := Lib.hid hx
                clear hk1 hk2 hx
                have i1 : (0 : Int) ≤ k := by omega
                have i2 : (k : Int) ≤ c2 := by omega
                subst hcl
                have hc0 : ∀ h, (⟨(c :: l).toArray⟩ : ByteArray)[0]'h = c := fun _ => rfl
                go_wp2_with (go_at_call 48; refine (HN.out _).mono ?_; rintro e w2 ⟨rfl, rfl⟩; simp only [hnm])
                go_loop [105] (fun i => ∃ j : Nat, j ≤ k ∧ i = .int .i64 j ∧ Hid (∀ j', j' < j → g.nons[j']? ≠ some (c :: l))) (fun i => k - (intOf i).toNat)
                case atStart => exact ⟨0, Nat.zero_le _, rfl, Lib.hid (by intro j hj; omega)⟩
                case round =>
                  obtain ⟨j, hj, rfl, HI⟩ := hrel
                  by_cases hjk : j < k
                  · obtain ⟨y, hy⟩ : ∃ y, g.nons[j]? = some y := ⟨_, List.getElem?_eq_getElem (by omega)⟩
                    have x1 := HC.out j _ (strs_at hy)
                    have e2 : (j : Int) < k := by omega
                    have HY := Lib.hid hy
                    by_cases hxy : y = c :: l
                    · have hbad := Lib.hid (show ¬ AllOk g from fun h => not_nodup (hxy ▸ hy) HX.out hjk h.2.2.1.2.1)
                      have hbs : ((c :: l) == y) = true := by simp [hxy]
                      clear hy hxy
                      go_wp2
                      go_ret
                      exact ⟨ret_bool (okB_false hbad.out).symm, HBW.out⟩
                    · have hbs : ((c :: l) == y) = false := by simpa using fun e => hxy e.symm
                      have HI2 : Hid (∀ j', j' < j + 1 → g.nons[j']? ≠ some (c :: l)) := Lib.hid fun j' hj' => by
                        by_cases h : j' = j
                        · subst h; rw [HY.out]; simpa using hxy
                        · exact HI.out j' (by omega)
                      clear hy
                      go_wp2
                      exact ⟨⟨j + 1, by omega, by go_num, HI2⟩, by simp [intOf]; omega⟩
                  · have hres := Lib.hid (nodup_take HX.out HB.out.2.1 (fun j' hj' => HI.out j' (by omega)))
                    have e2 : ¬ (j : Int) < k := by omega
                    clear HI
                    go_wp2
                    clear e2
                    obtain ⟨W5, hW5⟩ : ∃ W5, W5 = w2 := ⟨_, rfl⟩
                    rw [← hW5]
                    have HW5 : Hid (Below S.heap.size S W5) := by rw [hW5]; exact HBR
                    rw [← hW5] at r11 r12 HBW
                    clear hW5
                    go_loopw [9, 116] (fun sm i w5 => ∃ j : Nat, j ≤ ls.length ∧ i = .int .i64 j ∧ sm = .bool ((g.prods.take j).any fun p => p.1 == ((100 + k : Nat) : Int)) ∧ Below W5.heap.size W5 w5) (fun _ i _ => ls.length - (intOf i).toNat)
                    case atStart => exact ⟨0, Nat.zero_le _, rfl, by simp, Below.refl _ _⟩
                    case round =>
                      obtain ⟨j, hj, rfl, rfl, hb5⟩ := hrel
                      by_cases hjl : j < ls.length
                      · obtain ⟨p, hpk⟩ : ∃ p, ls[j]? = some p := ⟨_, List.getElem?_eq_getElem hjl⟩
                        have gp : g.prods[j]? = some p.plain := by rw [← HP.out, List.getElem?_map, hpk]; rfl
                        obtain ⟨b3, o3, rfl, hb3, hc3⟩ := ((C3.out.below HW5.out).below hb5).get (by intro e; have := (lays_at ls j p hpk).1; rw [e] at this; simp at this)
                        have x3 := hc3 _ _ (lays_at ls j p hpk).1
                        have x4 := hc3 _ _ (lays_at ls j p hpk).2
                        rw [← Nat.add_assoc] at x4
                        have e3 : (j : Int) < ls.length := by omega
                        have hstep : ((g.prods.take (j + 1)).any fun p => p.1 == ((100 + k : Nat) : Int)) = (((g.prods.take j).any fun p => p.1 == ((100 + k : Nat) : Int)) || (p.left == ((100 + k : Nat) : Int))) := by
                          obtain ⟨hj1, ej⟩ := List.getElem?_eq_some_iff.1 gp
                          rw [List.take_succ_eq_append_getElem hj1, List.any_append, ej]; simp [Lay.plain]
                        have HST := Lib.hid hstep
                        clear hstep hc3 gp hpk
                        cases hsm : (g.prods.take j).any fun p => p.1 == ((100 + k : Nat) : Int) with
                        | true =>
                          have hnew := Lib.hid (show ((g.prods.take (j + 1)).any fun p => p.1 == ((100 + k : Nat) : Int)) = true by rw [HST.out, hsm]; rfl)
                          clear HST
                          go_wp2
                          exact ⟨⟨j + 1, by omega, by go_num, by rw [hnew.out], hb5.alloc hb5.size _⟩, by simp [intOf]; omega⟩
                        | false =>
                          by_cases hpl : p.left = ((100 + k : Nat) : Int)
                          · have hnew := Lib.hid (show ((g.prods.take (j + 1)).any fun p => p.1 == ((100 + k : Nat) : Int)) = true by rw [HST.out, hsm, hpl]; simp)
                            have hbl : (p.left == 100 + (k : Int)) = true := by simp [hpl]
                            clear HST hpl
                            go_wp2
                            exact ⟨⟨j + 1, by omega, by go_num, by rw [hnew.out], hb5.alloc hb5.size _⟩, by simp [intOf]; omega⟩
                          · have hnew := Lib.hid (show ((g.prods.take (j + 1)).any fun p => p.1 == ((100 + k : Nat) : Int)) = false by rw [HST.out, hsm]; simpa using hpl)
                            have hbl : (p.left == 100 + (k : Int)) = false := by simp; omega
                            clear HST hpl
                            go_wp2
                            exact ⟨⟨j + 1, by omega, by go_num, by rw [hnew.out], hb5.alloc hb5.size _⟩, by simp [intOf]; omega⟩
                      · have e3 : ¬ (j : Int) < ls.length := by omega
                        have htk : g.prods.take j = g.prods := List.take_of_length_le (by have := HPL.out; omega)
                        rw [htk]
                        have HB5 := Lib.hid hb5
                        clear hb5
                        cases hsm : g.prods.any fun p => p.1 == ((100 + k : Nat) : Int) with
                        | true =>
                          have hex : ∃ p ∈ g.prods, p.1 = ((100 + k : Nat) : Int) := by
                            obtain ⟨p, hp1, hp2⟩ := List.any_eq_true.1 hsm
                            exact ⟨p, hp1, by simpa using hp2⟩
                          have HB2 : Hid ((∀ j x, j < k + 1 → g.nons[j]? = some x → kindOf x = 1) ∧ (g.nons.take (k + 1)).Nodup ∧ ∀ i, i < k + 1 → ∃ p ∈ g.prods, p.1 = ((100 + i : Nat) : Int)) := Lib.hid ⟨fun j x hj hx => by
                            by_cases h : j = k
                            · subst h; rw [HX.out] at hx; cases hx; exact hkind.out
                            · exact HB.out.1 j x (by omega) hx, hres.out, fun i hi => by
                            by_cases h : i = k
                            · subst h; exact hex
                            · exact HB.out.2.2 i (by omega)⟩
                          have HBN := Lib.hid (HW5.out.trans (HB5.out.mono HW5.out.size))
                          clear hex hres
                          go_wp2
                          exact ⟨⟨k + 1, by omega, by go_num, HBN.out, HB2⟩, by simp [intOf]; omega⟩
                        | false =>
                          have hbad := Lib.hid (show ¬ AllOk g from fun h => by
                            obtain ⟨p, hp1, hp2⟩ := h.2.2.1.2.2 k hlt
                            have := List.any_eq_false.1 hsm p hp1
                            simp [hp2] at this)
                          go_wp2
                          go_ret
                          exact ⟨ret_bool (okB_false hbad.out).symm, HBW.out.trans (HB5.out.mono HBW.out.size)⟩
              · have hbad := Lib.hid (show ¬ AllOk g from fun h => by have := h.2.2.1.1 x (List.mem_of_getElem? hx); have := hk2.2 (by omega); omega)
                clear hk1 hk2
                subst hcl
                have hc0 : ∀ h, (⟨(c :: l).toArray⟩ : ByteArray)[0]'h = c := fun _ => rfl
                go_wp2_with (go_at_call 48; refine (HN.out _).mono ?_; rintro e w2 ⟨rfl, rfl⟩; simp only [hnm])
                go_ret
                exact ⟨ret_bool (okB_false hbad.out).symm, HBW.out⟩
          · have hNs : NonsOk g := by
              have e : g.nons.take k = g.nons := List.take_of_length_le (by omega)
              have h := HB.out
              rw [e] at h
              refine ⟨fun x hx => ?_, h.2.1, fun i hi => h.2.2 i (by omega)⟩
              obtain ⟨j, hj, ej⟩ := List.getElem_of_mem hx
              exact h.1 j x (by omega) (by rw [List.getElem?_eq_getElem hj, ej])
            have HNS := Lib.hid hNs
            have e1 : ¬ (k : Int) < g.nons.length := by omega
            have r12 := (hbr.cell (p := ⟨w.heap.size, 2, none⟩) sb).trans s12
            have HBR0 := Lib.hid hbr
            clear hNs HB hbr
            go_wp2
            clear e1 hlt hk r12
            go_loopw [135] (fun i wr => ∃ k : Nat, k ≤ ls.length ∧ i = .int .i64 k ∧ Below S.heap.size S wr ∧ Hid ((∀ j p, j < k → g.prods[j]? = some p → nonB g p.1 = true ∧ p.2.length ≤ 6 ∧ ∀ s ∈ p.2, symB g s = true) ∧ (g.prods.take k).Nodup)) (fun i _ => ls.length - (intOf i).toNat)
            case atStart => exact ⟨0, Nat.zero_le _, rfl, HBR0.out, Lib.hid ⟨by intro j x hj; omega, by simp⟩⟩
            case round =>
              clear HBR0
              obtain ⟨k, hk, rfl, hbr, HB⟩ := hrel
              by_cases hlt : k < ls.length
              · obtain ⟨p, hpk⟩ : ∃ p, ls[k]? = some p := ⟨_, List.getElem?_eq_getElem hlt⟩
                have gp : g.prods[k]? = some p.plain := by rw [← HP.out, List.getElem?_map, hpk]; rfl
                obtain ⟨pl, pr, pa, pcap⟩ := p
                change g.prods[k]? = some (pl, pr) at gp
                have hgm : (pl, pr) ∈ g.prods := List.mem_of_getElem? gp
                obtain ⟨b3, o3, rfl, hb3, hc3⟩ := (C3.out.below hbr).get (by intro e; have := (lays_at ls k _ hpk).1; rw [e] at this; simp at this)
                have x3 := hc3 _ _ (lays_at ls k _ hpk).1
                have x4 := hc3 _ _ (lays_at ls k _ hpk).2
                rw [← Nat.add_assoc] at x4
                have e3 : (k : Int) < ls.length := by omega
                have r10 := (hbr.cell (p := ⟨w.heap.size, 0, none⟩) sb).trans s10
                have r11 := (hbr.cell (p := ⟨w.heap.size, 1, none⟩) sb).trans s11
                have r12 := (hbr.cell (p := ⟨w.heap.size, 2, none⟩) sb).trans s12
                have HBR := Lib.hid hbr
                have HBW := Lib.hid (HSS.out.trans (hbr.mono HSS.out.size))
                have sbr : w.heap.size < wr.heap.size := Nat.lt_of_lt_of_le sb hbr.size
                have HG := Lib.hid (fun o => nonIs_any _ g pl (wr.alloc o) (GA.out.below (hbr.alloc hbr.size o)) hl2)
                have HPK := Lib.hid hpk
                have HGP := Lib.hid gp
                clear hc3 hbr hpk gp
                cases hnb : nonB g pl with
                | false =>
                  have hbad := Lib.hid (show ¬ AllOk g from fun h => by have := (h.2.2.2.1 (pl, pr) hgm).1; rw [show (pl, pr).1 = pl from rfl, hnb] at this; cases this)
                  go_wp2_with (go_at_call 49; refine (HG.out _).mono ?_; rintro e w2 ⟨rfl, hb2⟩; simp only [hnb])
                  go_ret
                  exact ⟨ret_bool (okB_false hbad.out).symm, (HBW.out.alloc HBW.out.size _).trans (hb2.mono (HBW.out.alloc HBW.out.size _).size)⟩
                | true =>
                  by_cases h6 : 6 < (pr.length : Int)
                  · have hbad := Lib.hid (show ¬ AllOk g from fun h => by have := (h.2.2.2.1 (pl, pr) hgm).2.1; rw [show (pl, pr).2 = pr from rfl] at this; omega)
                    go_wp2_with (go_at_call 49; refine (HG.out _).mono ?_; rintro e w2 ⟨rfl, hb2⟩; simp only [hnb]; have pc0 := (hb2.cell (p := ⟨wr.heap.size, 0, none⟩) (by simp)).trans (by go_simp : _ = some (.int .i64 pl)); have pc1 := (hb2.cell (p := ⟨wr.heap.size, 1, none⟩) (by simp)).trans (by go_simp : _ = some (.slice pa pr.length pcap)))
                    go_ret
                    exact ⟨ret_bool (okB_false hbad.out).symm, (HBW.out.alloc HBW.out.size _).trans (hb2.mono (HBW.out.alloc HBW.out.size _).size)⟩
                  · go_wp2_with (go_at_call 49; refine (HG.out _).mono ?_; rintro e w2 ⟨rfl, hb2⟩; simp only [hnb]; have pc0 := (hb2.cell (p := ⟨wr.heap.size, 0, none⟩) (by simp)).trans (by go_simp : _ = some (.int .i64 pl)); have pc1 := (hb2.cell (p := ⟨wr.heap.size, 1, none⟩) (by simp)).trans (by go_simp : _ = some (.slice pa pr.length pcap)))
                    have hS1 := HBR.out.alloc HBR.out.size (.cells #[.int .i64 pl, .slice pa pr.length pcap] 68)
                    have hS2 := hS1.trans (hb2.mono hS1.size)
                    have HS2 := Lib.hid hS2
                    have pbk : wr.heap.size < w2.heap.size := Nat.lt_of_lt_of_le (by simp) hb2.size
                    have HMEM := Lib.hid (List.mem_of_getElem? HPK.out)
                    have h6' : pr.length ≤ 6 := by omega
                    clear hS1 hS2 hb2 x3 x4 r10 r11 r12 HG HBW sbr
                    generalize wr.heap.size = BP at *
                    go_loopw [154] (fun i w5 => ∃ j : Nat, j ≤ pr.length ∧ i = .int .i64 j ∧ Below w2.heap.size w2 w5 ∧ Hid (∀ j' s, j' < j → pr[j']? = some s → symB g s = true)) (fun i _ => pr.length - (intOf i).toNat)
                    case atStart => exact ⟨0, Nat.zero_le _, rfl, Below.refl _ _, Lib.hid (by intro j s hj; omega)⟩
                    case round =>
                      obtain ⟨j, hj, rfl, hb5, HI⟩ := hrel
                      have hS5 := HS2.out.trans (hb5.mono HS2.out.size)
                      have t10 := (hS5.cell (p := ⟨w.heap.size, 0, none⟩) sb).trans s10
                      have t11 := (hS5.cell (p := ⟨w.heap.size, 1, none⟩) sb).trans s11
                      have t12 := (hS5.cell (p := ⟨w.heap.size, 2, none⟩) sb).trans s12
                      have tp0 := (hb5.cell (p := ⟨BP, 0, none⟩) pbk).trans pc0
                      have tp1 := (hb5.cell (p := ⟨BP, 1, none⟩) pbk).trans pc1
                      have HS5 := Lib.hid hS5
                      have HB5 := Lib.hid hb5
                      have HW5 := Lib.hid (HSS.out.trans (hS5.mono HSS.out.size))
                      clear hS5 hb5
                      by_cases hjl : j < pr.length
                      · obtain ⟨x, hx⟩ : ∃ x, pr[j]? = some x := ⟨_, List.getElem?_eq_getElem hjl⟩
                        obtain ⟨b4, o4, rfl, hb4, hc4⟩ := ((C4.out _ HMEM.out).below HS5.out).get (by unfold nums; intro e; rw [List.map_eq_nil_iff] at e; simp only at e; rw [e] at hjl; simp at hjl)
                        have x5 := hc4 j _ (nums_at hx)
                        have e5 : (j : Int) < pr.length := by omega
                        have HI5 := Lib.hid (is_any _ g x _ (GA.out.below HS5.out) hl2)
                        have HX := Lib.hid hx
                        clear hc4 hx
                        cases hsy : symB g x with
                        | false =>
                          have hbad := Lib.hid (show ¬ AllOk g from fun h => by have := (h.2.2.2.1 _ hgm).2.2 x (List.mem_of_getElem? HX.out); rw [hsy] at this; cases this)
                          go_wp2_with (go_at_call 50; refine HI5.out.mono ?_; rintro e w6 ⟨rfl, hb6⟩; simp only [hsy])
                          go_ret
                          exact ⟨ret_bool (okB_false hbad.out).symm, HW5.out.trans (hb6.mono HW5.out.size)⟩
                        | true =>
                          have HI2 : Hid (∀ j' s, j' < j + 1 → pr[j']? = some s → symB g s = true) := Lib.hid fun j' s hj' hs => by
                            by_cases h : j' = j
                            · subst h; rw [HX.out] at hs; cases hs; exact hsy
                            · exact HI.out j' s (by omega) hs
                          go_wp2_with (go_at_call 50; refine HI5.out.mono ?_; rintro e w6 ⟨rfl, hb6⟩; simp only [hsy])
                          exact ⟨⟨j + 1, by omega, by go_num, HB5.out.trans (hb6.mono HB5.out.size), HI2⟩, by simp [intOf]; omega⟩
                      · have hsyms := Lib.hid (show ∀ s ∈ pr, symB g s = true from fun s hs => by
                          obtain ⟨i, hi, ei⟩ := List.getElem_of_mem hs
                          exact HI.out i s (by omega) (by rw [List.getElem?_eq_getElem hi, ei]))
                        have e5 : ¬ (j : Int) < pr.length := by omega
                        have i1 : (0 : Int) ≤ k := by omega
                        have i2 : (k : Int) ≤ c3 := by omega
                        rename World => w5
                        have pbk5 : BP < w5.heap.size := Nat.lt_of_lt_of_le pbk HB5.out.size
                        clear HI
                        go_wp2
                        go_loopw [168] (fun i w8 => ∃ j : Nat, j ≤ k ∧ i = .int .i64 j ∧ Below w5.heap.size w5 w8 ∧ Hid (∀ j', j' < j → g.prods[j']? ≠ some (pl, pr))) (fun i _ => k - (intOf i).toNat)
                        case atStart => exact ⟨0, Nat.zero_le _, rfl, Below.refl _ _, Lib.hid (by intro j hj; omega)⟩
                        case round =>
                          obtain ⟨j, hj, rfl, hb8, HI⟩ := hrel
                          rename World => w8
                          have hS8 := HS5.out.trans (hb8.mono HS5.out.size)
                          have q0 := (hb8.cell (p := ⟨BP, 0, none⟩) pbk5).trans tp0
                          have q1 := (hb8.cell (p := ⟨BP, 1, none⟩) pbk5).trans tp1
                          have HS8 := Lib.hid hS8
                          have HB8 := Lib.hid hb8
                          have HW8 := Lib.hid (HW5.out.trans (hb8.mono HW5.out.size))
                          have pbk8 : BP < w8.heap.size := Nat.lt_of_lt_of_le pbk5 hb8.size
                          clear hS8 hb8
                          by_cases hjk : j < k
                          · obtain ⟨q, hqk⟩ : ∃ q, ls[j]? = some q := ⟨_, List.getElem?_eq_getElem (by omega)⟩
                            have gq : g.prods[j]? = some q.plain := by rw [← HP.out, List.getElem?_map, hqk]; rfl
                            obtain ⟨ql, qr, qa, qcap⟩ := q
                            change g.prods[j]? = some (ql, qr) at gq
                            obtain ⟨b6, o6, hae, hb6, hc6⟩ := (C3.out.below HS8.out).get (by intro e; have := (lays_at ls j _ hqk).1; rw [e] at this; simp at this)
                            cases hae
                            have x6 := hc6 _ _ (lays_at ls j _ hqk).1
                            have x7 := hc6 _ _ (lays_at ls j _ hqk).2
                            rw [← Nat.add_assoc] at x7
                            have e6 : (j : Int) < k := by omega
                            have hql : qr.length ≤ 1000000 := hl4 _ (List.mem_of_getElem? gq)
                            have hprl : pr.length ≤ 1000000 := by omega
                            have QC := C4.out _ (List.mem_of_getElem? hqk)
                            have PC := C4.out _ HMEM.out
                            have HRC := Lib.hid (fun o => sameRow_any qa pa qcap pcap qr pr (w8.alloc o) (QC.below (HS8.out.alloc HS8.out.size o)) (PC.below (HS8.out.alloc HS8.out.size o)) hql hprl)
                            have HGQ := Lib.hid gq
                            have HAL := Lib.hid (fun o => HW8.out.alloc HW8.out.size o)
                            have HAB := Lib.hid (fun o => HB8.out.alloc HB8.out.size o)
                            clear hc6 gq QC PC hqk
                            by_cases hall : (ql, qr) = (pl, pr)
                            · have hbad := Lib.hid (show ¬ AllOk g from fun h => not_nodupG (hall ▸ HGQ.out) HGP.out hjk h.2.2.2.2)
                              have hl1' : (ql == pl) = true := beq_iff_eq.2 (congrArg Prod.fst hall)
                              have hr1' : decide (qr = pr) = true := decide_eq_true (congrArg Prod.snd hall)
                              clear hall
                              go_wp2_with (go_at_call 51; refine (HRC.out _).mono ?_; rintro e w9 ⟨rfl, n9, rfl⟩; rw [hr1'])
                              go_ret
                              exact ⟨ret_bool (okB_false hbad.out).symm, below_drews (HAL.out _) _⟩
                            · have HI2 : Hid (∀ j', j' < j + 1 → g.prods[j']? ≠ some (pl, pr)) := Lib.hid fun j' hj' => by
                                by_cases h : j' = j
                                · subst h; rw [HGQ.out]; simpa using hall
                                · exact HI.out j' (by omega)
                              by_cases hlf : ql = pl
                              · have hl1' : (ql == pl) = true := by simp [hlf]
                                have hr1' : decide (qr = pr) = false := decide_eq_false fun e => hall (by rw [hlf, e])
                                clear hall hlf
                                go_wp2_with (go_at_call 51; refine (HRC.out _).mono ?_; rintro e w9 ⟨rfl, n9, rfl⟩; rw [hr1'])
                                exact ⟨⟨j + 1, by omega, by go_num, below_drews (HAB.out _) _, HI2⟩, by simp [intOf]; omega⟩
                              · have hl1' : (ql == pl) = false := by simpa using hlf
                                clear hall hlf
                                go_wp2
                                exact ⟨⟨j + 1, by omega, by go_num, HAB.out _, HI2⟩, by simp [intOf]; omega⟩
                          · have hnew := Lib.hid (nodup_takeG HGP.out HB.out.2 (fun j' hj' => HI.out j' (by omega)))
                            have HB2 : Hid ((∀ j p, j < k + 1 → g.prods[j]? = some p → nonB g p.1 = true ∧ p.2.length ≤ 6 ∧ ∀ s ∈ p.2, symB g s = true) ∧ (g.prods.take (k + 1)).Nodup) := Lib.hid ⟨fun j x hj hx => by
                              by_cases h : j = k
                              · subst h; rw [HGP.out] at hx; cases hx; exact ⟨hnb, h6', hsyms.out⟩
                              · exact HB.out.1 j x (by omega) hx, hnew.out⟩
                            have e6 : ¬ (j : Int) < k := by omega
                            clear HI hnew
                            go_wp2
                            exact ⟨⟨k + 1, by omega, by go_num, HS8.out, HB2⟩, by simp [intOf]; omega⟩
              · have hPs : ProdsOk g := by
                  have e : g.prods.take k = g.prods := List.take_of_length_le (by have := HPL.out; omega)
                  have h := HB.out
                  rw [e] at h
                  refine ⟨fun x hx => ?_, h.2⟩
                  obtain ⟨j, hj, ej⟩ := List.getElem_of_mem hx
                  exact h.1 j x (by have := HPL.out; omega) (by rw [List.getElem?_eq_getElem hj, ej])
                have hall := Lib.hid (okB_true (g := g) ⟨⟨⟨z1, z2⟩, ⟨z3, z4⟩, z5, z6⟩, HT.out, HNS.out, hPs⟩)
                have e1 : ¬ (k : Int) < ls.length := by omega
                clear hPs HB
                go_wp2
                go_ret
                exact ⟨ret_bool hall.out.symm, HSS.out.trans (hbr.mono HSS.out.size)⟩
  · have hbad := Lib.hid (show okB g = false from okB_false fun h => hz h.1)
    have HS := Lib.hid hS
    unfold SizesOk at hz
    rw [← hpl] at hz
    have hor : g.terms.length < 1 ∨ (1 ≤ g.terms.length ∧ 8 < g.terms.length) ∨ ((1 ≤ g.terms.length ∧ g.terms.length ≤ 8) ∧ g.nons.length < 1) ∨ ((1 ≤ g.terms.length ∧ g.terms.length ≤ 8) ∧ 1 ≤ g.nons.length ∧ 8 < g.nons.length) ∨
        ((1 ≤ g.terms.length ∧ g.terms.length ≤ 8) ∧ (1 ≤ g.nons.length ∧ g.nons.length ≤ 8) ∧ ls.length < 1) ∨ ((1 ≤ g.terms.length ∧ g.terms.length ≤ 8) ∧ (1 ≤ g.nons.length ∧ g.nons.length ≤ 8) ∧ 1 ≤ ls.length ∧ 24 < ls.length) := by omega
    clear hz hS h1 h2 h3 h4 hg' hpl hp
    rcases hor with q | ⟨q, q'⟩ | ⟨⟨q, q'⟩, r⟩ | ⟨⟨q, q'⟩, r, r'⟩ | ⟨⟨q, q'⟩, ⟨r, r'⟩, t⟩ | ⟨⟨q, q'⟩, ⟨r, r'⟩, t, t'⟩
    all_goals
      go_enter Tryd.func14, Tryd.ntmps14
      go_wp2
      go_ret
      exact ⟨ret_bool hbad.out.symm, HS.out _⟩

end Go.Proofs.YtejjdfmobiegdaaDoor

namespace Go.Proofs.YtejjdfmobiegdaaDoor
open Doc

theorem nonB_iff (g : Gr) (s : Int) : nonB g s = true ↔ 100 ≤ s ∧ s < 100 + (g.nons.length : Int) := by
  unfold nonB; simp
theorem symB_iff (g : Gr) (s : Int) : symB g s = true ↔ symOk g.terms.length g.nons.length s := by
  unfold symB symOk
  rw [Bool.or_eq_true, nonB_iff]
  simp
theorem allOk_iff (g : Gr) : AllOk g ↔ CheckG g := by
  unfold AllOk SizesOk TermsOk NonsOk ProdsOk
  constructor
  · rintro ⟨⟨⟨a1, a2⟩, ⟨a3, a4⟩, a5, a6⟩, ⟨b1, b2⟩, ⟨c1, c2, c3⟩, d1, d2⟩
    exact ⟨a1, a2, a3, a4, a5, a6, b1, b2, c1, c2, c3, fun p hp => ⟨(nonB_iff g p.1).1 (d1 p hp).1, (d1 p hp).2.1, fun s hs => (symB_iff g s).1 ((d1 p hp).2.2 s hs)⟩, d2⟩
  · intro h
    exact ⟨⟨⟨h.t1, h.t8⟩, ⟨h.n1, h.n8⟩, h.p1, h.p24⟩, ⟨h.tk, h.tn⟩, ⟨h.nk, h.nn, h.some_⟩, fun p hp => ⟨(nonB_iff g p.1).2 (h.pv p hp).1, (h.pv p hp).2.1, fun s hs => (symB_iff g s).2 ((h.pv p hp).2.2 s hs)⟩, h.pn⟩

end Go.Proofs.YtejjdfmobiegdaaDoor

namespace Go.Proofs.YtejjdfmobiegdaaDoor
open Go.RowKit
open Doc

/-- A name that begins with one of these. -/
def nameIn (f l : Nat) (x : List UInt8) : Bool := nameOk x && (match x with | [] => false | c :: _ => decide (f ≤ c.toNat) && decide (c.toNat ≤ l))
def NamesP (f l : Nat) (xs : List (List UInt8)) : Prop := 1 ≤ xs.length ∧ xs.length ≤ 8 ∧ (∀ x ∈ xs, nameIn f l x = true) ∧ xs.Nodup
instance (f l : Nat) (xs : List (List UInt8)) : Decidable (NamesP f l xs) := by unfold NamesP; exact inferInstance

theorem nameIn_cons (f l : Nat) (c : UInt8) (t : List UInt8) : nameIn f l (c :: t) = (nameOk (c :: t) && (decide (f ≤ c.toNat) && decide (c.toNat ≤ l))) := rfl

theorem cells_take {w : World} {a : Option Addr} {l : List (List UInt8)} (h : Cells w a (strs l)) (k : Nat) : Cells w a (strs (l.take k)) := by
  rcases h with h | ⟨b, off, ha, hlt, hc⟩
  · left
    unfold strs at h ⊢
    rw [List.map_eq_nil_iff] at h ⊢
    simp [h]
  · refine .inr ⟨b, off, ha, hlt, fun j u hj => hc j u ?_⟩
    unfold strs at hj ⊢
    rw [List.getElem?_map, List.getElem?_take] at hj
    split at hj
    · rw [List.getElem?_map]; exact hj
    · cases hj

set_option maxHeartbeats 2000000 in
theorem namesHold_any (a : Option Addr) (cap : Nat) (xs : List (List UInt8)) (f l : Nat) (w : World) (h : Cells w a (strs xs)) (hl : xs.length ≤ 1000000) (hcap : xs.length ≤ cap) (hsz : ∀ x ∈ xs, x.length ≤ maxLen) :
    Calls Tryd.prog 79 #[.slice a xs.length cap, .int .i64 8, .int .u8 f, .int .u8 l] w fun e w' => e = .returned (.bool (decide (NamesP f l xs))) ∧ w' = w := by
  by_cases hz : 1 ≤ xs.length ∧ xs.length ≤ 8
  · obtain ⟨hz1, hz2⟩ := hz
    have HH := Lib.hid h
    have HSZ := Lib.hid hsz
    have HZ := Lib.hid (And.intro hz1 hz2)
    clear h hsz
    go_enter Tryd.func79, Tryd.ntmps79
    go_wp2
    go_loop [22] (fun i => ∃ k : Nat, k ≤ xs.length ∧ i = .int .i64 k ∧ Hid ((∀ j x, j < k → xs[j]? = some x → nameIn f l x = true) ∧ (xs.take k).Nodup)) (fun i => xs.length - (intOf i).toNat)
    case atStart => exact ⟨0, Nat.zero_le _, rfl, Lib.hid ⟨by intro j x hj; omega, by simp⟩⟩
    case round =>
      obtain ⟨k, hk, rfl, HB⟩ := hrel
      by_cases hlt : k < xs.length
      · obtain ⟨x, hx⟩ : ∃ x, xs[k]? = some x := ⟨_, List.getElem?_eq_getElem hlt⟩
        have hxm := List.mem_of_getElem? hx
        obtain ⟨b, off, rfl, hb, hc⟩ := HH.out.get (by unfold strs; intro e; rw [List.map_eq_nil_iff] at e; rw [e] at hlt; simp at hlt)
        have c0 := hc k _ (strs_at hx)
        have e1 : (k : Int) < xs.length := by omega
        have hxsz : (ByteArray.mk x.toArray).size ≤ maxLen := HSZ.out x hxm
        have HNA := Lib.hid (name_any ⟨x.toArray⟩ w hxsz)
        have i1 : (k : Int) ≤ cap := by omega
        have htl : (xs.take k).length = k := by rw [List.length_take]; omega
        have hca := contains_any (some ⟨b, off, none⟩) cap (xs.take k) x w (cells_take HH.out k) (by omega)
        rw [htl] at hca
        have HCA := Lib.hid hca
        have HX := Lib.hid hx
        have HXM := Lib.hid hxm
        clear hc hca hx hxm htl
        cases hN : nameOk x with
        | false =>
          have HR := Lib.hid (show decide (NamesP f l xs) = false by
            rw [decide_eq_false_iff_not]
            intro h
            have := h.2.2.1 x HXM.out
            unfold nameIn at this
            rw [hN] at this
            cases this)
          go_wp2_with (go_at_call 105; refine HNA.out.mono ?_; rintro e w2 ⟨rfl, rfl⟩; simp only [hN])
          go_ret
          exact ⟨ret_bool HR.out.symm, rfl⟩
        | true =>
          obtain ⟨c, t, rfl⟩ : ∃ c t, x = c :: t := by
            cases x with
            | nil => cases hN
            | cons c t => exact ⟨c, t, rfl⟩
          have hp : 0 < (ByteArray.mk (c :: t).toArray).size := Nat.zero_lt_succ _
          have hcc : ∀ h, (ByteArray.mk (c :: t).toArray)[0]'h = c := fun _ => rfl
          have hin : nameIn f l (c :: t) = (decide (f ≤ c.toNat) && decide (c.toNat ≤ l)) := by rw [nameIn_cons, hN]; rfl
          have HIN := Lib.hid hin
          clear hin
          by_cases hf1 : f ≤ c.toNat
          · by_cases hl1 : c.toNat ≤ l
            · cases hi : (idx (xs.take k) (c :: t)).isSome with
              | true =>
                have HR := Lib.hid (show decide (NamesP f l xs) = false by
                  rw [decide_eq_false_iff_not]
                  intro h
                  cases hj : idx (xs.take k) (c :: t) with
                  | none => rw [hj] at hi; cases hi
                  | some j =>
                    have h1 := idx_at' hj
                    have hjk : j < k := by
                      have := (List.getElem?_eq_some_iff.1 h1).1
                      rw [List.length_take] at this; omega
                    rw [List.getElem?_take_of_lt hjk] at h1
                    exact not_nodup h1 HX.out hjk h.2.2.2)
                have hf2 : ¬ (c.toNat : Int) < f := by omega
                have hl2 : ¬ (l : Int) < c.toNat := by omega
                go_wp2_with (first | (go_at_call 105; refine HNA.out.mono ?_; rintro e w2 ⟨rfl, rfl⟩; simp only [hN]) | (go_at_call 106; refine HCA.out.mono ?_; rintro e w2 ⟨rfl, rfl⟩; simp only [hi]))
                go_ret
                exact ⟨ret_bool HR.out.symm, rfl⟩
              | false =>
                have HB2 : Hid ((∀ j x, j < k + 1 → xs[j]? = some x → nameIn f l x = true) ∧ (xs.take (k + 1)).Nodup) := Lib.hid ⟨fun j x hj hx => by
                  by_cases h : j = k
                  · subst h; rw [HX.out] at hx; cases hx; rw [HIN.out, decide_eq_true hf1, decide_eq_true hl1]; rfl
                  · exact HB.out.1 j x (by omega) hx, nodup_take HX.out HB.out.2 fun j hj hjx => by
                    have hn : idx (xs.take k) (c :: t) = none := by
                      cases hj : idx (xs.take k) (c :: t) with
                      | none => rfl
                      | some j => rw [hj] at hi; cases hi
                    refine idx_none hn (List.mem_of_getElem? (i := j) ?_)
                    rw [List.getElem?_take_of_lt hj]; exact hjx⟩
                have hf2 : ¬ (c.toNat : Int) < f := by omega
                have hl2 : ¬ (l : Int) < c.toNat := by omega
                go_wp2_with (first | (go_at_call 105; refine HNA.out.mono ?_; rintro e w2 ⟨rfl, rfl⟩; simp only [hN]) | (go_at_call 106; refine HCA.out.mono ?_; rintro e w2 ⟨rfl, rfl⟩; simp only [hi]))
                exact ⟨⟨k + 1, by omega, by go_num, HB2⟩, by simp [intOf]; omega⟩
            · have HR := Lib.hid (show decide (NamesP f l xs) = false by
                rw [decide_eq_false_iff_not]
                intro h
                have := h.2.2.1 _ HXM.out
                rw [HIN.out, decide_eq_false hl1, Bool.and_false] at this
                cases this)
              have hf2 : ¬ (c.toNat : Int) < f := by omega
              have hl2 : (l : Int) < c.toNat := by omega
              go_wp2_with (first | (go_at_call 105; refine HNA.out.mono ?_; rintro e w2 ⟨rfl, rfl⟩; simp only [hN]) | (go_at_call 106; refine HCA.out.mono ?_; rintro e w2 ⟨rfl, rfl⟩; simp only [hi]))
              go_ret
              exact ⟨ret_bool HR.out.symm, rfl⟩
          · have HR := Lib.hid (show decide (NamesP f l xs) = false by
              rw [decide_eq_false_iff_not]
              intro h
              have := h.2.2.1 _ HXM.out
              rw [HIN.out, decide_eq_false hf1] at this
              cases this)
            have hf2 : (c.toNat : Int) < f := by omega
            go_wp2_with (go_at_call 105; refine HNA.out.mono ?_; rintro e w2 ⟨rfl, rfl⟩; simp only [hN])
            go_ret
            exact ⟨ret_bool HR.out.symm, rfl⟩
      · have hall : NamesP f l xs := by
          have e : xs.take k = xs := List.take_of_length_le (by omega)
          have hb := HB.out
          rw [e] at hb
          refine ⟨HZ.out.1, HZ.out.2, fun x hx => ?_, hb.2⟩
          obtain ⟨j, hj, ej⟩ := List.getElem_of_mem hx
          exact hb.1 j x (by omega) (by rw [List.getElem?_eq_getElem hj, ej])
        have HR := Lib.hid (show decide (NamesP f l xs) = true from decide_eq_true hall)
        have e1 : ¬ (k : Int) < xs.length := by omega
        clear hall HB
        go_wp2
        go_ret
        exact ⟨ret_bool HR.out.symm, rfl⟩
  · have HR := Lib.hid (show decide (NamesP f l xs) = false by
      rw [decide_eq_false_iff_not]
      intro h
      exact hz ⟨h.1, h.2.1⟩)
    have hor : xs.length < 1 ∨ (1 ≤ xs.length ∧ 8 < xs.length) := by omega
    clear hz h hsz
    rcases hor with q | ⟨q, q'⟩
    all_goals
      go_enter Tryd.func79, Tryd.ntmps79
      go_wp2
      go_ret
      exact ⟨ret_bool HR.out.symm, rfl⟩

def maxI : Int := 9223372036854775807
/-- A production that may be. -/
def prodB (g : Gr) (p : Int × List Int) : Bool := nonB g p.1 && (decide (p.2.length ≤ 6) && p.2.all fun s => symB g s)

set_option maxHeartbeats 2000000 in
theorem prodHolds_any (v : Value) (g : Gr) (p : Lay) (w : World) (hg : GramAt w v g) (hp : Cells w p.addr (nums p.right)) (hl : p.right.length ≤ 1000000) (hs : p.left ≤ maxI ∧ ∀ s ∈ p.right, s ≤ maxI) :
    Calls Tryd.prog 107 #[v, prodV p] w fun e w' => e = .returned (.bool (prodB g p.plain)) ∧ Below w.heap.size w w' := by
  have hg0 := hg
  obtain ⟨a1, a2, a3, c1, c2, c3, ls, rfl, _, _, _, _, _, _⟩ := hg
  obtain ⟨pl, pr, pa, pc⟩ := p
  unfold prodV Lay.plain
  unfold maxI at hs
  simp only at *
  obtain ⟨hs1, hs2⟩ := hs
  have hS : Below w.heap.size w ((w.alloc (.cells #[.slice a1 g.terms.length c1, .slice a2 g.nons.length c2, .slice a3 ls.length c3] 29)).alloc (.cells #[.int .i64 pl, .slice pa pr.length pc] 68)) := ((Below.refl _ _).alloc (Nat.le_refl _) _).alloc (by simp) _
  have f0 : ((w.alloc (.cells #[.slice a1 g.terms.length c1, .slice a2 g.nons.length c2, .slice a3 ls.length c3] 29)).alloc (.cells #[.int .i64 pl, .slice pa pr.length pc] 68)).heap[w.heap.size]? = some (.cells #[.slice a1 g.terms.length c1, .slice a2 g.nons.length c2, .slice a3 ls.length c3] 29) := by rw [Below.heap_alloc _ _ _ (by simp)]; exact heap_alloc_new w _
  have f1 : ((w.alloc (.cells #[.slice a1 g.terms.length c1, .slice a2 g.nons.length c2, .slice a3 ls.length c3] 29)).alloc (.cells #[.int .i64 pl, .slice pa pr.length pc] 68)).heap[w.heap.size + 1]? = some (.cells #[.int .i64 pl, .slice pa pr.length pc] 68) := by have := heap_alloc_new (w.alloc (.cells #[.slice a1 g.terms.length c1, .slice a2 g.nons.length c2, .slice a3 ls.length c3] 29)) (.cells #[.int .i64 pl, .slice pa pr.length pc] 68); simpa using this
  have HG := Lib.hid (hg0.below hS)
  have HP := Lib.hid (hp.below hS)
  have HS := Lib.hid hS
  have HS2 := Lib.hid hs2
  have HF0 := Lib.hid f0
  have HF1 := Lib.hid f1
  have HNON := Lib.hid (isNon_any _ g pl _ (hg0.below hS) hs1)
  clear hg0 hp hS hs2 f0 f1
  go_enter Tryd.func107, Tryd.ntmps107
  cases hn : nonB g pl with
  | false =>
    go_wp2_with (go_at_call 130; refine HNON.out.mono ?_; rintro e w2 ⟨rfl, hb2⟩; simp only [hn])
    go_ret
    exact ⟨ret_bool (by unfold prodB; rw [hn]; rfl), HS.out.trans (hb2.mono HS.out.size)⟩
  | true =>
    by_cases h6 : pr.length ≤ 6
    · have h6b : ¬ (6 : Int) < pr.length := by omega
      go_wp2_with (go_at_call 130; refine HNON.out.mono ?_; rintro e w2 ⟨rfl, hb2⟩; simp only [hn]; have f10 := (hb2.cell (p := ⟨w.heap.size + 1, 1, none⟩) (heap_lt HF1.out)).trans (blk_cell (i := 1) HF1.out rfl).1)
      have hp2 := HP.out.below hb2
      have hbw := HS.out.trans (hb2.mono HS.out.size)
      have hg2 := (hb2.block _ (heap_lt HF0.out)).trans HF0.out
      have hgr2 := HG.out.below hb2
      have HP2 := Lib.hid hp2
      have HBW := Lib.hid hbw
      have HG2 := Lib.hid hg2
      have HGR := Lib.hid hgr2
      have H6 := Lib.hid h6
      clear hp2 hbw hg2 hgr2 hb2 f10 HNON HP HG HF0 HF1 HS h6
      go_loopw [21] (fun i wr => ∃ k : Nat, k ≤ pr.length ∧ i = .int .i64 k ∧ Below w2.heap.size w2 wr ∧ Hid (∀ j s, j < k → pr[j]? = some s → symB g s = true)) (fun i _ => pr.length - (intOf i).toNat)
      case atStart => exact ⟨0, Nat.zero_le _, rfl, Below.refl _ _, Lib.hid (by intro j s hj; omega)⟩
      case round =>
        obtain ⟨k, hk, rfl, hbe, HB⟩ := hrel
        by_cases hlt : k < pr.length
        · obtain ⟨x, hx⟩ : ∃ x, pr[k]? = some x := ⟨_, List.getElem?_eq_getElem hlt⟩
          have hxm := List.mem_of_getElem? hx
          obtain ⟨b, off, rfl, hb, hc⟩ := (HP2.out.below hbe).get (by unfold nums; intro e; rw [List.map_eq_nil_iff] at e; rw [e] at hlt; simp at hlt)
          have x0 := hc k _ (nums_at hx)
          have e1 : (k : Int) < pr.length := by omega
          have hgq := (hbe.block _ (heap_lt HG2.out)).trans HG2.out
          have g0 := (blk_cell (i := 0) hgq rfl).1
          have g1 := (blk_cell (i := 1) hgq rfl).1
          have g2 := (blk_cell (i := 2) hgq rfl).1
          have hit := isTerm_any _ g x wr (HGR.out.below hbe)
          have hin := fun W (hW : Below wr.heap.size wr W) => isNon_any _ g x W ((HGR.out.below hbe).below hW) (HS2.out x hxm)
          have HIT := Lib.hid hit
          have HIN := Lib.hid hin
          have HX := Lib.hid hx
          have HXM := Lib.hid hxm
          have HGQ := Lib.hid hgq
          have HBE := Lib.hid hbe
          have hsy : symB g x = (termB g x || nonB g x) := rfl
          have HSY := Lib.hid hsy
          clear hit hin hc hx hxm hgq hbe hsy
          cases ht : termB g x with
          | true =>
            have HB2 : Hid (∀ j s, j < k + 1 → pr[j]? = some s → symB g s = true) := Lib.hid fun j s hj hs => by
              by_cases h : j = k
              · subst h; rw [HX.out] at hs; cases hs; rw [HSY.out, ht]; rfl
              · exact HB.out j s (by omega) hs
            go_wp2_with (go_at_call 131; refine HIT.out.mono ?_; rintro e w3 ⟨rfl, hb3⟩; simp only [ht])
            go_roundw
            case rel => exact ⟨k + 1, by omega, by go_num, HBE.out.trans (hb3.mono HBE.out.size), HB2⟩
            case measure => simp [intOf]; omega
          | false =>
            cases hn2 : nonB g x with
            | true =>
              have HB2 : Hid (∀ j s, j < k + 1 → pr[j]? = some s → symB g s = true) := Lib.hid fun j s hj hs => by
                by_cases h : j = k
                · subst h; rw [HX.out] at hs; cases hs; rw [HSY.out, ht, hn2]; rfl
                · exact HB.out j s (by omega) hs
              go_wp2_with (first
                | (go_at_call 131; refine HIT.out.mono ?_; rintro e w3 ⟨rfl, hb3⟩; simp only [ht]
                   have hgq3 := (hb3.block _ (heap_lt HGQ.out)).trans HGQ.out
                   have g03 := (blk_cell (i := 0) hgq3 rfl).1
                   have g13 := (blk_cell (i := 1) hgq3 rfl).1
                   have g23 := (blk_cell (i := 2) hgq3 rfl).1)
                | (go_at_call 130; refine (HIN.out _ hb3).mono ?_; rintro e w4 ⟨rfl, hb4⟩; simp only [hn2]))
              go_roundw
              case rel => exact ⟨k + 1, by omega, by go_num, (HBE.out.trans (hb3.mono HBE.out.size)).trans (hb4.mono (Nat.le_trans HBE.out.size hb3.size)), HB2⟩
              case measure => simp [intOf]; omega
            | false =>
              have HR := Lib.hid (show prodB g (pl, pr) = false by
                unfold prodB
                rw [Bool.and_eq_false_iff]
                right
                rw [Bool.and_eq_false_iff]
                right
                rw [List.all_eq_false]
                exact ⟨x, HXM.out, by rw [HSY.out, ht, hn2]; simp⟩)
              go_wp2_with (first
                | (go_at_call 131; refine HIT.out.mono ?_; rintro e w3 ⟨rfl, hb3⟩; simp only [ht]
                   have hgq3 := (hb3.block _ (heap_lt HGQ.out)).trans HGQ.out
                   have g03 := (blk_cell (i := 0) hgq3 rfl).1
                   have g13 := (blk_cell (i := 1) hgq3 rfl).1
                   have g23 := (blk_cell (i := 2) hgq3 rfl).1)
                | (go_at_call 130; refine (HIN.out _ hb3).mono ?_; rintro e w4 ⟨rfl, hb4⟩; simp only [hn2]))
              go_ret
              have h1 := HBE.out.trans (hb3.mono HBE.out.size)
              have h2 := h1.trans (hb4.mono h1.size)
              exact ⟨ret_bool HR.out.symm, HBW.out.trans (h2.mono HBW.out.size)⟩
        · have HR := Lib.hid (show prodB g (pl, pr) = true by
            unfold prodB
            simp only
            rw [hn, decide_eq_true H6.out, Bool.true_and, Bool.true_and, List.all_eq_true]
            intro s hs
            obtain ⟨j, hj, ej⟩ := List.getElem_of_mem hs
            exact HB.out j s (by omega) (by rw [List.getElem?_eq_getElem hj, ej]))
          have e1 : ¬ (k : Int) < pr.length := by omega
          clear HB
          go_wp2
          go_ret
          exact ⟨ret_bool HR.out.symm, HBW.out.trans (hbe.mono HBW.out.size)⟩
    · have h6b : (6 : Int) < pr.length := by omega
      go_wp2_with (go_at_call 130; refine HNON.out.mono ?_; rintro e w2 ⟨rfl, hb2⟩; simp only [hn]; have f10 := (hb2.cell (p := ⟨w.heap.size + 1, 1, none⟩) (heap_lt HF1.out)).trans (blk_cell (i := 1) HF1.out rfl).1)
      go_ret
      exact ⟨ret_bool (by unfold prodB; simp only; rw [hn, decide_eq_false h6]; rfl), HS.out.trans (hb2.mono HS.out.size)⟩

end Go.Proofs.YtejjdfmobiegdaaDoor

namespace Go.Proofs.YtejjdfmobiegdaaDoor
open Go.RowKit
open Doc

def PHolds (g : Gr) : Prop := 1 ≤ g.prods.length ∧ g.prods.length ≤ 24 ∧ (∀ p ∈ g.prods, prodB g p = true) ∧ g.prods.Nodup ∧ ∀ i, i < g.nons.length → ∃ p ∈ g.prods, p.1 = ((100 + i : Nat) : Int)
instance (g : Gr) : Decidable (PHolds g) := by unfold PHolds; exact inferInstance

def SmallG (g : Gr) : Prop := ∀ p ∈ g.prods, p.1 ≤ maxI ∧ ∀ s ∈ p.2, s ≤ maxI

theorem lays_append (a b : List Lay) : lays (a ++ b) = lays a ++ lays b := by simp [lays]

set_option maxRecDepth 100000 in
set_option maxHeartbeats 8000000 in
theorem prodsHold_any (v : Value) (g : Gr) (w : World) (hg : GramAt w v g) (hf : Fits g) (hs : SmallG g) :
    Calls Tryd.prog 80 #[v] w fun e w' => e = .returned (.bool (decide (PHolds g))) ∧ Below w.heap.size w w' := by
  have hg0 := hg
  obtain ⟨a1, a2, a3, c1, c2, c3, ls, rfl, hp, k1, k2, k3, k4, k5, k6, k7⟩ := hg
  have hpl : ls.length = g.prods.length := by rw [← hp, List.length_map]
  have hll : ls.length ≤ 1000000 := by have := hf.2.2.1; omega
  have hS : Below w.heap.size w (w.alloc (.cells #[.slice a1 g.terms.length c1, .slice a2 g.nons.length c2, .slice a3 ls.length c3] 29)) := (Below.refl _ _).alloc (Nat.le_refl _) _
  have f0 := heap_alloc_new w (.cells #[.slice a1 g.terms.length c1, .slice a2 g.nons.length c2, .slice a3 ls.length c3] 29)
  have HP := Lib.hid hp
  have HPL := Lib.hid hpl
  have HF := Lib.hid hf
  have HSM := Lib.hid hs
  have HG := Lib.hid (hg0.below hS)
  have H3 := Lib.hid (k3.below hS)
  have H4 := Lib.hid fun q (hq : q ∈ ls) => (k4 q hq).below hS
  have HS := Lib.hid hS
  have HF0 := Lib.hid f0
  have hn1 : g.nons.length ≤ 1000000 := hf.2.1
  clear hg0 hp hpl k1 k2 k3 k4 hS f0 hf hs
  by_cases hz : 1 ≤ ls.length ∧ ls.length ≤ 24
  · obtain ⟨z1, z2⟩ := hz
    have HZ := Lib.hid (And.intro z1 z2)
    go_enter Tryd.func80, Tryd.ntmps80
    go_wp2
    generalize w.alloc (.cells #[.slice a1 g.terms.length c1, .slice a2 g.nons.length c2, .slice a3 ls.length c3] 29) = S at *
    go_loopw [19] (fun i wr => ∃ k : Nat, k ≤ ls.length ∧ i = .int .i64 k ∧ Below S.heap.size S wr ∧ Hid ((∀ j p, j < k → g.prods[j]? = some p → prodB g p = true) ∧ (g.prods.take k).Nodup)) (fun i _ => ls.length - (intOf i).toNat)
    case atStart => exact ⟨0, Nat.zero_le _, rfl, Below.refl _ _, Lib.hid ⟨by intro j p hj; omega, by simp⟩⟩
    case round =>
      obtain ⟨k, hk, rfl, hbe, HB⟩ := hrel
      by_cases hlt : k < ls.length
      · obtain ⟨p, hpk⟩ : ∃ p, ls[k]? = some p := ⟨_, List.getElem?_eq_getElem hlt⟩
        have hpm := List.mem_of_getElem? hpk
        have gp : g.prods[k]? = some p.plain := by rw [← HP.out, List.getElem?_map, hpk]; rfl
        have hgm : p.plain ∈ g.prods := List.mem_of_getElem? gp
        obtain ⟨b, off, rfl, hb, hc⟩ := (H3.out.below hbe).get (by intro e; have := (lays_at ls k p hpk).1; rw [e] at this; simp at this)
        have x0 := hc _ _ (lays_at ls k p hpk).1
        have x1 := hc _ _ (lays_at ls k p hpk).2
        rw [← Nat.add_assoc] at x1
        have e1 : (k : Int) < ls.length := by omega
        have i1 : (k : Int) ≤ c3 := by omega
        have hph := fun W (hW : Below wr.heap.size wr W) => prodHolds_any _ g p W ((HG.out.below hbe).below hW) (((H4.out p hpm).below hbe).below hW) (HF.out.2.2.2 _ hgm) (HSM.out _ hgm)
        have htl : (ls.take k).length = k := by rw [List.length_take]; omega
        have hst := fun W (hW : Below wr.heap.size wr W) => stands_any (some ⟨b, off, none⟩) c3 (ls.take k) p W (by
            rcases ((H3.out.below hbe).below hW) with h | ⟨b', o', he, hl', hc'⟩
            · exfalso
              have := (lays_at ls k p hpk).1; rw [h] at this; simp at this
            · cases he
              refine .inr ⟨_, _, rfl, hl', fun j u hj => hc' j u ?_⟩
              have : (lays ls)[j]? = (lays (ls.take k) ++ lays (ls.drop k))[j]? := by rw [← lays_append, List.take_append_drop]
              rw [this, List.getElem?_append_left (List.getElem?_eq_some_iff.1 hj).1]
              exact hj) (by omega) (((H4.out p hpm).below hbe).below hW) (HF.out.2.2.2 _ hgm)
          (fun q hq => ⟨((H4.out q (List.mem_of_mem_take hq)).below hbe).below hW, HF.out.2.2.2 q.plain (HP.out ▸ List.mem_map_of_mem (List.mem_of_mem_take hq))⟩)
        rw [htl] at hst
        obtain ⟨pl, pr, pa, pc⟩ := p
        unfold prodV Lay.plain at hph hst
        unfold Lay.plain at gp hgm
        simp only at hph hst gp hgm x0 x1
        have hal : ∀ o, Below wr.heap.size wr (wr.alloc o) := fun o => (Below.refl _ _).alloc (Nat.le_refl _) o
        have hgq := (hbe.block _ (heap_lt HF0.out)).trans HF0.out
        have hgq1 := ((hal (.cells #[.int .i64 pl, .slice pa pr.length pc] 68)).block _ (heap_lt hgq)).trans hgq
        have hpq1 := heap_alloc_new wr (.cells #[.int .i64 pl, .slice pa pr.length pc] 68)
        have HPH := Lib.hid (hph _ ((hal (.cells #[.int .i64 pl, .slice pa pr.length pc] 68)).drew))
        have HST := Lib.hid fun W (hW : Below (wr.alloc (.cells #[.int .i64 pl, .slice pa pr.length pc] 68)).drew.heap.size (wr.alloc (.cells #[.int .i64 pl, .slice pa pr.length pc] 68)).drew W) => hst W ((hal (.cells #[.int .i64 pl, .slice pa pr.length pc] 68)).drew.trans (hW.mono (by simp)))
        have HGP := Lib.hid gp
        have HGM := Lib.hid hgm
        have HAL := Lib.hid (hbe.trans ((hal (.cells #[.int .i64 pl, .slice pa pr.length pc] 68)).mono hbe.size))
        have HG1 := Lib.hid hgq1
        have HP1 := Lib.hid hpq1
        clear hph hst gp hgm hal hgq hgq1 hpq1 hc htl hpk hpm hbe
        go_wp2
        have g0 := (blk_cell (i := 0) HG1.out rfl).1
        have g1 := (blk_cell (i := 1) HG1.out rfl).1
        have g2 := (blk_cell (i := 2) HG1.out rfl).1
        have p0 := (blk_cell (i := 0) HP1.out rfl).1
        have p1 := (blk_cell (i := 1) HP1.out rfl).1
        generalize wr.alloc (.cells #[.int .i64 pl, .slice pa pr.length pc] 68) = W1 at *
        generalize wr.heap.size = B4 at *
        clear x0 x1 hb
        cases hpb : prodB g (pl, pr) with
        | false =>
          have HR := Lib.hid (show decide (PHolds g) = false by
            rw [decide_eq_false_iff_not]
            intro h
            have := h.2.2.1 _ HGM.out
            rw [hpb] at this; cases this)
          rw [hpb] at HPH
          first
            | (go_region_with (go_at_call 107; with_reducible refine HPH.out.mono ?_
                               rintro e w3 ⟨rfl, hb3⟩))
            | fail
          all_goals
            go_wp2
            go_ret
            have h1 := HAL.out.drew.trans (hb3.mono HAL.out.size)
            exact ⟨ret_bool HR.out.symm, HS.out.trans (h1.mono HS.out.size)⟩
        | true =>
          rw [hpb] at HPH
          cases hsb : (ls.take k).any fun q => decide ((pl, pr) = (q.left, q.right)) with
          | true =>
            have HR := Lib.hid (show decide (PHolds g) = false by
              rw [decide_eq_false_iff_not]
              intro h
              rw [List.any_eq_true] at hsb
              obtain ⟨q, hq, he⟩ := hsb
              obtain ⟨j, hj, ej⟩ := List.getElem_of_mem hq
              rw [List.length_take] at hj
              rw [List.getElem_take] at ej
              have h1 : g.prods[j]? = some (pl, pr) := by
                rw [← HP.out, List.getElem?_map, List.getElem?_eq_getElem (by omega), ej, of_decide_eq_true he]; rfl
              exact not_nodupG h1 HGP.out (by omega) h.2.2.2.1)
            simp only [hsb] at HST
            first
              | (go_region_with (first
                  | (go_at_call 107; with_reducible refine HPH.out.mono ?_
                     rintro e w3 ⟨rfl, hb3⟩
                     have hg3 := (hb3.block _ (heap_lt HG1.out)).trans HG1.out
                     have hp3 := (hb3.block _ (heap_lt HP1.out)).trans HP1.out
                     have g23 := (blk_cell (i := 2) hg3 rfl).1
                     have p03 := (blk_cell (i := 0) hp3 rfl).1
                     have p13 := (blk_cell (i := 1) hp3 rfl).1)
                  | (go_at_call 108; with_reducible refine (HST.out _ hb3).mono ?_
                     rintro e w4 ⟨rfl, hb4⟩)))
              | fail
            all_goals
              go_wp2
              go_ret
              have h1 := HAL.out.drew.trans (hb3.mono HAL.out.size)
              have h2 := h1.trans (hb4.mono h1.size)
              exact ⟨ret_bool HR.out.symm, HS.out.trans (h2.mono HS.out.size)⟩
          | false =>
            have HB2 : Hid ((∀ j p, j < k + 1 → g.prods[j]? = some p → prodB g p = true) ∧ (g.prods.take (k + 1)).Nodup) := Lib.hid ⟨fun j x hj hx => by
              by_cases h : j = k
              · subst h; rw [HGP.out] at hx; cases hx; exact hpb
              · exact HB.out.1 j x (by omega) hx, nodup_takeG HGP.out HB.out.2 fun j hj hjx => by
                rw [List.any_eq_false] at hsb
                rw [← HP.out, List.getElem?_map] at hjx
                cases hq : ls[j]? with
                | none => rw [hq] at hjx; cases hjx
                | some q =>
                  rw [hq] at hjx
                  have hm : q ∈ ls.take k := List.mem_of_getElem? (i := j) (by rw [List.getElem?_take_of_lt hj]; exact hq)
                  exact hsb q hm (decide_eq_true (Option.some.inj hjx).symm)⟩
            simp only [hsb] at HST
            first
              | (go_region_with (first
                  | (go_at_call 107; with_reducible refine HPH.out.mono ?_
                     rintro e w3 ⟨rfl, hb3⟩
                     have hg3 := (hb3.block _ (heap_lt HG1.out)).trans HG1.out
                     have hp3 := (hb3.block _ (heap_lt HP1.out)).trans HP1.out
                     have g23 := (blk_cell (i := 2) hg3 rfl).1
                     have p03 := (blk_cell (i := 0) hp3 rfl).1
                     have p13 := (blk_cell (i := 1) hp3 rfl).1)
                  | (go_at_call 108; with_reducible refine (HST.out _ hb3).mono ?_
                     rintro e w4 ⟨rfl, hb4⟩)))
              | fail
            all_goals
              have h1 := HAL.out.drew.trans (hb3.mono HAL.out.size)
              have h2 := h1.trans (hb4.mono h1.size)
              go_wp2
              go_roundw
              case rel => exact ⟨k + 1, by omega, by go_num, h2, HB2⟩
              case measure => simp [intOf]; omega
      · have hAll := Lib.hid (show (∀ p ∈ g.prods, prodB g p = true) ∧ g.prods.Nodup by
          have e : g.prods.take k = g.prods := List.take_of_length_le (by have := HPL.out; omega)
          have h := HB.out
          rw [e] at h
          refine ⟨fun x hx => ?_, h.2⟩
          obtain ⟨j, hj, ej⟩ := List.getElem_of_mem hx
          exact h.1 j x (by have := HPL.out; omega) (by rw [List.getElem?_eq_getElem hj, ej]))
        have e1 : ¬ (k : Int) < ls.length := by omega
        have hgq := (hbe.block _ (heap_lt HF0.out)).trans HF0.out
        have g1 := (blk_cell (i := 1) hgq rfl).1
        have HBE := Lib.hid hbe
        clear HB hgq hbe
        go_wp2
        go_loopw [40] (fun i w6 => ∃ k : Nat, k ≤ g.nons.length ∧ i = .int .i64 k ∧ Below S.heap.size S w6 ∧ Hid (∀ i, i < k → ∃ p ∈ g.prods, p.1 = ((100 + i : Nat) : Int))) (fun i _ => g.nons.length - (intOf i).toNat)
        case atStart => exact ⟨0, Nat.zero_le _, rfl, HBE.out, Lib.hid (by intro i hi; omega)⟩
        case round =>
          clear HBE g1 e1 hlt hk
          obtain ⟨k, hk, rfl, hbe, HB⟩ := hrel
          rename World => w6
          by_cases hlt : k < g.nons.length
          · have e1 : (k : Int) < g.nons.length := by omega
            have hgq := (hbe.block _ (heap_lt HF0.out)).trans HF0.out
            have g2 := (blk_cell (i := 2) hgq rfl).1
            have hhp := hasProd_any a3 c3 ls (100 + (k : Int)) w6 (H3.out.below hbe) hll
            have HHP := Lib.hid hhp
            have HBE := Lib.hid hbe
            clear hhp hgq hbe
            cases hh : ls.any fun q => decide (q.left = 100 + (k : Int)) with
            | true =>
              have HB2 : Hid (∀ i, i < k + 1 → ∃ p ∈ g.prods, p.1 = ((100 + i : Nat) : Int)) := Lib.hid fun i hi => by
                by_cases h : i = k
                · subst h
                  rw [List.any_eq_true] at hh
                  obtain ⟨q, hq, he⟩ := hh
                  exact ⟨q.plain, HP.out ▸ List.mem_map_of_mem hq, by rw [show q.plain.1 = q.left from rfl, of_decide_eq_true he]; push_cast; rfl⟩
                · exact HB.out i (by omega)
              go_wp2_with (go_at_call 109; refine HHP.out.mono ?_; rintro e w7 ⟨rfl, hb7⟩; simp only [hh])
              go_roundw
              case rel => exact ⟨k + 1, by omega, by go_num, HBE.out.trans (hb7.mono HBE.out.size), HB2⟩
              case measure => simp [intOf]; omega
            | false =>
              have HR := Lib.hid (show decide (PHolds g) = false by
                rw [decide_eq_false_iff_not]
                intro h
                obtain ⟨p, hp, he⟩ := h.2.2.2.2 k hlt
                rw [← HP.out] at hp
                obtain ⟨q, hq, rfl⟩ := List.mem_map.1 hp
                rw [List.any_eq_false] at hh
                exact hh q hq (decide_eq_true (by rw [show q.plain.1 = q.left from rfl] at he; rw [he]; push_cast; rfl)))
              go_wp2_with (go_at_call 109; refine HHP.out.mono ?_; rintro e w7 ⟨rfl, hb7⟩; simp only [hh])
              go_ret
              have h1 := HBE.out.trans (hb7.mono HBE.out.size)
              exact ⟨ret_bool HR.out.symm, HS.out.trans (h1.mono HS.out.size)⟩
          · have HR := Lib.hid (show decide (PHolds g) = true from decide_eq_true ⟨by have := HZ.out.1; have := HPL.out; omega, by have := HZ.out.2; have := HPL.out; omega, hAll.out.1, hAll.out.2, fun i hi => HB.out i (by omega)⟩)
            have e1 : ¬ (k : Int) < g.nons.length := by omega
            clear HB
            go_wp2
            go_ret
            exact ⟨ret_bool HR.out.symm, HS.out.trans (hbe.mono HS.out.size)⟩
  · have HR := Lib.hid (show decide (PHolds g) = false by
      rw [decide_eq_false_iff_not]
      intro h
      exact hz ⟨by have := h.1; have := HPL.out; omega, by have := h.2.1; have := HPL.out; omega⟩)
    have hor : ls.length < 1 ∨ (1 ≤ ls.length ∧ 24 < ls.length) := by omega
    clear hz
    rcases hor with q | ⟨q, q'⟩
    all_goals
      go_enter Tryd.func80, Tryd.ntmps80
      go_wp2
      go_ret
      exact ⟨ret_bool HR.out.symm, HS.out⟩

end Go.Proofs.YtejjdfmobiegdaaDoor

namespace Go.Proofs.YtejjdfmobiegdaaDoor
open Go.RowKit
open Doc

def ChkP (g : Gr) : Prop := NamesP 97 122 g.terms ∧ NamesP 65 90 g.nons ∧ PHolds g
instance (g : Gr) : Decidable (ChkP g) := by unfold ChkP; exact inferInstance

/-- What Check tells: OK, or ErrArg. -/
def chkI (g : Gr) : Int := if ChkP g then 0 else 1

set_option maxHeartbeats 1000000 in
theorem chk_any (v : Value) (g : Gr) (w : World) (hg : GramAt w v g) (hf : Fits g) (hs : SmallG g) (ht : ∀ x ∈ g.terms, x.length ≤ maxLen) (hn : ∀ x ∈ g.nons, x.length ≤ maxLen) :
    Calls Tryd.prog 44 #[v] w fun e w' => e = .returned (.int .i64 (chkI g)) ∧ Below w.heap.size w w' := by
  have hg0 := hg
  obtain ⟨a1, a2, a3, c1, c2, c3, ls, rfl, hp, k1, k2, k3, k4, k5, k6, k7⟩ := hg
  have hS : Below w.heap.size w (w.alloc (.cells #[.slice a1 g.terms.length c1, .slice a2 g.nons.length c2, .slice a3 ls.length c3] 29)) := (Below.refl _ _).alloc (Nat.le_refl _) _
  have h1 : Calls Tryd.prog 79 #[.slice a1 g.terms.length c1, .int .i64 8, .int .u8 97, .int .u8 122] (w.alloc (.cells #[.slice a1 g.terms.length c1, .slice a2 g.nons.length c2, .slice a3 ls.length c3] 29)) fun e w' => e = .returned (.bool (decide (NamesP 97 122 g.terms))) ∧ w' = w.alloc (.cells #[.slice a1 g.terms.length c1, .slice a2 g.nons.length c2, .slice a3 ls.length c3] 29) := namesHold_any a1 c1 g.terms 97 122 (w.alloc (.cells #[.slice a1 g.terms.length c1, .slice a2 g.nons.length c2, .slice a3 ls.length c3] 29)) (k1.below hS) hf.1 k5 ht
  have H1 := Lib.hid h1
  have h2 : Calls Tryd.prog 79 #[.slice a2 g.nons.length c2, .int .i64 8, .int .u8 65, .int .u8 90] (w.alloc (.cells #[.slice a1 g.terms.length c1, .slice a2 g.nons.length c2, .slice a3 ls.length c3] 29)) fun e w' => e = .returned (.bool (decide (NamesP 65 90 g.nons))) ∧ w' = w.alloc (.cells #[.slice a1 g.terms.length c1, .slice a2 g.nons.length c2, .slice a3 ls.length c3] 29) := namesHold_any a2 c2 g.nons 65 90 (w.alloc (.cells #[.slice a1 g.terms.length c1, .slice a2 g.nons.length c2, .slice a3 ls.length c3] 29)) (k2.below hS) hf.2.1 k6 hn
  have H2 := Lib.hid h2
  have H3 := Lib.hid (prodsHold_any _ g (w.alloc (.cells #[.slice a1 g.terms.length c1, .slice a2 g.nons.length c2, .slice a3 ls.length c3] 29)) (hg0.below hS) hf hs)
  have HS := Lib.hid hS
  clear h1 h2 hg0 hS k1 k2 k3 k4 hf hs ht hn hp
  by_cases b1 : NamesP 97 122 g.terms
  · by_cases b2 : NamesP 65 90 g.nons
    · by_cases b3 : PHolds g
      · have HR := Lib.hid (show chkI g = 0 from if_pos ⟨b1, b2, b3⟩)
        rw [decide_eq_true b1] at H1
        rw [decide_eq_true b2] at H2
        rw [decide_eq_true b3] at H3
        clear b1 b2 b3
        go_enter Tryd.func44, Tryd.ntmps44
        go_wp2_with (first
          | (go_at_call 79; with_reducible refine H1.out.mono ?_; rintro e w2 ⟨rfl, rfl⟩)
          | (go_at_call 79; with_reducible refine H2.out.mono ?_; rintro e w2 ⟨rfl, rfl⟩)
          | (go_at_call 80; with_reducible refine H3.out.mono ?_; rintro e w2 ⟨rfl, hb2⟩))
        go_ret
        exact ⟨ret_int HR.out.symm, HS.out.trans (hb2.mono HS.out.size)⟩
      · have HR := Lib.hid (show chkI g = 1 from if_neg fun h => b3 h.2.2)
        rw [decide_eq_true b1] at H1
        rw [decide_eq_true b2] at H2
        rw [decide_eq_false b3] at H3
        clear b1 b2 b3
        go_enter Tryd.func44, Tryd.ntmps44
        go_wp2_with (first
          | (go_at_call 79; with_reducible refine H1.out.mono ?_; rintro e w2 ⟨rfl, rfl⟩)
          | (go_at_call 79; with_reducible refine H2.out.mono ?_; rintro e w2 ⟨rfl, rfl⟩)
          | (go_at_call 80; with_reducible refine H3.out.mono ?_; rintro e w2 ⟨rfl, hb2⟩))
        go_ret
        exact ⟨ret_int HR.out.symm, HS.out.trans (hb2.mono HS.out.size)⟩
    · have HR := Lib.hid (show chkI g = 1 from if_neg fun h => b2 h.2.1)
      rw [decide_eq_true b1] at H1
      rw [decide_eq_false b2] at H2
      clear b1 b2
      go_enter Tryd.func44, Tryd.ntmps44
      go_wp2_with (first
        | (go_at_call 79; with_reducible refine H1.out.mono ?_; rintro e w2 ⟨rfl, rfl⟩)
        | (go_at_call 79; with_reducible refine H2.out.mono ?_; rintro e w2 ⟨rfl, rfl⟩))
      go_ret
      exact ⟨ret_int HR.out.symm, HS.out⟩
  · have HR := Lib.hid (show chkI g = 1 from if_neg fun h => b1 h.1)
    rw [decide_eq_false b1] at H1
    clear b1
    go_enter Tryd.func44, Tryd.ntmps44
    go_wp2_with (go_at_call 79; with_reducible refine H1.out.mono ?_; rintro e w2 ⟨rfl, rfl⟩)
    go_ret
    exact ⟨ret_int HR.out.symm, HS.out⟩

/-! In plain words. -/
theorem nameIn_low (x : List UInt8) : nameIn 97 122 x = true ↔ kindOf x = 2 := by
  cases x with
  | nil => simp [nameIn, kindOf]
  | cons c t =>
    unfold nameIn kindOf
    cases hN : nameOk (c :: t) with
    | false => simp [hN]
    | true =>
      have hlc : lett c = true := by unfold nameOk at hN; simp at hN; exact hN.1.2
      cases hU : up c with
      | true =>
        have := hU
        unfold up at this
        simp [hN, hU] at this ⊢
        omega
      | false =>
        unfold lett low at hlc
        rw [hU] at hlc
        simp [hN, hU] at hlc ⊢
        omega
theorem nameIn_up (x : List UInt8) : nameIn 65 90 x = true ↔ kindOf x = 1 := by
  cases x with
  | nil => simp [nameIn, kindOf]
  | cons c t =>
    unfold nameIn kindOf
    cases hN : nameOk (c :: t) with
    | false => simp [hN]
    | true =>
      cases hU : up c with
      | true =>
        have := hU
        unfold up at this
        simp [hN, hU] at this ⊢
        omega
      | false =>
        have := hU
        unfold up at this
        simp [hN, hU] at this ⊢
        omega

theorem symB_ok (g : Gr) (s : Int) : symB g s = true ↔ symOk g.terms.length g.nons.length s := by
  unfold symB symOk nonB
  simp

theorem chk_iff (g : Gr) : ChkP g ↔ CheckG g := by
  unfold ChkP NamesP PHolds
  constructor
  · rintro ⟨⟨t1, t8, tk, tn⟩, ⟨n1, n8, nk, nn⟩, p1, p24, pv, pn, ps⟩
    refine ⟨t1, t8, n1, n8, p1, p24, fun x hx => (nameIn_low x).1 (tk x hx), tn, fun x hx => (nameIn_up x).1 (nk x hx), nn, ps, fun p hp => ?_, pn⟩
    have h := pv p hp
    unfold prodB nonB at h
    simp only [Bool.and_eq_true, decide_eq_true_eq, List.all_eq_true] at h
    exact ⟨h.1, h.2.1, fun s hs => (symB_ok g s).1 (h.2.2 s hs)⟩
  · intro h
    refine ⟨⟨h.t1, h.t8, fun x hx => (nameIn_low x).2 (h.tk x hx), h.tn⟩, ⟨h.n1, h.n8, fun x hx => (nameIn_up x).2 (h.nk x hx), h.nn⟩, h.p1, h.p24, fun p hp => ?_, h.pn, h.some_⟩
    unfold prodB nonB
    simp only [Bool.and_eq_true, decide_eq_true_eq, List.all_eq_true]
    have := h.pv p hp
    exact ⟨this.1, this.2.1, fun s hs => (symB_ok g s).2 (this.2.2 s hs)⟩

end Go.Proofs.YtejjdfmobiegdaaDoor
