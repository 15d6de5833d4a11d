/- Trees: reading: what the reader's small calls give; contracts over any world. -/
import Derived.Test.YtflfmcikfiaoiaaTreeH
import Derived.Test.YtflfmcikfiaoiaaShelfB
import Derived.Test.YtflfmcikfiaoiaaIdxAny
import Derived.StillTailTactics
import Derived.Deep.RegionLaw
import Derived.Deep.Cut
set_option linter.unusedVariables false
namespace Go.Proofs.Ytflfmcikfiaoiaa
open Go.RowKit
open Doc

/-- What reading throws where a text is none. -/
def fT : Value := .iface 128 (.agg #[])
/-- The reader in its block. -/
def RdAt (R : Nat) (w : World) (x1 x2 x3 : Value) (s : ByteArray) (n : Nat) : Prop := w.heap[R]? = some (.cells #[x1, x2, x3, .string s, .int .i64 n] 161)
/-- All but the reader stands. -/
structure Kept (R : Nat) (w w' : World) : Prop where
  lt : R < w.heap.size
  b : Below R w w'
  s : w.heap.size ≤ w'.heap.size
  k : ∀ k, k < w.heap.size → k ≠ R → w'.heap[k]? = w.heap[k]?
theorem Kept.refl {R : Nat} {w : World} (h : R < w.heap.size) : Kept R w w := ⟨h, Below.refl _ _, Nat.le_refl _, fun _ _ _ => rfl⟩
theorem Kept.trans {R : Nat} {w a c : World} (h : Kept R w a) (k : Kept R a c) : Kept R w c := ⟨h.lt, h.b.trans k.b, Nat.le_trans h.s k.s, fun j hj hn => (k.k j (Nat.lt_of_lt_of_le hj h.s) hn).trans (h.k j hj hn)⟩
theorem Kept.below {R : Nat} {w a c : World} (h : Kept R w a) (k : Below a.heap.size a c) : Kept R w c := ⟨h.lt, h.b.trans (k.mono (Nat.le_trans (Nat.le_of_lt h.lt) h.s)), Nat.le_trans h.s k.size, fun j hj hn => (k.block j (Nat.lt_of_lt_of_le hj h.s)).trans (h.k j hj hn)⟩
theorem Kept.set {R : Nat} {w a : World} (h : Kept R w a) (b i : Nat) (hb : b = R ∨ w.heap.size ≤ b) (v : Value) : Kept R w (a.setCell ⟨b, i, none⟩ v) :=
  ⟨h.lt, h.b.setCell (p := ⟨b, i, none⟩) (by have := h.lt; show R ≤ b; omega) _, by simpa using h.s, fun j hj hn => (Below.heap_setCell _ _ _ _ (show j ≠ b by omega)).trans (h.k j hj hn)⟩
theorem Kept.drew {R : Nat} {w a : World} (h : Kept R w a) : Kept R w a.drew := ⟨h.lt, h.b.drew, h.s, h.k⟩
theorem Kept.alloc {R : Nat} {w a : World} (h : Kept R w a) (o : Obj) : Kept R w (a.alloc o) := h.below ((Below.refl _ _).alloc (Nat.le_refl _) _)
theorem RdAt.below {R : Nat} {w w' : World} {x1 x2 x3 : Value} {s : ByteArray} {n : Nat} (h : RdAt R w x1 x2 x3 s n) (hb : Below w.heap.size w w') : RdAt R w' x1 x2 x3 s n := (hb.block _ (heap_lt h)).trans h
theorem RdAt.setS {R : Nat} {w : World} {x1 x2 x3 : Value} {s : ByteArray} {n : Nat} (h : RdAt R w x1 x2 x3 s n) (s' : ByteArray) : RdAt R (w.setCell ⟨R, 3, none⟩ (.string s')) x1 x2 x3 s' n := by
  unfold RdAt
  rw [heap_set w R 3 _ _ _ h (by simp)]
  rfl
theorem RdAt.setN {R : Nat} {w : World} {x1 x2 x3 : Value} {s : ByteArray} {n : Nat} (h : RdAt R w x1 x2 x3 s n) (z : Int) (m : Nat) (hz : z = m) : RdAt R (w.setCell ⟨R, 4, none⟩ (.int .i64 z)) x1 x2 x3 s m := by
  unfold RdAt
  rw [heap_set w R 4 _ _ _ h (by simp), hz]
  rfl

theorem must_ok (R : Nat) (w : World) : Calls Try.prog 115 #[.pointer (some ⟨R, 0, none⟩), .bool true] w fun e w' => e = .returned (.tuple #[]) ∧ w = w' := by
  go_enter Try.func115, Try.ntmps115
  go_wp2
  go_end0
  exact ⟨rfl, rfl⟩
theorem must_no (R : Nat) (w : World) : Calls Try.prog 115 #[.pointer (some ⟨R, 0, none⟩), .bool false] w fun e w' => e = .panicked [{ v := fT, recovered := false }] ∧ w = w' := by
  go_enter Try.func115, Try.ntmps115
  go_wp2
  exact ⟨rfl, rfl, rfl⟩

theorem arr_eta (s : ByteArray) : (⟨s.data.toList.toArray⟩ : ByteArray) = s := by rw [Array.toArray_toList]

set_option maxHeartbeats 1000000 in
theorem took_any (R : Nat) (x1 x2 x3 : Value) (s p : ByteArray) (n : Nat) (w : World) (h : RdAt R w x1 x2 x3 s n) :
    Calls Try.prog 143 #[.pointer (some ⟨R, 0, none⟩), .string p] w fun e w' => e = .returned (.bool (Lib.hasPrefix s.data.toList p.data.toList)) ∧ RdAt R w' x1 x2 x3 ⟨(Lib.trimPrefix s.data.toList p.data.toList).toArray⟩ n ∧ Kept R w w' := by
  have HR := Lib.hid (h.setS ⟨(Lib.trimPrefix s.data.toList p.data.toList).toArray⟩)
  have HK := Lib.hid ((Kept.refl (heap_lt h)).set R 3 (.inl rfl) (.string ⟨(Lib.trimPrefix s.data.toList p.data.toList).toArray⟩))
  have HC := Lib.hid fun W => Try.strings_CutPrefix s p W
  have l0 := heap_lt h
  obtain ⟨c3, z3⟩ := blk_cell (i := 3) h rfl
  clear h
  go_enter Try.func143, Try.ntmps143
  go_wp2_with (go_at_call 166; refine (HC.out _).mono ?_; rintro e w2 ⟨rfl, hw⟩; rw [hw]; clear hw)
  go_ret
  exact ⟨rfl, HR.out, HK.out⟩

theorem took_yes {R : Nat} {x1 x2 x3 : Value} {s : ByteArray} {n : Nat} {w : World} (h : RdAt R w x1 x2 x3 s n) (c : UInt8) (hc : s.data.toList.head? = some c) :
    Calls Try.prog 143 #[.pointer (some ⟨R, 0, none⟩), .string ⟨#[c]⟩] w fun e w' => e = .returned (.bool true) ∧ RdAt R w' x1 x2 x3 ⟨(s.data.toList.drop 1).toArray⟩ n ∧ Kept R w w' := by
  have e1 : Lib.hasPrefix s.data.toList (⟨#[c]⟩ : ByteArray).data.toList = true := by
    show List.isPrefixOf [c] s.data.toList = true
    cases hl : s.data.toList with
    | nil => rw [hl] at hc; cases hc
    | cons d l => rw [hl] at hc; simp at hc; simp [hc]
  have e2 : Lib.trimPrefix s.data.toList (⟨#[c]⟩ : ByteArray).data.toList = s.data.toList.drop 1 := by unfold Lib.trimPrefix; rw [if_pos e1]; rfl
  have := took_any R x1 x2 x3 s ⟨#[c]⟩ n w h
  rw [e1, e2] at this
  exact this
theorem took_no {R : Nat} {x1 x2 x3 : Value} {s : ByteArray} {n : Nat} {w : World} (h : RdAt R w x1 x2 x3 s n) (c : UInt8) (hc : s.data.toList.head? ≠ some c) :
    Calls Try.prog 143 #[.pointer (some ⟨R, 0, none⟩), .string ⟨#[c]⟩] w fun e w' => e = .returned (.bool false) ∧ RdAt R w' x1 x2 x3 s n ∧ Kept R w w' := by
  have e1 : Lib.hasPrefix s.data.toList (⟨#[c]⟩ : ByteArray).data.toList = false := by
    show List.isPrefixOf [c] s.data.toList = false
    cases hl : s.data.toList with
    | nil => rfl
    | cons d l =>
      rw [hl] at hc
      have hdc : d ≠ c := fun e => hc (by rw [e]; rfl)
      show ((c == d) && List.isPrefixOf [] l) = false
      rw [beq_eq_false_iff_ne.2 (Ne.symm hdc)]
      rfl
  have e2 : Lib.trimPrefix s.data.toList (⟨#[c]⟩ : ByteArray).data.toList = s.data.toList := by unfold Lib.trimPrefix; rw [if_neg (by rw [e1]; exact Bool.false_ne_true)]
  have := took_any R x1 x2 x3 s ⟨#[c]⟩ n w h
  rw [e1, e2, arr_eta] at this
  exact this

/-! A name, as far as the next sign. -/
theorem signs_no (c : UInt8) : [(32 : UInt8), 40, 41].contains c = !notSign c := by
  unfold notSign
  by_cases h1 : c = 32
  · subst h1; rfl
  · by_cases h2 : c = 40
    · subst h2; rfl
    · by_cases h3 : c = 41
      · subst h3; rfl
      · simp [h1, h2, h3]
theorem index_signs : ∀ l : List UInt8, (Lib.indexAny l [32, 40, 41] = -1 ∧ (l.takeWhile notSign).length = l.length) ∨ (Lib.indexAny l [32, 40, 41] = (l.takeWhile notSign).length)
  | [] => .inl ⟨rfl, rfl⟩
  | c :: l => by
    rw [Lib.indexAny, signs_no c]
    by_cases h : notSign c = true
    · rw [List.takeWhile_cons, if_pos h, h]
      simp only [Bool.not_true, Bool.false_eq_true, if_false, List.length_cons]
      rcases index_signs l with ⟨e1, e2⟩ | e
      · left
        rw [e1, e2]
        simp
      · right
        rw [e, if_neg (by simp)]
        push_cast
        rfl
    · have h' : notSign c = false := by simpa using h
      rw [List.takeWhile_cons, if_neg h, h']
      right
      simp
theorem take_tw (l : List UInt8) : l.take (l.takeWhile notSign).length = l.takeWhile notSign := by
  have h := List.takeWhile_append_dropWhile (p := notSign) (l := l)
  conv => lhs; rw [← h]
  rw [List.take_append_of_le_length (by rw [h]; exact Nat.le_refl _)]
  rw [h, List.take_length]
theorem drop_tw (l : List UInt8) : l.drop (l.takeWhile notSign).length = l.dropWhile notSign := by
  have h := List.takeWhile_append_dropWhile (p := notSign) (l := l)
  have h2 := List.take_append_drop (l.takeWhile notSign).length l
  rw [take_tw] at h2
  exact List.append_cancel_left (h2.trans h.symm)

/-- How symbol ends. -/
def SymEnd (R : Nat) (x1 x2 x3 : Value) (r : Option (Int × List UInt8 × Nat)) (w : World) (e : Ending) (w' : World) : Prop :=
  Kept R w w' ∧ match r with
  | some y => ∃ s' : ByteArray, e = .returned (.int .i64 y.1) ∧ s'.data.toList = y.2.1 ∧ RdAt R w' x1 x2 x3 s' y.2.2
  | none => e = .panicked [{ v := fT, recovered := false }]
/-- What is asked of a text: nothing (strings.IndexAny is walked for any text in IdxAny; once this was: all ASCII). -/
def Asc (_s : ByteArray) : Prop := True

set_option maxRecDepth 100000 in
set_option maxHeartbeats 4000000 in
theorem symbol_any (R : Nat) (x1 x2 x3 : Value) (g : Gr) (s : ByteArray) (n : Nat) (w0 w : World) (hg : GramAt w0 (.agg #[x1, x2, x3]) g) (hf : Fits g) (hb : Below w0.heap.size w0 w) (hR : w0.heap.size ≤ R) (h : RdAt R w x1 x2 x3 s n) (ha : Asc s) (hs : s.size ≤ 1000000) (hn : n ≤ 400) :
    Calls Try.prog 144 #[.pointer (some ⟨R, 0, none⟩)] w (SymEnd R x1 x2 x3 (symR g s.data.toList n) w) := by
  have hlR := heap_lt h
  have hw1 := h.setN ((n : Int) + 1) (n + 1) (by push_cast; rfl)
  have hk1 := (Kept.refl hlR).set R 4 (.inl rfl) (.int .i64 ((n : Int) + 1))
  have HG := Lib.hid fun (W : World) (hW : Below R w W) => (hg.below (hb.trans (hW.mono hR)))
  have HF := Lib.hid hf
  have HS : Hid (symR g s.data.toList n = if n < 400 ∧ (findG g (s.data.toList.takeWhile notSign)).2 = true then some ((findG g (s.data.toList.takeWhile notSign)).1, s.data.toList.dropWhile notSign, n + 1) else none) := Lib.hid rfl
  obtain ⟨c4, z4⟩ := blk_cell (i := 4) h rfl
  have HK1 := Lib.hid hk1
  have HW1 := Lib.hid hw1
  have HM := Lib.hid fun W => must_no R W
  have HO := Lib.hid fun W => must_ok R W
  have HIA := Lib.hid fun W => indexAny_signs s W (by omega)
  have HIX := Lib.hid (index_signs s.data.toList)
  have HTK := Lib.hid (take_tw s.data.toList)
  have HDT := Lib.hid (drop_tw s.data.toList)
  have hEl : (s.data.toList.takeWhile notSign).length ≤ s.size := by
    have := (List.takeWhile_prefix notSign (l := s.data.toList)).length_le
    simpa using this
  have hs' : (s.size : Int) ≤ 1000000 := by omega
  have HSL : Hid (s.data.toList.length = s.size) := Lib.hid (by simp)
  clear hg hf hb hw1 hk1 h ha
  go_enter Try.func144, Try.ntmps144
  go_upto_region 2 with fail
  generalize w.setCell ⟨R, 4, none⟩ (.int .i64 ((n : Int) + 1)) = S at *
  clear c4 z4
  have d4 : S.cell? ⟨R, 4, none⟩ = some (.int .i64 ((n : Int) + 1)) := by simpa using (blk_cell (i := 4) HW1.out rfl).1
  have d3 := (blk_cell (i := 3) HW1.out rfl).1
  have l1 := heap_lt HW1.out
  by_cases h4 : n = 400
  · have HN := Lib.hid (HS.out.trans (if_neg (by omega)))
    have hle : ¬ (n : Int) + 1 ≤ 400 := by omega
    have hle2 : decide ((n : Int) + 1 ≤ 400) = false := decide_eq_false hle
    clear h4 HS
    go_wp2_with (go_at_call 115; refine (HM.out _).mono ?_; rintro e w2 ⟨rfl, hw⟩; rw [← hw]; clear hw)
    exact ⟨rfl, HK1.out, by rw [HN.out]⟩
  · have hle : (n : Int) + 1 ≤ 400 := by omega
    have hle2 : decide ((n : Int) + 1 ≤ 400) = true := decide_eq_true hle
    have HN4 : Hid (n < 400) := Lib.hid (by omega)
    clear h4
    obtain ⟨d, HD⟩ : ∃ d : Int, Hid (Lib.indexAny s.data.toList [32, 40, 41] = d) := ⟨_, Lib.hid rfl⟩
    have HIA2 := Lib.hid fun W => (HIA.out W).mono fun e w' ⟨he, hb⟩ => (⟨he.trans (by rw [HD.out]), hb⟩ : e = Ending.returned (.int .i64 d) ∧ Below W.heap.size W w')
    have HDD : Hid ((d = -1 ∧ ((s.data.toList.takeWhile notSign).length : Int) = s.size) ∨ d = ((s.data.toList.takeWhile notSign).length : Int)) := Lib.hid (by
      rw [← HD.out]
      rcases HIX.out with ⟨e1, e2⟩ | e
      · exact .inl ⟨e1, by rw [e2, HSL.out]⟩
      · exact .inr e)
    clear HIA HIX HD
    go_upto_if 26 with (first
      | (go_at_call 115; refine (HO.out _).mono ?_; rintro e w2 ⟨rfl, hw⟩; rw [← hw]; clear hw)
      | (go_at_call 167; refine (HIA2.out _).mono ?_; rintro e w2 ⟨rfl, hb2⟩))
    have HW2 := Lib.hid (HW1.out.below hb2)
    have HK2 := Lib.hid (HK1.out.below hb2)
    clear d4 d3 l1 hb2 HW1 HK1 HIA2
    have d0 := (blk_cell (i := 0) HW2.out rfl).1
    have d1 := (blk_cell (i := 1) HW2.out rfl).1
    have d2 := (blk_cell (i := 2) HW2.out rfl).1
    have d3 := (blk_cell (i := 3) HW2.out rfl).1
    have l1 := heap_lt HW2.out
    obtain ⟨E, HE⟩ : ∃ E : Nat, Hid ((s.data.toList.takeWhile notSign).length = E) := ⟨_, Lib.hid rfl⟩
    rw [HE.out] at hEl HDD HTK HDT
    go_cut [3, 24, 26] from 27 to 31 (fun v _ _ wx => v = .int .i64 E ∧ w2 = wx)
    case first =>
      rcases HDD.out with ⟨e1, e2⟩ | e1
      · subst e1
        have e3 := Lib.hid e2
        clear e2 HDD
        go_wp2_with fail
        go_meet
        case rel => exact ⟨by rw [e3.out], rfl⟩
      · subst e1
        have hE0 : ¬ (E : Int) < 0 := by omega
        clear HDD
        go_wp2_with fail
        go_meet
        case rel => exact ⟨rfl, rfl⟩
    case rest =>
      obtain ⟨rfl, rfl⟩ := hcut
      clear HDD
      have hE1 : (0 : Int) ≤ E := by omega
      have hE2 : (E : Int) ≤ s.size := by omega
      have HX : Hid (s.extract 0 E = ⟨(s.data.toList.takeWhile notSign).toArray⟩) := Lib.hid (by rw [Lib.extract_eq, List.drop_zero, Nat.sub_zero, HTK.out])
      have HXD : Hid ((s.extract E s.size).data.toList = s.data.toList.dropWhile notSign) := Lib.hid (by rw [Lib.extract_to_end, HDT.out])
      have HFN := Lib.hid fun W (hW : Below w2.heap.size w2 W) => (gfind_any _ g (s.data.toList.takeWhile notSign) W (HG.out W (HK2.out.b.trans (hW.mono (Nat.le_of_lt l1)))) HF.out.2.1 HF.out.1)
      rw [← HX.out] at HFN
      go_upto_region 6 with fail
      have hbd : Below w2.heap.size w2 w2.drew := (Below.refl _ _).drew
      have HBD := Lib.hid hbd
      clear hbd
      cases hok : (findG g (s.data.toList.takeWhile notSign)).2 with
      | false =>
        rw [hok] at HFN
        have HN := Lib.hid (HS.out.trans (if_neg (fun h => by rw [hok] at h; exact Bool.false_ne_true h.2)))
        clear hok HS
        go_region_with (go_at_call 168; with_reducible refine (HFN.out _ HBD.out).mono ?_; rintro e w3 ⟨rfl, hb3⟩)
        all_goals
          go_wp2_with (go_at_call 115; refine (HM.out _).mono ?_; rintro e w4 ⟨rfl, hw⟩; rw [← hw]; clear hw)
          exact ⟨rfl, HK2.out.below (HBD.out.trans (hb3.mono HBD.out.size)), by rw [HN.out]⟩
      | true =>
        rw [hok] at HFN
        have HN := Lib.hid (HS.out.trans (if_pos ⟨HN4.out, hok⟩))
        clear hok HS
        generalize (findG g (s.data.toList.takeWhile notSign)).1 = y at *
        go_region_with (go_at_call 168; with_reducible refine (HFN.out _ HBD.out).mono ?_; rintro e w3 ⟨rfl, hb3⟩)
        all_goals
          have hb23 := HBD.out.trans (hb3.mono HBD.out.size)
          have HW3 := Lib.hid (HW2.out.below hb23)
          have HK3 := Lib.hid ((HK2.out.below hb23).set R 3 (.inl rfl) (.string (s.extract E s.size)))
          clear hb3 hb23 d0 d1 d2 d3 l1
          obtain ⟨u3, z3⟩ := blk_cell (i := 3) HW3.out rfl
          have l3 := heap_lt HW3.out
          have hE3 : (s.size : Int) ≤ s.size := Int.le_refl _
          go_wp2_with (go_at_call 115; refine (HO.out _).mono ?_; rintro e w4 ⟨rfl, hw⟩; rw [← hw]; clear hw)
          go_ret
          exact ⟨HK3.out, by rw [HN.out]; exact ⟨_, rfl, HXD.out, HW3.out.setS _⟩⟩

end Go.Proofs.Ytflfmcikfiaoiaa
