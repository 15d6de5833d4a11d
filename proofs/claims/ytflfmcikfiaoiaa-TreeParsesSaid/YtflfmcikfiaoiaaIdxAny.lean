/- strings.IndexAny of whatever short text: walked. -/
import Derived.Test.YtflfmcikfiaoiaaTreeH
import Derived.Test.YtflfmcikfiaoiaaShelfB
import Derived.Laws.Runes
import Derived.Laws.RangeAny
import Derived.Lib.OthersKept
import Derived.Deep.QuietTactic
import Derived.BigQuiet
set_option linter.unusedVariables false
namespace Go.Proofs.Ytflfmcikfiaoiaa
open Go.RowKit
open Doc
open Go.Lib

theorem vrune_any (r : Int) (hv : Utf8.valid r = true) (w : World) : Calls Try.prog 187 #[.int .i32 r] w fun e w' => e = .returned (.bool true) ∧ w' = w := by
  rw [validRune_eq, validRune, decide_eq_true_eq] at hv
  by_cases h : r < 55296
  · have h0 : (0 : Int) ≤ r := by omega
    clear hv
    go_enter Try.func187, Try.ntmps187
    go_wp2
    go_ret
    exact ⟨rfl, rfl⟩
  · have h0 : (0 : Int) ≤ r := by omega
    have h1 : (57343 : Int) < r := by omega
    have h2 : r ≤ (1114111 : Int) := by omega
    clear hv
    go_enter Try.func187, Try.ntmps187
    go_wp2
    go_ret
    exact ⟨rfl, rfl⟩
def sgs : ByteArray := ⟨#[32, 40, 41]⟩
theorem sgs_at {i : Nat} (h : i < 3) : ∃ hi : i < sgs.size, (sgs[i]'hi).toNat < 128 := by
  rcases (show i = 0 ∨ i = 1 ∨ i = 2 by omega) with rfl | rfl | rfl
  · exact ⟨by decide, by decide⟩
  · exact ⟨by decide, by decide⟩
  · exact ⟨by decide, by decide⟩
set_option maxRecDepth 100000 in
set_option maxHeartbeats 4000000 in
theorem irune_err (w : World) : Calls Try.prog 179 #[.string ⟨#[32, 40, 41]⟩, .int .i32 65533] w fun e w' => e = .returned (.int .i64 (-1)) ∧ Below w.heap.size w w' := by
  have hsg : (⟨#[32, 40, 41]⟩ : ByteArray) = sgs := rfl
  have hsz : sgs.size = 3 := rfl
  rw [hsg]
  go_enter Try.func179, Try.ntmps179
  go_wp2
  go_loopg [5, 6] 3 (fun g _ _ wx => ∃ i : Nat, i + g = 3 ∧ wx = w.iter sgs i)
  case atStart => exact ⟨0, by omega, rfl⟩
  case round =>
    obtain ⟨i, hig, rfl⟩ := hrel
    cases gk with
    | zero =>
      obtain rfl : i = 3 := by omega
      have hnx := run_next_end (P := Try.prog) w sgs 3
      go_wp2
      go_ret
      exact ⟨rfl, (Below.refl _ _).alloc (Nat.le_refl _) _⟩
    | succ g =>
      obtain ⟨hi, ha⟩ := sgs_at (i := i) (by omega)
      have hnx := fun ty => run_next_ascii (P := Try.prog) w sgs i ty hi ha
      generalize (sgs[i]'hi).toNat = x at *
      have hne : ((x : Int) == 65533) = false := beq_eq_false_iff_ne.2 (by omega)
      go_wp2
      go_roundg g
      case measure => omega
      case rel => exact ⟨i + 1, by omega, rfl⟩
theorem byte_far (k : Nat) (c : UInt8) (hc : 128 ≤ c.toNat) : Lib.indexByte (sgs.extract k sgs.size).data.toList c = -1 := by
  have hm : ∀ b ∈ (sgs.extract k sgs.size).data.toList, b.toNat < 128 := fun b hb => by
    have h := mem_extract hb
    have : ∀ b ∈ sgs.data.toList, b.toNat < 128 := by decide
    exact this b h
  generalize (sgs.extract k sgs.size).data.toList = l at hm
  induction l with
  | nil => rfl
  | cons b l ih =>
    have h1 := hm b (by simp)
    have h2 : (b == c) = false := by
      rw [Bool.eq_false_iff]
      intro h
      rw [eq_of_beq h] at h1; omega
    have h3 := ih fun x hx => hm x (by simp [hx])
    rw [Lib.indexByte, h3]
    simp [h2]
set_option maxRecDepth 100000 in
set_option maxHeartbeats 4000000 in
theorem irune_far (r : Int) (h128 : 128 ≤ r) (hne : r ≠ 65533) (hv : Utf8.valid r = true) (w : World) : Calls Try.prog 179 #[.string ⟨#[32, 40, 41]⟩, .int .i32 r] w fun e w' => e = .returned (.int .i64 (-1)) ∧ Below w.heap.size w w' := by
  have hsg : (⟨#[32, 40, 41]⟩ : ByteArray) = sgs := rfl
  have hsz : sgs.size = 3 := rfl
  have HVR := Lib.hid fun W => vrune_any r hv W
  obtain ⟨f1, f2, f3⟩ := encode_facts r hv h128
  have hrb : (r == 65533) = false := beq_eq_false_iff_ne.2 hne
  have h0 : (0 : Int) ≤ r := by omega
  have h1 : ¬ r < (128 : Int) := by omega
  obtain ⟨m, hm⟩ : ∃ m, (Utf8.encode r).size = m + 1 := ⟨(Utf8.encode r).size - 1, by omega⟩
  have hcv : ∀ W, (convert 21 9 (.int .i32 r)).run Try.prog W = .ok (.string (Utf8.encode r)) W := fun W => run_convert_int_string W _ _ _ _ (by kernel_rfl) (by kernel_rfl)
  rw [hsg]
  generalize Utf8.encode r = E at *
  have hEm : (E.size : Int) - 1 = m := by omega
  obtain ⟨y, hy, hy2, hxe⟩ : ∃ y : Nat, 128 ≤ y ∧ y < 256 ∧ ∀ W, (Instr.index 9 (.string E) (.int .i64 m)).run Try.prog W = .ok (.int .u8 y) W := by
    have h := f3 (by omega)
    have e : E.size - 1 = m := by omega
    simp only [e] at h
    refine ⟨(E[m]'(by omega)).toNat, h, UInt8.toNat_lt _, fun W => ?_⟩
    rw [run_index_string W _ _ _ _ (by kernel_rfl), dif_pos ⟨by omega, by omega⟩]
    simp only [Int.toNat_natCast]
  have hm3 : 1 ≤ m ∧ m ≤ 3 := by omega
  clear hv hne f1 f2 f3
  go_enter Try.func179, Try.ntmps179
  go_wp2_with (go_at_call 187; refine (HVR.out _).mono ?_; rintro e w2 ⟨rfl, hw2⟩; obtain rfl := hw2.symm)
  go_step3
  go_wp2
  go_loopw [9, 10] (fun i f wr => i = .int .i64 m ∧ f = .int .i64 0 ∧ wr = w) (fun _ _ _ => 0)
  case atStart => exact ⟨rfl, rfl, rfl⟩
  case round =>
    obtain ⟨rfl, rfl, rfl⟩ := hrel
    clear hEm hm hcv
    by_cases h4 : m = 3
    · have e1 : ¬ (m : Int) < (sgs.size : Int) := by omega
      go_wp2
      go_ret
      exact ⟨rfl, Below.refl _ _⟩
    · have e1 : (m : Int) < (sgs.size : Int) := by omega
      obtain ⟨x, hx, hxs⟩ : ∃ x : Nat, x < 128 ∧ ∀ W, (Instr.index 9 (.string sgs) (.int .i64 m)).run Try.prog W = .ok (.int .u8 x) W := by
        obtain ⟨hi, ha⟩ := sgs_at (i := m) (by omega)
        refine ⟨(sgs[m]'hi).toNat, ha, fun W => ?_⟩
        rw [run_index_string W _ _ _ _ (by kernel_rfl), dif_pos ⟨by omega, by omega⟩]
        simp only [Int.toNat_natCast]
      have hxy : ((x : Int) == (y : Int)) = false := beq_eq_false_iff_ne.2 (by omega)
      have hxy2 : ((x : Int) != (y : Int)) = true := by rw [bne, hxy]; rfl
      have HBY := Lib.hid fun (W0 : World) a => (Try.strings_IndexByte (sgs.extract (m + 1) sgs.size) y (W0.drewN a)).mono fun e w' ⟨he, hw⟩ => (⟨he.trans (by rw [byte_far _ _ (by simp; omega)]), a, hw⟩ : e = Ending.returned (.int .i64 (-1)) ∧ ∃ n, w' = W0.drewN n)
      have hm2 : (m : Int) + 1 ≤ (sgs.size : Int) := by omega
      clear hx hy hsz
      go_wp2
      go_step3
      go_upto_region 6 with fail
      go_quiet (fail)
      have hwp : IntKind.i64.wrap ((m : Int) + 1) = (m : Int) + 1 := by rw [IntKind.wrap_i64]; omega
      have hm1 : (0 : Int) ≤ (m : Int) + 1 := by omega
      have hm4 : ((m : Int) + 1).toNat = m + 1 := by omega
      have HBQ : Hid (Below wr.heap.size wr (wr.drewN nq)) := Lib.hid (below_drews (Below.refl _ _) _)
      generalize wr.drewN nq = wq at *
      go_upto_region 7 with fail
      go_quiet ((go_at_call 186; exact HBY.out _ _))
      go_wp2
      rw [Exit.noGoto_ret]
      simp +zetaDelta only [Exit.inBlock, Exit.then, Exit.noGoto]
      go_ret
      exact ⟨rfl, below_drews HBQ.out _⟩
/-- What a rune that is no sign of ASCII takes: it is none that is looked for, and none of its bytes is ASCII. -/
structure FarD (s : ByteArray) (i : Nat) (d : Nat × Nat) : Prop where
  hi : 128 ≤ d.1
  va : d.1 = 65533 ∨ Utf8.valid d.1 = true
  w1 : 1 ≤ d.2
  w2 : i + d.2 ≤ s.size
  by_ : ∀ j, i ≤ j → j < i + d.2 → 128 ≤ (s.get! j).toNat
theorem farD (s : ByteArray) (i : Nat) (h : i < s.size) (ha : 128 ≤ (s.get! i).toNat) : FarD s i (Utf8.decode s i) := by
  have hb : ∀ k, (s.get! (i + k)).toNat < 256 := fun k => (s.get! (i + k)).toNat_lt
  have e0 : ∀ {j : Nat}, i ≤ j → j < i + 1 → 128 ≤ (s.get! j).toNat := fun {j} h1 h2 => by
    obtain rfl : j = i := by omega
    exact ha
  have hone : FarD s i (Utf8.runeError, 1) := ⟨by decide, .inl rfl, by decide, by show i + 1 ≤ _; omega, fun j h1 h2 => e0 h1 h2⟩
  have hn : ¬ (s.get! (i + 0)).toNat < 128 := by rw [Nat.add_zero]; omega
  simp only [Utf8.decode]
  rw [if_neg hn]
  split
  · rename_i hc
    simp only [Bool.and_eq_true, decide_eq_true_eq, beq_iff_eq] at hc
    split
    · rename_i hd
      refine ⟨by omega, .inr ?_, by omega, by omega, fun j h1 h2 => ?_⟩
      · rw [validRune_eq, validRune, decide_eq_true_eq]
        have := hb 0; have := hb 1
        left; constructor <;> omega
      · rcases (show j = i ∨ j = i + 1 by simp only at h2; omega) with rfl | rfl
        · exact ha
        · omega
    · exact hone
  · split
    · rename_i hc
      simp only [Bool.and_eq_true, decide_eq_true_eq, beq_iff_eq] at hc
      split
      · rename_i hd
        simp only [Bool.and_eq_true, decide_eq_true_eq] at hd
        refine ⟨by omega, .inr hd.2, by omega, by omega, fun j h1 h2 => ?_⟩
        rcases (show j = i ∨ j = i + 1 ∨ j = i + 2 by simp only at h2; omega) with rfl | rfl | rfl
        · exact ha
        · omega
        · omega
      · exact hone
    · split
      · rename_i hc
        simp only [Bool.and_eq_true, decide_eq_true_eq, beq_iff_eq] at hc
        split
        · rename_i hd
          simp only [Bool.and_eq_true, decide_eq_true_eq] at hd
          refine ⟨by omega, .inr hd.2, by omega, by omega, fun j h1 h2 => ?_⟩
          rcases (show j = i ∨ j = i + 1 ∨ j = i + 2 ∨ j = i + 3 by simp only at h2; omega) with rfl | rfl | rfl | rfl
          · exact ha
          · omega
          · omega
          · omega
        · exact hone
      · exact hone
theorem get_eq (s : ByteArray) (j : Nat) (h : j < s.size) : s.get! j = s[j]'h := by
  have := get_at s j h
  rwa [Nat.add_zero] at this
set_option maxRecDepth 100000 in
set_option maxHeartbeats 8000000 in
/-- strings.IndexAny of the three signs, in a text of at most 8 bytes, whatever they are. -/
theorem indexAny_short (s : ByteArray) (w : World) (h8 : s.size ≤ 8) :
    Calls Try.prog 167 #[.string s, .string ⟨#[32, 40, 41]⟩] w fun e w' => e = .returned (.int .i64 (Lib.indexAny s.data.toList [32, 40, 41])) ∧ Below w.heap.size w w' := by
  have hsg : (⟨#[32, 40, 41]⟩ : ByteArray) = sgs := rfl
  have hsz : sgs.size = 3 := rfl
  have hemp : sgs.toList.isEmpty = false := by rw [Lib.toList_data]; decide
  have h8z : decide ((8 : Int) < (s.size : Int)) = false := decide_eq_false (by omega)
  have HSU := Lib.hid fun W => (Try.strings_shouldUseASCIISet s.size W).mono fun e w' ⟨he, hw⟩ => (⟨he.trans (by rw [h8z]), hw⟩ : e = Ending.returned (.bool false) ∧ w' = W)
  have HFR := Lib.hid fun (r : Int) (h : r = 65533 ∨ (r ≠ 65533 ∧ 128 ≤ r ∧ Utf8.valid r = true)) W => (show Calls Try.prog 179 #[.string sgs, .int .i32 r] W fun e w' => e = .returned (.int .i64 (-1)) ∧ Below W.heap.size W w' from by
    rcases h with rfl | ⟨h1, h2, h3⟩
    · exact irune_err W
    · exact irune_far r h2 h1 h3 W)
  have HAS := Lib.hid fun (x : UInt8) (hx : x.toNat < 128) W => (Try.strings_IndexRune_ascii sgs (x.toNat : Int) W (by omega) (by omega)).mono fun e w' ⟨he, hw⟩ => (⟨he.trans (by rw [Int.toNat_natCast, Nat.toUInt8_eq, UInt8.ofNat_toNat]; rfl), by rw [hw]; exact Below.refl _ _⟩ : e = Ending.returned (.int .i64 (Lib.indexByte [32, 40, 41] x)) ∧ Below W.heap.size W w')
  rw [hsg]
  clear hsg
  go_enter Try.func167, Try.ntmps167
  go_wp2_with (go_at_call 180; refine (HSU.out _).mono ?_; rintro e w2 ⟨rfl, hw2⟩; obtain rfl := hw2.symm)
  go_loopg [9, 10] s.size (fun g _ _ wx => ∃ i : Nat, i + g = s.size ∧ wx.heap[w.heap.size]? = some (.stringIter s i) ∧ Hid (Below w.heap.size w wx) ∧ Hid (Lib.NoAny s.data.toList [32, 40, 41] i))
  case atStart => exact ⟨0, by omega, World.iter_heap _ _ _, Lib.hid ((Below.refl _ _).alloc (Nat.le_refl _) _), Lib.hid (Lib.NoAny.zero _ _)⟩
  case round =>
    rename World => wx
    obtain ⟨i, hig, hk, HB, HN⟩ := hrel
    have hlk : w.heap.size < wx.heap.size := (Array.getElem?_eq_some_iff.1 hk).1
    cases gk with
    | zero =>
      obtain rfl : i = s.size := by omega
      have hnx := fun ty => run_next_end_at (P := Try.prog) wx w.heap.size s s.size ty hk (by omega)
      clear hk
      go_wp2
      go_ret
      exact ⟨by rw [Lib.indexAny_none (by rw [← Lib.size_eq]; exact HN.out)]; rfl, HB.out⟩
    | succ g =>
      have hi : i < s.size := by omega
      have hnx := fun ty => run_next_any_at (P := Try.prog) wx w.heap.size s i ty hk hi
      have hk2 : ∀ p, (wx.iterAt w.heap.size s p).heap[w.heap.size]? = some (.stringIter s p) := fun p => iterAt_heap wx _ s i p hk
      have hb2 : ∀ p, Below w.heap.size w (wx.iterAt w.heap.size s p) := fun p => below_iterAt HB.out (Nat.le_refl _) s p
      have hl2 : ∀ p, (wx.iterAt w.heap.size s p).heap.size = wx.heap.size := fun p => iterAt_size _ _ _ _
      obtain ⟨x, hx⟩ : ∃ x : UInt8, s[i]'hi = x := ⟨_, rfl⟩
      have Hx : Hid (s.data.toList[i]? = some x) := Lib.hid (by rw [← hx]; exact Lib.data_getElem? s i hi)
      by_cases hx8 : x.toNat < 128
      · rw [decode_ascii s i hi (by rw [hx]; exact hx8), hx] at hnx
        have HRU := Lib.hid (HAS.out x hx8)
        have HK2 := Lib.hid (hk2 (i + 1))
        have HB2 := Lib.hid (hb2 (i + 1))
        have hl3 := hl2 (i + 1)
        clear hk2 hb2 hl2 hk hx hx8
        generalize wx.iterAt w.heap.size s (i + 1) = wy at *
        have hcon := Lib.contains_iff_indexByte [32, 40, 41] x
        cases hin : [(32 : UInt8), 40, 41].contains x
        · rw [hin] at hcon
          have hlt : ¬ ((0 : Int) ≤ Lib.indexByte [32, 40, 41] x) := of_decide_eq_false hcon.symm
          have HIN := Lib.hid hin
          clear hcon hin
          generalize Lib.indexByte [32, 40, 41] x = d at *
          go_wp2_with (go_at_call 179; refine (HRU.out _).mono ?_; rintro e w3 ⟨rfl, hb3⟩)
          go_roundg g
          case measure => omega
          case rel => exact ⟨i + 1, by omega, (hb3.block _ (by omega)).trans HK2.out, Lib.hid (HB2.out.trans (hb3.mono (by omega))), Lib.hid (HN.out.succ Hx.out HIN.out)⟩
        · rw [hin] at hcon
          have hge : (0 : Int) ≤ Lib.indexByte [32, 40, 41] x := of_decide_eq_true hcon.symm
          have HIN := Lib.hid hin
          clear hcon hin
          generalize Lib.indexByte [32, 40, 41] x = d at *
          go_wp2_with (go_at_call 179; refine (HRU.out _).mono ?_; rintro e w3 ⟨rfl, hb3⟩)
          go_ret
          exact ⟨by rw [Lib.indexAny_hit HN.out Hx.out HIN.out]; rfl, HB2.out.trans (hb3.mono (by omega))⟩
      · have hf := farD s i hi (by rw [get_eq s i hi, hx]; omega)
        have HF := Lib.hid hf
        have HRU := Lib.hid (HFR.out ((Utf8.decode s i).1 : Int) (by
          have h1 := hf.hi
          by_cases he : (Utf8.decode s i).1 = 65533
          · left; omega
          · rcases hf.va with h | h
            · exact absurd h he
            · exact .inr ⟨by omega, by omega, h⟩))
        have HK2 := Lib.hid (hk2 (i + (Utf8.decode s i).2))
        have HB2 := Lib.hid (hb2 (i + (Utf8.decode s i).2))
        have hl3 := hl2 (i + (Utf8.decode s i).2)
        have hw1 := hf.w1
        have hw2 := hf.w2
        clear hk2 hb2 hl2 hk hx hx8 hf
        generalize wx.iterAt w.heap.size s (i + (Utf8.decode s i).2) = wy at *
        have HNN : Hid (Lib.NoAny s.data.toList [32, 40, 41] (i + (Utf8.decode s i).2)) := Lib.hid fun j b hj hb => by
          by_cases hji : j < i
          · exact HN.out j b hji hb
          · have h1 := HF.out.by_ j (by omega) hj
            have hjs : j < s.size := by omega
            rw [get_eq s j hjs] at h1
            rw [Lib.data_getElem? s j hjs] at hb
            cases hb
            rw [Bool.eq_false_iff]
            intro hc
            have : s[j] ∈ [(32 : UInt8), 40, 41] := List.contains_iff_mem.1 hc
            have : ∀ b ∈ [(32 : UInt8), 40, 41], b.toNat < 128 := by decide
            have := this _ (by assumption)
            omega
        clear HF
        generalize (Utf8.decode s i).1 = d at *
        generalize (Utf8.decode s i).2 = q at *
        go_wp2_with (go_at_call 179; refine (HRU.out _).mono ?_; rintro e w3 ⟨rfl, hb3⟩)
        go_roundg (s.size - (i + q))
        case measure => omega
        case rel => exact ⟨i + q, by omega, (hb3.block _ (by omega)).trans HK2.out, Lib.hid (HB2.out.trans (hb3.mono (by omega))), HNN⟩
/-- strings.IndexAny of the three signs, in whatever text. -/
theorem indexAny_signs (s : ByteArray) (w : World) (hs : s.size ≤ 100000000) :
    Calls Try.prog 167 #[.string s, .string ⟨#[32, 40, 41]⟩] w fun e w' => e = .returned (.int .i64 (Lib.indexAny s.data.toList [32, 40, 41])) ∧ Below w.heap.size w w' := by
  by_cases h8 : s.size ≤ 8
  · exact indexAny_short s w h8
  · have h := Try.strings_IndexAny_long (fun w => by kernel_rfl) s ⟨#[32, 40, 41]⟩ w (by decide) (by omega) (by omega) (by decide) (fun j b hj => by
      have hm : b ∈ [(32 : UInt8), 40, 41] := List.mem_of_getElem? hj
      clear hj
      revert b
      decide)
    exact h.mono fun e w' ⟨he, hw⟩ => ⟨he, by rw [hw]; exact ((Below.refl _ _).alloc (Nat.le_refl _) _).alloc (by simp) _⟩
end Go.Proofs.Ytflfmcikfiaoiaa
