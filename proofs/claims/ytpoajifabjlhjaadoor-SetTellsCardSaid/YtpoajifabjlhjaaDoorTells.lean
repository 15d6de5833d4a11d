/- SetTells, walked. -/
import Derived.Test.YtpoajifabjlhjaaDoorSplits
namespace Go.Proofs.YtpoajifabjlhjaaDoor
open Go.RowKit

/-- A block of 64 bools. -/
def Flags (w : World) (B : Nat) (f : Nat → Bool) : Prop := ∃ (cs : Array Value) (t : TypeId), w.heap[B]? = some (.cells cs t (0, 0)) ∧ cs.size = 64 ∧ ∀ i, i < 64 → cs[i]? = some (.bool (f i))
theorem Flags.cell {w : World} {B : Nat} {f : Nat → Bool} (h : Flags w B f) (i : Nat) (hi : i < 64) : w.cell? ⟨B, i, none⟩ = some (.bool (f i)) := by
  obtain ⟨cs, t, h1, _, h3⟩ := h
  unfold World.cell?
  rw [show (⟨B, i, none⟩ : Addr).block = B from rfl, h1]
  exact h3 i hi
theorem Flags.free {w : World} {B : Nat} {f : Nat → Bool} (h : Flags w B f) (i : Nat) : w.frozen? ⟨B, i, none⟩ = false := by
  obtain ⟨cs, t, h1, _, _⟩ := h
  unfold World.frozen?
  rw [show (⟨B, i, none⟩ : Addr).block = B from rfl, h1]
  simp
theorem Flags.lt {w : World} {B : Nat} {f : Nat → Bool} (h : Flags w B f) : B < w.heap.size := by
  obtain ⟨cs, t, h1, _, _⟩ := h
  rcases Nat.lt_or_ge B w.heap.size with h | h
  · exact h
  · rw [Array.getElem?_eq_none h] at h1; cases h1
theorem Flags.same {w w' : World} {B : Nat} {f : Nat → Bool} (h : Flags w B f) (e : w'.heap[B]? = w.heap[B]?) : Flags w' B f := by
  obtain ⟨cs, t, h1, h2, h3⟩ := h
  exact ⟨cs, t, e.trans h1, h2, h3⟩
theorem Flags.below {w w' : World} {B : Nat} {f : Nat → Bool} (h : Flags w B f) (hb : Below w.heap.size w w') : Flags w' B f := h.same (hb.block B h.lt)
theorem Flags.congr {w : World} {B : Nat} {f g : Nat → Bool} (h : Flags w B f) (e : ∀ i, i < 64 → f i = g i) : Flags w B g := by
  obtain ⟨cs, t, h1, h2, h3⟩ := h
  exact ⟨cs, t, h1, h2, fun i hi => by rw [h3 i hi, e i hi]⟩
theorem Flags.set {w : World} {B : Nat} {f : Nat → Bool} (h : Flags w B f) (i : Nat) (b : Bool) : Flags (w.setCell ⟨B, i, none⟩ (.bool b)) B (fun j => if j = i then b else f j) := by
  obtain ⟨cs, t, h1, h2, h3⟩ := h
  refine ⟨cs.setIfInBounds i (.bool b), t, ?_, by simpa using h2, fun j hj => ?_⟩
  · simp [World.setCell, Array.getElem?_modify, h1]
  · rw [Array.getElem?_setIfInBounds]
    by_cases e : i = j
    · subst e; rw [if_pos rfl, if_pos (by omega)]; simp
    · rw [if_neg e, h3 j hj]; simp [show ¬ j = i from fun h => e h.symm]
theorem Flags.other {w : World} {B : Nat} {f : Nat → Bool} (h : Flags w B f) (a : Addr) (v : Value) (hne : B ≠ a.block) : Flags (w.setCell a v) B f :=
  h.same (by simp [World.setCell, Array.getElem?_modify]; intro e; exact absurd e.symm hne)
theorem Flags.new (w : World) (t : TypeId) : Flags (w.alloc (.cells (Array.replicate 64 (.bool false)) t (0, 0))) w.heap.size (fun _ => false) :=
  ⟨_, t, heap_alloc_new w _, by simp, fun i hi => by simp [hi]⟩
theorem flags_step (l : List Int) (n : Int) (j : Nat) (hj : j < 64) (h : 0 ≤ n ∧ n < 64) : (if j = n.toNat then true else (ofL l).testBit j) = (ofL (l ++ [n])).testBit j := by
  rw [ofL_snoc, Nat.testBit_or, bit_dig]
  by_cases e : j = n.toNat
  · rw [if_pos e, decide_eq_true (by omega)]; simp
  · rw [if_neg e, decide_eq_false (by omega)]; simp
theorem flags_skip (l : List Int) (n : Int) (j : Nat) (hj : j < 64) (h : n < 0 ∨ 64 ≤ n) : (ofL l).testBit j = (ofL (l ++ [n])).testBit j := by
  rw [ofL_snoc, Nat.testBit_or, bit_dig, decide_eq_false (by omega)]; simp
theorem shr_bit (s k : Nat) (hs : s < 18446744073709551616) (hk : k < 64) : (bits .and .u64 ((s : Int) / 2 ^ min (IntKind.u64.wrap (k : Int)).toNat 64) 1 == 1) = s.testBit k := by
  have e1 : (IntKind.u64.wrap (k : Int)).toNat = k := by rw [IntKind.wrap_u64]; omega
  have e2 : (s : Int) / 2 ^ k = ((s / 2 ^ k : Nat) : Int) := by simp
  have e3 : s / 2 ^ k < 18446744073709551616 := Nat.lt_of_le_of_lt (Nat.div_le_self _ _) hs
  have e4 := and_nat (s / 2 ^ k) 1 e3 (by decide)
  rw [e1, Nat.min_eq_left (by omega), e2, show (1 : Int) = ((1 : Nat) : Int) from rfl, e4, Nat.and_one_is_mod, Nat.testBit_eq_decide_div_mod_eq, Bool.eq_iff_iff, beq_iff_eq, decide_eq_true_iff]
  omega
theorem shr_bit' (s k : Nat) (hs : s < 18446744073709551616) : ∃ q : Nat, (s : Int) / 2 ^ k = (q : Int) ∧ bits .and .u64 (q : Int) 1 = if s.testBit k = true then 1 else 0 := by
  have e2 : (s : Int) / 2 ^ k = ((s / 2 ^ k : Nat) : Int) := by simp
  have e3 : s / 2 ^ k < 18446744073709551616 := Nat.lt_of_le_of_lt (Nat.div_le_self _ _) hs
  refine ⟨_, e2, ?_⟩
  rw [show (1 : Int) = ((1 : Nat) : Int) from rfl, and_nat _ 1 e3 (by decide), Nat.and_one_is_mod, Nat.testBit_eq_decide_div_mod_eq]
  generalize s / 2 ^ k = m
  rcases Nat.mod_two_eq_zero_or_one m with h | h <;> simp [h]
/-- Are those of s below k all in t? -/
def inK (s t k : Nat) : Bool := (List.range k).all fun j => !s.testBit j || t.testBit j
/-- Those of s below k, rising. -/
def lst (s k : Nat) : List Nat := (List.range k).filter fun i => s.testBit i
theorem lst_len (s k : Nat) : (lst s k).length ≤ k := by
  have := List.length_filter_le (fun i => s.testBit i) (List.range k); simpa [lst] using this
theorem inK_all (s t : Nat) (hs : s < 18446744073709551616) (ht : t < 18446744073709551616) : inK s t 64 = decide (less s t = 0) := by
  unfold inK
  rw [Bool.eq_iff_iff, List.all_eq_true, decide_eq_true_iff]
  constructor
  · intro h
    apply Nat.eq_of_testBit_eq; intro i
    rw [bit_less s t i hs ht, Nat.zero_testBit]
    by_cases hi : i < 64
    · have := h i (List.mem_range.2 hi)
      revert this
      cases s.testBit i <;> cases t.testBit i <;> simp
    · rw [bit_high s i hs hi]; rfl
  · intro h i _
    have := bit_less s t i hs ht
    rw [h, Nat.zero_testBit] at this
    revert this
    cases s.testBit i <;> cases t.testBit i <;> simp
theorem ints_of_row' {w : World} {base n cap : Nat} {A : Option Addr} {xs : List Nat} (h : w.ownsRow base 3 1 (.slice A n cap) n (xs.map fun i => .int .i64 (i : Nat))) (hn : n ≤ 9223372036854775807) : Ints w A n (ints xs) := by
  rcases h.2 with ⟨e, h0⟩ | ⟨g, c, cur, e, _⟩
  · exact ⟨by have := h.1; simpa [ints] using this, hn, .inl h0⟩
  · injection e with e1 e2 e3
    subst e1
    exact ints_of_own h hn
theorem inK_succ (s t k : Nat) : inK s t (k + 1) = (inK s t k && (!s.testBit k || t.testBit k)) := by
  unfold inK; rw [List.range_succ, List.all_append]; simp
theorem lst_succ (s k : Nat) : lst s (k + 1) = lst s k ++ (if s.testBit k = true then [k] else []) := by
  unfold lst; rw [List.range_succ, List.filter_append, List.filter_cons, List.filter_nil]
set_option maxRecDepth 100000 in
set_option maxHeartbeats 100000000 in
theorem tells_walk (a0 : Option Addr) (len0 cap0 : Nat) (z0 : List Int) (a1 : Option Addr) (len1 cap1 : Nat) (z1 : List Int) (n : Int) (w : World) (w0 : IsRow .i64 w a0 len0 cap0 z0) (w1 : IsRow .i64 w a1 len1 cap1 z1) (HT : Tab w) :
    Calls Tryd.prog 4 #[.slice a0 len0 cap0, .slice a1 len1 cap1, .int .i64 n] w fun e w' => e = .returned (.bool true) ∧ Below w.heap.size w w' := by
  have I0 := Lib.hid w0.ints
  have I1 := Lib.hid w1.ints
  have hl0 := w0.ints.2.1
  have hl1 := w1.ints.2.1
  clear w0 w1
  generalize z0.take len0 = y0 at *
  generalize z1.take len1 = y1 at *
  obtain ⟨i0, hi, hz0, hz1, hz2⟩ := info_parts infoI
  go_enter Tryd.func4, Tryd.ntmps4
  go_wp2_with fail
  go_loopw [20] (fun i wr => ∃ k : Nat, k ≤ len0 ∧ i = .int .i64 k ∧ Flags wr w.heap.size (fun j => (ofL (y0.take k)).testBit j) ∧ Flags wr (w.heap.size + 1) (fun _ => false) ∧ Below w.heap.size w wr) (fun i _ => len0 - (intOf i).toNat)
  case atStart =>
    refine ⟨0, Nat.zero_le _, rfl, ?_, ?_, ?_⟩
    · exact ((Flags.new w 35).congr (fun i hi => by simp [ofL])).below ((Below.refl _ _).alloc (Nat.le_refl _) _)
    · have := Flags.new (w.alloc (.cells (Array.replicate 64 (.bool false)) 35 (0, 0))) 35
      rw [show (w.alloc (.cells (Array.replicate 64 (.bool false)) 35 (0, 0))).heap.size = w.heap.size + 1 by simp] at this
      exact this
    · exact ((Below.refl _ _).alloc (Nat.le_refl _) _).alloc (by simp) _
  case round =>
    obtain ⟨k, hk, rfl, hfa, hfb, hbr⟩ := hrel
    rename_i wr
    by_cases hlt : k < len0
    · rcases I0.out.2.2 with h | ⟨b, off, rfl, hb, hc⟩
      · omega
      have hcell := (hbr.cell (p := ⟨b, off + k, none⟩) hb).trans (hc k hlt)
      have HS := Lib.hid (take_snoc y0 k (by have := I0.out.1; omega))
      generalize y0.getD k 0 = x at *
      have HFA := Lib.hid hfa
      have HFB := Lib.hid hfb
      have HBR := Lib.hid hbr
      clear hc hfa hfb hbr
      by_cases hx : 0 ≤ x ∧ x < 64
      · obtain ⟨x0, x1⟩ := hx
        obtain ⟨q, rfl⟩ := Int.eq_ofNat_of_zero_le x0
        have hq : q < 64 := by omega
        have hcq := HFA.out.cell q hq
        have hfq := HFA.out.free q
        go_wp2
        refine ⟨⟨k + 1, by omega, by go_num, ?_, HFB.out.other _ _ (by simp), HBR.out.setCell (Nat.le_refl _) _⟩, by simp [intOf]; omega⟩
        rw [HS.out]
        exact (HFA.out.set q true).congr fun j hj => by have := flags_step (y0.take k) q j hj ⟨x0, x1⟩; rw [Int.toNat_natCast] at this; exact this
      · have HX : Hid (x < 0 ∨ 64 ≤ x) := Lib.hid (by omega)
        rcases Int.lt_or_le x 0 with h | h
        · go_wp2
          refine ⟨⟨k + 1, by omega, by go_num, ?_, HFB.out, HBR.out⟩, by simp [intOf]; omega⟩
          rw [HS.out]
          exact HFA.out.congr fun j hj => flags_skip _ _ j hj HX.out
        · have h64 : 64 ≤ x := by omega
          go_wp2
          refine ⟨⟨k + 1, by omega, by go_num, ?_, HFB.out, HBR.out⟩, by simp [intOf]; omega⟩
          rw [HS.out]
          exact HFA.out.congr fun j hj => flags_skip _ _ j hj HX.out
    · have hk2 : y0.take k = y0 := List.take_of_length_le (by have := I0.out.1; omega)
      rw [hk2] at hfa
      have HFA := Lib.hid hfa
      have HFB := Lib.hid hfb
      have HBR := Lib.hid hbr
      clear hfa hfb hbr hk2
      go_wp2_with fail
      go_loopw [35] (fun i w2 => ∃ k : Nat, k ≤ len1 ∧ i = .int .i64 k ∧ Flags w2 w.heap.size (fun j => (ofL y0).testBit j) ∧ Flags w2 (w.heap.size + 1) (fun j => (ofL (y1.take k)).testBit j) ∧ Below w.heap.size w w2) (fun i _ => len1 - (intOf i).toNat)
      case atStart => exact ⟨0, Nat.zero_le _, rfl, HFA.out, HFB.out.congr (fun i hi => by simp [ofL]), HBR.out⟩
      case round =>
        clear HFA HFB HBR
        obtain ⟨k2, hk2, rfl, hfa, hfb, hbr⟩ := hrel
        rename_i w2
        by_cases hlt2 : k2 < len1
        · rcases I1.out.2.2 with h | ⟨b, off, rfl, hb, hc⟩
          · omega
          have hcell := (hbr.cell (p := ⟨b, off + k2, none⟩) hb).trans (hc k2 hlt2)
          have HS := Lib.hid (take_snoc y1 k2 (by have := I1.out.1; omega))
          generalize y1.getD k2 0 = x at *
          have HFA := Lib.hid hfa
          have HFB := Lib.hid hfb
          have HBR := Lib.hid hbr
          clear hc hfa hfb hbr
          by_cases hx : 0 ≤ x ∧ x < 64
          · obtain ⟨x0, x1⟩ := hx
            obtain ⟨q, rfl⟩ := Int.eq_ofNat_of_zero_le x0
            have hq : q < 64 := by omega
            have hcq := HFB.out.cell q hq
            have hfq := HFB.out.free q
            go_wp2
            refine ⟨⟨k2 + 1, by omega, by go_num, HFA.out.other _ _ (by simp), ?_, HBR.out.setCell (by simp) _⟩, by simp [intOf]; omega⟩
            rw [HS.out]
            exact (HFB.out.set q true).congr fun j hj => by have := flags_step (y1.take k2) q j hj ⟨x0, x1⟩; rw [Int.toNat_natCast] at this; exact this
          · have HX : Hid (x < 0 ∨ 64 ≤ x) := Lib.hid (by omega)
            rcases Int.lt_or_le x 0 with h | h
            · go_wp2
              refine ⟨⟨k2 + 1, by omega, by go_num, HFA.out, ?_, HBR.out⟩, by simp [intOf]; omega⟩
              rw [HS.out]
              exact HFB.out.congr fun j hj => flags_skip _ _ j hj HX.out
            · have h64 : 64 ≤ x := by omega
              go_wp2
              refine ⟨⟨k2 + 1, by omega, by go_num, HFA.out, ?_, HBR.out⟩, by simp [intOf]; omega⟩
              rw [HS.out]
              exact HFB.out.congr fun j hj => flags_skip _ _ j hj HX.out
        · have hk3 : y1.take k2 = y1 := List.take_of_length_le (by have := I1.out.1; omega)
          rw [hk3] at hfb
          have HFA := Lib.hid hfa
          have HFB := Lib.hid hfb
          have HBR := Lib.hid hbr
          clear hfa hfb hbr hk3
          go_wp2_with fail
          refine (of_any _ _ _ _ _ (I0.out.below HBR.out)).mono ?_
          rintro e w3 ⟨rfl, rfl⟩
          go_wp2_with fail
          refine (of_any _ _ _ _ _ (I1.out.below HBR.out)).mono ?_
          rintro e w4 ⟨rfl, rfl⟩
          have hs := ofL_lt y0
          have ht := ofL_lt y1
          have HTW := Lib.hid (HT.below HBR.out)
          clear I0 I1
          generalize ofL y0 = s at *
          generalize ofL y1 = t at *
          go_wp2_with fail
          go_loopw [15, 16, 17] (fun vi v i wr => ∃ k : Nat, k ≤ 64 ∧ i = .int .i64 k ∧ vi = .bool (inK s t k) ∧ wr.ownsRow w4.heap.size 3 1 v (lst s k).length ((lst s k).map fun i => .int .i64 (i : Nat)) ∧ Below w4.heap.size w4 wr) (fun _ _ i _ => 64 - (intOf i).toNat)
          case atStart => exact ⟨0, by omega, rfl, rfl, World.ownsRow_nil _ _ _ _, Below.refl _ _⟩
          case round =>
            obtain ⟨k3, hk3, rfl, rfl, hown, hb4⟩ := hrel
            rename_i wr2
            by_cases hlt3 : k3 < 64
            · have hca := (HFA.out.below hb4).cell k3 hlt3
              have hcb := (HFB.out.below hb4).cell k3 hlt3
              have HOWN := Lib.hid hown
              have HB4 := Lib.hid hb4
              have h0 : (0 : Int) ≤ k3 := by omega
              have h1 : (k3 : Int) < 64 := by omega
              clear hown hb4
              generalize hsa : s.testBit k3 = sa at *
              generalize htb : t.testBit k3 = tb at *
              have C1 : Hid (∀ W, Calls Tryd.prog 10 #[.int .u64 (s : Nat), .int .i64 (k3 : Nat)] W fun e w' => e = .returned (.bool sa) ∧ w' = W) := Lib.hid (has_bit s k3 sa hs hlt3 hsa)
              obtain ⟨b2, hb2, C2⟩ : ∃ b, b = (sa || tb) ∧ Hid (∀ W, Calls Tryd.prog 10 #[.int .u64 ((s ||| t : Nat) : Int), .int .i64 (k3 : Nat)] W fun e w' => e = .returned (.bool b) ∧ w' = W) := ⟨_, rfl, Lib.hid (has_bit (s ||| t) k3 _ (or_lt s t hs ht) hlt3 (by rw [Nat.testBit_or, hsa, htb]))⟩
              obtain ⟨b3, hb3, C3⟩ : ∃ b, b = (sa && tb) ∧ Hid (∀ W, Calls Tryd.prog 10 #[.int .u64 ((s &&& t : Nat) : Int), .int .i64 (k3 : Nat)] W fun e w' => e = .returned (.bool b) ∧ w' = W) := ⟨_, rfl, Lib.hid (has_bit (s &&& t) k3 _ (and_lt s t hs) hlt3 (by rw [Nat.testBit_and, hsa, htb]))⟩
              obtain ⟨b4, hb4, C4⟩ : ∃ b, b = (sa && !tb) ∧ Hid (∀ W, Calls Tryd.prog 10 #[.int .u64 ((less s t : Nat) : Int), .int .i64 (k3 : Nat)] W fun e w' => e = .returned (.bool b) ∧ w' = W) := ⟨_, rfl, Lib.hid (has_bit (less s t) k3 _ (less_lt s t hs) hlt3 (by rw [bit_less s t k3 hs ht, hsa, htb]))⟩
              obtain ⟨d, hd1, b5, hb5, C5⟩ : ∃ d, ((k3 : Int) == n) = d ∧ ∃ b, b = (sa || d) ∧ Hid (∀ W, Calls Tryd.prog 10 #[.int .u64 ((s ||| dig n : Nat) : Int), .int .i64 (k3 : Nat)] W fun e w' => e = .returned (.bool b) ∧ w' = W) := ⟨decide (n = (k3 : Int)), by rw [Bool.eq_iff_iff, beq_iff_eq, decide_eq_true_iff, eq_comm], _, rfl, Lib.hid (has_bit (s ||| dig n) k3 _ (or_lt s _ hs (dig_lt n)) hlt3 (by rw [Nat.testBit_or, hsa, bit_dig]; simp [hlt3]))⟩
              have HIN : Hid (inK s t (k3 + 1) = (inK s t k3 && (!sa || tb))) := Lib.hid (by rw [inK_succ, hsa, htb])
              have HLS : Hid (lst s (k3 + 1) = lst s k3 ++ (if sa = true then [k3] else [])) := Lib.hid (by rw [lst_succ, hsa])
              have hw64 : IntKind.u64.wrap (k3 : Int) = (k3 : Int) := by rw [IntKind.wrap_u64]; omega
              have hmin : min k3 64 = k3 := Nat.min_eq_left (by omega)
              obtain ⟨q, hq, hq1⟩ := shr_bit' s k3 hs
              rw [hsa] at hq1
              have hll := lst_len s k3
              obtain ⟨A, cap, rfl⟩ : ∃ A cap, u16 = .slice A (lst s k3).length cap := by
                rcases HOWN.out.2 with ⟨rfl, h⟩ | ⟨g, cap, cur, rfl, _⟩
                · exact ⟨none, 0, by rw [h]⟩
                · exact ⟨_, _, rfl⟩
              clear hsa htb
              cases sa
              · rw [if_neg (by decide)] at hq1
                rw [if_neg (by decide), List.append_nil] at HLS
                cases tb <;> cases d
                all_goals
                  simp at hb2 hb3 hb4 hb5
                  subst hb2 hb3 hb4 hb5
                  as_aux_lemma =>
                    go_wp2_with fail
                    go_quiet ((first | with_reducible exact Calls.quiet_of_same (C1.out _) | with_reducible exact Calls.quiet_of_same (join_any s t hs ht _) | with_reducible exact Calls.quiet_of_same (C2.out _) | with_reducible exact Calls.quiet_of_same (both_any s t hs ht _) | with_reducible exact Calls.quiet_of_same (C3.out _) | with_reducible exact Calls.quiet_of_same (less_any s t hs ht _) | with_reducible exact Calls.quiet_of_same (C4.out _) | with_reducible exact Calls.quiet_of_same (with_any s n hs _) | with_reducible exact Calls.quiet_of_same (C5.out _)))
                    have HO6 := Lib.hid (show (wr.drewN nq).ownsRow w4.heap.size 3 1 _ _ _ from HOWN.out)
                    have HB6 := Lib.hid (below_drewN HB4.out nq)
                    have hca6 := (show (wr.drewN nq).cell? ⟨w.heap.size, k3, none⟩ = some (.bool _) from hca)
                    have hcb6 := (show (wr.drewN nq).cell? ⟨w.heap.size + 1, k3, none⟩ = some (.bool _) from hcb)
                    clear HOWN HB4 C1 C2 C3 C4 C5 hca hcb
                    generalize wr.drewN nq = w6 at *
                    go_wp2_with fail
                    all_goals
                      refine ⟨⟨k3 + 1, by omega, by go_num, ?_, ?_, HB6.out⟩, by simp [intOf]; omega⟩
                      · rw [HIN.out]; simp [*]
                      · rw [HLS.out]; exact HO6.out
              · rw [if_pos rfl] at hq1
                rw [if_pos rfl] at HLS
                cases tb
                all_goals
                  simp at hb2 hb3 hb4 hb5
                  subst hb2 hb3 hb4 hb5
                  as_aux_lemma =>
                    go_wp2_with fail
                    go_quiet ((first | with_reducible exact Calls.quiet_of_same (C1.out _) | with_reducible exact Calls.quiet_of_same (join_any s t hs ht _) | with_reducible exact Calls.quiet_of_same (C2.out _) | with_reducible exact Calls.quiet_of_same (both_any s t hs ht _) | with_reducible exact Calls.quiet_of_same (C3.out _) | with_reducible exact Calls.quiet_of_same (less_any s t hs ht _) | with_reducible exact Calls.quiet_of_same (C4.out _) | with_reducible exact Calls.quiet_of_same (with_any s n hs _) | with_reducible exact Calls.quiet_of_same (C5.out _)))
                    have HO6 := Lib.hid (show (wr.drewN nq).ownsRow w4.heap.size 3 1 _ _ _ from HOWN.out)
                    have HB6 := Lib.hid (below_drewN HB4.out nq)
                    have hca6 := (show (wr.drewN nq).cell? ⟨w.heap.size, k3, none⟩ = some (.bool _) from hca)
                    have hcb6 := (show (wr.drewN nq).cell? ⟨w.heap.size + 1, k3, none⟩ = some (.bool _) from hcb)
                    clear HOWN HB4 C1 C2 C3 C4 C5 hca hcb
                    generalize wr.drewN nq = w6 at *
                    go_wp2_with (at_builtin; refine wpList_append_own _ rfl _ _ 22 rfl w4.heap.size 3 i0 (.int .i64 0) 1 8 Tryd.underlying22 hi hz0 hz1 hz2 rfl (by decide) _ _ _ rfl (HO6.out.alloc _) ⟨w6.heap.size, 0, none⟩ 1 1 [.int .i64 (k3 : Nat)] rfl rfl (World.news_of_block (cs := #[.int .i64 (k3 : Nat)]) (t := 3) (fr := (0, 0)) (heap_alloc_new w6 _)) (by simp [Value.oneCell']) (by unfold maxLen; omega) (by omega) (by have := HB6.out.size; simp; omega) ?_; intro v7 w7 hown7 hgrow7 _)
                    all_goals
                      have HB7 := Lib.hid ((HB6.out.alloc HB6.out.size _).grown hgrow7 (by have := HB6.out.size; simp; omega) (fun g hg => (HO6.out.lt g hg).1))
                      have HO7 : Hid (w7.ownsRow w4.heap.size 3 1 v7 (lst s (k3 + 1)).length ((lst s (k3 + 1)).map fun i => .int .i64 (i : Nat))) := Lib.hid (by rw [HLS.out, List.length_append, List.map_append]; exact hown7)
                      clear hown7 hgrow7
                      refine ⟨⟨k3 + 1, by omega, by go_num, ?_, HO7.out, HB7.out⟩, by simp [intOf]; omega⟩
                      rw [HIN.out]; simp [*]
            · obtain rfl : k3 = 64 := by omega
              rw [inK_all s t hs ht]
              obtain ⟨A, cap, rfl⟩ : ∃ A cap, u16 = .slice A (lst s 64).length cap := by
                rcases hown.2 with ⟨rfl, h⟩ | ⟨g, cap, cur, rfl, _⟩
                · exact ⟨none, 0, by rw [h]⟩
                · exact ⟨_, _, rfl⟩
              have hlist : lst s 64 = Pop.items s := rfl
              rw [hlist] at hown ⊢
              have HI4 := Lib.hid (ints_of_row' hown (by have := Pop.items_le s; omega))
              have HBW := Lib.hid (HBR.out.trans (hb4.mono HBR.out.size))
              have hc := Pop.items_le s
              clear hown hb4 hlist HFA HFB
              generalize hcc : (Pop.items s).length = c at *
              have HCC := Lib.hid hcc
              clear hcc
              go_wp2_with fail
              refine (in_any s t hs ht _).mono ?_
              rintro e w9 ⟨rfl, rfl⟩
              generalize decide (less s t = 0) = dd
              go_wp2_with fail
              refine (list_ex s hs _ (HT.below HBW.out)).mono ?_
              rintro e w10 ⟨B, rfl, hB, hi10, hb10⟩
              rw [HCC.out] at hi10 ⊢
              have HI10 := Lib.hid hi10
              have HI4' := Lib.hid (HI4.out.below hb10)
              have HB10 := Lib.hid (HBW.out.trans (hb10.mono HBW.out.size))
              clear hi10 hb10 hB HI4
              go_wp2_with fail
              refine (same_any _ _ c _ _ _ c _ _ HI10.out HI4'.out rfl).mono ?_
              rintro e w11 ⟨rfl, hb11⟩
              have HB11 := Lib.hid (HB10.out.trans (hb11.mono HB10.out.size))
              clear hb11 HI10 HI4'
              go_wp2_with fail
              refine (count_is s c hs HCC.out _).mono ?_
              rintro e w12 ⟨rfl, rfl⟩
              go_wp2_with fail
              refine (has_any s (-1) hs _).mono ?_
              rintro e w13 ⟨rfl, rfl⟩
              rw [has_eq s (-1), decide_eq_false (by omega), Bool.false_and]
              go_wp2_with fail
              refine (has_any s 64 hs _).mono ?_
              rintro e w14 ⟨rfl, rfl⟩
              rw [has_eq s 64, decide_eq_false (by omega), Bool.false_and]
              by_cases hn : 0 ≤ n ∧ n < 64
              · obtain ⟨n0, n1⟩ := hn
                go_wp2_with fail
                refine (wakes_any _ (HT.below HB11.out)).mono ?_
                rintro e w15 ⟨rfl, hb15⟩
                have HB15 := Lib.hid (HB11.out.trans (hb15.mono HB11.out.size))
                clear hb15
                go_wp2
                go_ret
                exact ⟨rfl, HB15.out⟩
              · have HD : Hid (s ||| dig n = s) := Lib.hid (by unfold dig; rw [if_neg hn]; simp)
                rcases Int.lt_or_le n 0 with h | h
                · go_wp2_with fail
                  refine (with_any s n hs _).mono ?_
                  rintro e w15 ⟨rfl, rfl⟩
                  rw [HD.out]
                  go_wp2_with fail
                  refine (wakes_any _ (HT.below HB11.out)).mono ?_
                  rintro e w16 ⟨rfl, hb15⟩
                  have HB15 := Lib.hid (HB11.out.trans (hb15.mono HB11.out.size))
                  clear hb15
                  go_wp2
                  go_ret
                  exact ⟨rfl, HB15.out⟩
                · have h64 : 64 ≤ n := by omega
                  clear hn
                  go_wp2_with fail
                  refine (with_any s n hs _).mono ?_
                  rintro e w15 ⟨rfl, rfl⟩
                  rw [HD.out]
                  go_wp2_with fail
                  refine (wakes_any _ (HT.below HB11.out)).mono ?_
                  rintro e w16 ⟨rfl, hb15⟩
                  have HB15 := Lib.hid (HB11.out.trans (hb15.mono HB11.out.size))
                  clear hb15
                  go_wp2
                  go_ret
                  exact ⟨rfl, HB15.out⟩
end Go.Proofs.YtpoajifabjlhjaaDoor
