/- What package set's calls give: each a contract over any world. -/
import Derived.Test.YtpoajifabjlhjaaDoorLeafs
import Derived.LoopTactic
import Derived.Below
import Derived.WalkSmall
import Derived.IntWalk
import Derived.Lib.LaidTab
import Derived.Lib.TrailingZeros
import Derived.Laws.Bits64b
import Derived.Stop.LaidErr
import Derived.LaidMore
import Derived.OwnWalk
import Derived.OpenShut
import Derived.Deep.AppendLies
import Derived.Deep.QuietTactic
import Derived.BigQuiet
namespace Go.Proofs.YtpoajifabjlhjaaDoor
open Go.RowKit

/-! ### The table, and the lowest digit -/
theorem gTab : Tryd.prog.globalNamed "math/bits.deBruijn64tab" = some 0 := by kernel_rfl
/-- The table of the lowest digits is as its initialiser lays it. -/
def Tab (w : World) : Prop := Lib.TabIs Tryd.prog w "math/bits.deBruijn64tab" .u8 (Lib.deBruijn64tab.map Int.ofNat)
theorem Tab.cell {w : World} (h : Tab w) (i : Nat) (hi : i < 64) : w.cell? ⟨0, i, none⟩ = some (.int .u8 (Lib.deBruijn64tab.getD i 0 : Nat)) := by
  have hl : Lib.deBruijn64tab.length = 64 := by decide
  rw [Lib.TabIs.cell h gTab i (by rw [List.length_map, hl]; exact hi)]
  simp [List.getD, hl, hi]
theorem Tab.below {w w' : World} (h : Tab w) (hb : Below w.heap.size w w') : Tab w' := by
  have hc : w.cell? ⟨0, 0, none⟩ = some _ := h.cell 0 (by decide)
  have hlt : 0 < w.heap.size := by
    rcases Nat.lt_or_ge 0 w.heap.size with h1 | h1
    · exact h1
    · have : w.heap[0]? = none := Array.getElem?_eq_none h1
      simp [World.cell?, this] at hc
  exact var?_below hb gTab hlt h
theorem tab_of {W : World} (h : laidMet Tryd.prog [("math/bits.deBruijn64tab", Lib.tabData .u8 (Lib.deBruijn64tab.map Int.ofNat))] W) : Tab W :=
  Lib.tabIs_of_head gTab (by kernel_rfl) Tryd.underlying41 Tryd.underlying5 (by kernel_rfl) (by kernel_rfl) h

theorem tz_key (x a : Nat) (hx : x < 18446744073709551616) (hx0 : x ≠ 0) (hlow : x &&& (18446744073709551616 - x) = a) :
    IntKind.u64.wrap (bits BinOp.and IntKind.u64 (x : Int) (IntKind.u64.wrap (-(x : Int))) * 285870213051353865) / 288230376151711744 = ((a * 285870213051353865 % 18446744073709551616 / 288230376151711744 : Nat) : Int) := by
  have e1 : IntKind.u64.wrap (-(x : Int)) = ((18446744073709551616 - x : Nat) : Int) := by rw [IntKind.wrap_u64]; omega
  rw [e1, and_nat x _ hx (by omega), hlow, IntKind.wrap_u64]
  omega
theorem tz_core (x k idx : Nat) (w : World) (hx0 : ((x : Int) == 0) = false)
    (key : IntKind.u64.wrap (bits BinOp.and IntKind.u64 (x : Int) (IntKind.u64.wrap (-(x : Int))) * 285870213051353865) / 288230376151711744 = (idx : Int))
    (hi : idx < 64) (hk : k < 64) (hcell : w.cell? ⟨0, idx, none⟩ = some (.int .u8 k)) :
    Calls Tryd.prog 19 #[.int .u64 x] w fun e w' => e = .returned (.int .i64 k) ∧ w' = w := by
  go_enter Tryd.func19, Tryd.ntmps19
  go_wp2_with (simp only [key])
  go_ret
  exact ⟨rfl, rfl⟩
theorem tz_any (x : Nat) (hx0 : x ≠ 0) (hx : x < 18446744073709551616) (w : World) (hT : Tab w) :
    Calls Tryd.prog 19 #[.int .u64 x] w fun e w' => e = .returned (.int .i64 (Lib.ctz 64 x : Nat)) ∧ w' = w := by
  obtain ⟨hlow, hk⟩ := Lib.lowest_bit 64 x hx0 hx
  obtain ⟨hi, htab⟩ := Lib.deBruijn64_at _ hk
  have hcell := hT.cell _ hi
  rw [htab] at hcell
  exact tz_core x _ _ w (by simp; omega) (tz_key x _ hx hx0 hlow) hi hk hcell
theorem infoI : (Tryd.prog.info? 3).map (fun i => (i.zero, i.size, i.bytes)) = some (some (.int .i64 0), 1, 8) := by kernel_rfl
theorem low_of (r : Nat) (h0 : r ≠ 0) (h : r < 18446744073709551616) : ∃ k m, k = Lib.ctz 64 r ∧ r = 2 ^ k * (2 * m + 1) ∧ k < 64 := by
  obtain ⟨m, hm, hk⟩ := Lib.ctzFrom_spec 64 r (by omega) h
  exact ⟨_, m, by unfold Lib.ctz; rw [if_neg h0], hm, hk⟩
theorem items_next (r : Nat) (h0 : r ≠ 0) (h : r < 18446744073709551616) : Pop.items r = Lib.ctz 64 r :: Pop.items (r &&& (r - 1)) := by
  obtain ⟨k, m, hk, hr, hlt⟩ := low_of r h0 h
  rw [← hk, hr, Pop.drop_low, Pop.items_step k m hlt]
theorem next_lt (r : Nat) (h0 : r ≠ 0) : r &&& (r - 1) < r := Nat.lt_of_le_of_lt Nat.and_le_right (by omega)
theorem next_nat (r : Nat) (h0 : r ≠ 0) (h : r < 18446744073709551616) : bits .and .u64 (r : Int) ((r : Int) - 1) = ((r &&& (r - 1) : Nat) : Int) := by
  rw [show ((r : Int) - 1) = ((r - 1 : Nat) : Int) by omega, and_nat r _ h (by omega)]
theorem list_any (s : Nat) (hs : s < 18446744073709551616) (w : World) (HT : Tab w) :
    Calls Tryd.prog 9 #[.int .u64 s] w fun e w' => e = .returned (.slice (some ⟨w.heap.size, 0, none⟩) (Pop.items s).length (Pop.items s).length) ∧
      w'.ownsRow w.heap.size 3 1 (.slice (some ⟨w.heap.size, 0, none⟩) (Pop.items s).length (Pop.items s).length) (Pop.items s).length ((Pop.items s).map fun i => .int .i64 (i : Nat)) ∧ Below w.heap.size w w' := by
  have hl := Pop.items_le s
  obtain ⟨i0, hi, hz0, hz1, hz2⟩ := info_parts infoI
  go_enter Tryd.func9, Tryd.ntmps9
  go_wp2_with fail
  refine (count_any s hs _).mono ?_
  rintro e w1 ⟨rfl, rfl⟩
  generalize hc : (Pop.items s).length = c at *
  have HC := Lib.hid hc
  clear hc
  go_wp2_with (at_make; refine wpList_make_own _ rfl _ _ 22 rfl w1.heap.size 3 i0 (.int .i64 0) 1 Tryd.underlying22 hi hz0 hz1 _ _ _ c rfl rfl (by omega) ?b2 ?b3 (Nat.le_refl _) ?_)
  case b2 => rw [hz2]; omega
  case b3 => unfold maxLen; omega
  intro w0 hown0 hgrow0
  have hb0 : Below w1.heap.size w1 w0 := (Below.refl _ _).grown hgrow0 (Nat.le_refl _) (fun k h => by cases h)
  have HB0 := Lib.hid hb0
  have HO0 := Lib.hid hown0
  clear hb0 hown0 hgrow0
  go_wp2_with fail
  go_loopw [3, 4] (fun v i wr => ∃ r : Nat, ∃ xs : List Nat, r < 18446744073709551616 ∧ i = .int .u64 r ∧ v = .slice (some ⟨w1.heap.size, 0, none⟩) xs.length c ∧ Hid (xs ++ Pop.items r = Pop.items s) ∧
      wr.ownsRow w1.heap.size 3 1 (.slice (some ⟨w1.heap.size, 0, none⟩) xs.length c) xs.length (xs.map fun i => .int .i64 (i : Nat)) ∧ Below w1.heap.size w1 wr) (fun _ i _ => (intOf i).toNat)
  case atStart => exact ⟨s, [], hs, rfl, rfl, rfl, HO0.out, HB0.out⟩
  case round =>
    obtain ⟨r, xs, hr, rfl, rfl, hx, hown, hbr⟩ := hrel
    by_cases h0 : r = 0
    · subst h0
      have e := hx.out
      rw [Pop.items_zero, List.append_nil] at e
      subst e
      have hc := HC.out
      subst hc
      go_wp2
      go_ret
      exact ⟨rfl, hown, hbr⟩
    · have HN := Lib.hid (items_next r h0 hr)
      have HL := Lib.hid (next_lt r h0)
      have HV := Lib.hid (next_nat r h0 hr)
      have h0' : ((r : Int) != 0) = true := by simp; omega
      have hlen : xs.length + 1 ≤ c := by
        have := congrArg List.length hx.out
        rw [HN.out, List.length_append, List.length_cons, HC.out] at this
        omega
      go_wp2_with fail
      refine (tz_any r h0 hr _ (HT.below hbr)).mono ?_
      rintro e w2 ⟨rfl, rfl⟩
      generalize Lib.ctz 64 r = k at *
      go_wp2_with (at_builtin; refine wpList_append_fits _ rfl _ _ 22 rfl w1.heap.size 3 i0 1 Tryd.underlying22 hi hz1 w1.heap.size xs.length c _ rfl (hown.alloc _) ⟨w2.heap.size, 0, none⟩ 1 1 [.int .i64 (k : Nat)] rfl rfl (World.news_of_block (cs := #[.int .i64 (k : Nat)]) (t := 3) (fr := (0, 0)) (heap_alloc_new w2 _)) (by simp [Value.oneCell']) hlen ?_; intro w3 hown3 hgrow3)
      go_roundw
      case rel => exact ⟨r &&& (r - 1), xs ++ [k], Nat.lt_trans HL.out hr, congrArg (Value.int .u64) HV.out, by simp, by rw [List.append_assoc, ← hx.out, HN.out]; rfl, by simpa using hown3, (hbr.alloc hbr.size _).grown hgrow3 (by simp; have := hbr.size; omega) (fun k hk => by cases hk; exact Nat.le_refl _)⟩
      case measure => have := HL.out; simp [intOf, HV.out]; omega

/-! ### Slices of integers that are read -/
/-- What is told of a slice of integers: its cells, one by one. -/
def Ints (w : World) (a : Option Addr) (len : Nat) (zs : List Int) : Prop :=
  zs.length = len ∧ len ≤ 9223372036854775807 ∧ (len = 0 ∨ ∃ b off, a = some ⟨b, off, none⟩ ∧ b < w.heap.size ∧ ∀ k, k < len → w.cell? ⟨b, off + k, none⟩ = some (.int .i64 (zs.getD k 0)))
theorem Ints.below {w w' : World} {a : Option Addr} {len : Nat} {zs : List Int} (h : Ints w a len zs) (hb : Below w.heap.size w w') : Ints w' a len zs := by
  obtain ⟨h1, h2, h3⟩ := h
  refine ⟨h1, h2, ?_⟩
  rcases h3 with h | ⟨b, off, rfl, hlt, hc⟩
  · exact .inl h
  · exact .inr ⟨b, off, rfl, Nat.lt_of_lt_of_le hlt hb.size, fun k hk => (hb.cell (p := ⟨b, off + k, none⟩) hlt).trans (hc k hk)⟩
/-- The numbers of l that can be in a set, as one. -/
def ofL (l : List Int) : Nat := l.foldl (fun s n => s ||| dig n) 0
theorem ofL_snoc (l : List Int) (n : Int) : ofL (l ++ [n]) = ofL l ||| dig n := by unfold ofL; rw [List.foldl_append]; rfl
theorem foldl_lt (l : List Int) : ∀ s : Nat, s < 18446744073709551616 → l.foldl (fun s n => s ||| dig n) s < 18446744073709551616 := by
  induction l with
  | nil => intro s h; exact h
  | cons n l ih => intro s h; exact ih _ (or_lt _ _ h (dig_lt n))
theorem ofL_lt (l : List Int) : ofL l < 18446744073709551616 := foldl_lt l 0 (by decide)
theorem take_snoc (l : List Int) (k : Nat) (h : k < l.length) : l.take (k + 1) = l.take k ++ [l.getD k 0] := by
  rw [List.take_succ_eq_append_getElem h]; simp [List.getD, h]
theorem of_any (a : Option Addr) (cap len : Nat) (zs : List Int) (w : World) (h : Ints w a len zs) :
    Calls Tryd.prog 8 #[.slice a len cap] w fun e w' => e = .returned (.int .u64 (ofL zs : Nat)) ∧ w' = w := by
  obtain ⟨hlen, hbig, hcells⟩ := h
  have HL := Lib.hid hlen
  have HC := Lib.hid hcells
  clear hlen hcells
  go_enter Tryd.func8, Tryd.ntmps8
  go_wp2
  go_loop [3, 8] (fun t i => ∃ k : Nat, k ≤ len ∧ i = .int .i64 k ∧ t = .int .u64 (ofL (zs.take k) : Nat)) (fun _ i => len - (intOf i).toNat)
  case atStart => exact ⟨0, Nat.zero_le _, rfl, rfl⟩
  case round =>
    obtain ⟨k, hk, rfl, rfl⟩ := hrel
    by_cases hlt : k < len
    · rcases HC.out with h | ⟨b, off, rfl, _, hc⟩
      · omega
      have hcell := hc k hlt
      have HS := Lib.hid (take_snoc zs k (by have := HL.out; omega))
      have HE := Lib.hid (ofL_snoc (zs.take k) (zs.getD k 0))
      have hs := ofL_lt (zs.take k)
      generalize zs.getD k 0 = n at *
      generalize hg : ofL (zs.take k) = s at *
      have HG := Lib.hid hg
      clear hc hg
      go_wp2_with fail
      refine (with_any s n hs _).mono ?_
      rintro e w1 ⟨rfl, rfl⟩
      go_wp2
      go_round
      case rel => exact ⟨k + 1, by omega, by go_num, by rw [HS.out, HE.out]⟩
      case measure => simp [intOf]; omega
    · have hk2 : zs.take k = zs := List.take_of_length_le (by have := HL.out; omega)
      have HK := Lib.hid hk2
      clear hk2
      go_wp2
      go_ret
      exact ⟨ret_int (by rw [HK.out]), rfl⟩
theorem below_drewN {B : Nat} {a w : World} (h : Below B a w) (n : Nat) : Below B a (w.drewN n) := h.trans ⟨rfl, rfl, rfl, Nat.le_refl _, fun _ _ => rfl⟩
theorem same_any (a : Option Addr) (cap len : Nat) (zs : List Int) (a' : Option Addr) (cap' len' : Nat) (zs' : List Int) (w : World) (h : Ints w a len zs) (h' : Ints w a' len' zs') (hz : Hid (zs = zs')) :
    Calls Tryd.prog 18 #[.slice a len cap, .slice a' len' cap'] w fun e w' => e = .returned (.bool true) ∧ Below w.heap.size w w' := by
  obtain ⟨hlen, hbig, hcells⟩ := h
  obtain ⟨hlen', _, hcells'⟩ := h'
  obtain rfl : len = len' := by rw [← hlen, ← hlen', hz.out]
  obtain rfl := hz.out
  have HC := Lib.hid hcells
  have HC' := Lib.hid hcells'
  clear hlen hlen' hcells hcells' hz
  go_enter Tryd.func18, Tryd.ntmps18
  go_wp2
  go_loopw [5] (fun i wr => ∃ k : Nat, k ≤ len ∧ i = .int .i64 k ∧ Below w.heap.size w wr) (fun i _ => len - (intOf i).toNat)
  case atStart => exact ⟨0, Nat.zero_le _, rfl, Below.refl _ _⟩
  case round =>
    obtain ⟨k, hk, rfl, hbr⟩ := hrel
    rename_i wr
    by_cases hlt : k < len
    · rcases HC.out with h | ⟨b, off, rfl, hb, hc⟩
      · omega
      rcases HC'.out with h | ⟨b', off', rfl, hb', hc'⟩
      · omega
      have hcell := (hbr.cell (p := ⟨b, off + k, none⟩) hb).trans (hc k hlt)
      have hcell' := (hbr.cell (p := ⟨b', off' + k, none⟩) hb').trans (hc' k hlt)
      generalize zs.getD k 0 = n at *
      have HB := Lib.hid hbr
      have h0 : (0 : Int) ≤ k := by omega
      clear hc hc' hbr
      go_wp2_with fail
      go_quiet (fail)
      go_wp2
      exact ⟨⟨k + 1, by omega, by go_num, below_drewN HB.out _⟩, by simp [intOf]; omega⟩
    · clear HC HC'
      go_wp2
      go_ret
      exact ⟨rfl, hbr⟩
/-- A list of numbers below 64 as integers. -/
def ints (l : List Nat) : List Int := l.map fun i : Nat => (i : Int)
theorem ints_of_own {w : World} {base B n cap : Nat} {xs : List Nat} (h : w.ownsRow base 3 1 (.slice (some ⟨B, 0, none⟩) n cap) n (xs.map fun i => .int .i64 (i : Nat))) (hn : n ≤ 9223372036854775807) : Ints w (some ⟨B, 0, none⟩) n (ints xs) := by
  have hl : xs.length = n := by simpa using h.1
  refine ⟨by unfold ints; rw [List.length_map, hl], hn, ?_⟩
  rcases Nat.eq_zero_or_pos n with h0 | h0
  · exact .inl h0
  · refine .inr ⟨B, 0, rfl, (h.lt B rfl).2, fun k hk => ?_⟩
    rw [Nat.zero_add, h.cellAt k (by omega), List.getElem?_map, List.getElem?_eq_getElem (by omega)]
    simp [ints, List.getD, show k < xs.length by omega]
theorem ints_of_block {w : World} {B : Nat} {cs : Array Value} {t : TypeId} {fr : Nat × Nat} (hb : w.heap[B]? = some (.cells cs t fr)) (zs : List Int) (hc : cs.toList = zs.map (Value.int .i64)) (hn : zs.length ≤ 9223372036854775807) : Ints w (some ⟨B, 0, none⟩) zs.length zs := by
  have hlt : B < w.heap.size := by
    rcases Nat.lt_or_ge B w.heap.size with h | h
    · exact h
    · rw [Array.getElem?_eq_none h] at hb; cases hb
  refine ⟨rfl, hn, .inr ⟨B, 0, rfl, hlt, fun k hk => ?_⟩⟩
  have e : (⟨B, 0 + k, none⟩ : Addr) = (⟨B, 0, none⟩ : Addr).add k := by simp [Addr.add]
  rw [e]
  exact World.news_of_block hb k (.int .i64 (zs.getD k 0)) (by rw [hc, List.getElem?_map, List.getD_eq_getElem?_getD, List.getElem?_eq_getElem hk]; rfl)
theorem list_ex (s : Nat) (hs : s < 18446744073709551616) (w : World) (HT : Tab w) :
    Calls Tryd.prog 9 #[.int .u64 s] w fun e w' => ∃ B, e = .returned (.slice (some ⟨B, 0, none⟩) (Pop.items s).length (Pop.items s).length) ∧ w.heap.size ≤ B ∧ Ints w' (some ⟨B, 0, none⟩) (Pop.items s).length (ints (Pop.items s)) ∧ Below w.heap.size w w' :=
  (list_any s hs w HT).mono fun _ _ ⟨he, hown, hb⟩ => ⟨_, he, Nat.le_refl _, ints_of_own hown (by have := Pop.items_le s; omega), hb⟩
theorem wakes_any (w : World) (HT : Tab w) : Calls Tryd.prog 15 #[] w fun e w' => e = .returned (.bool true) ∧ Below w.heap.size w w' := by
  have e10 : ofL [3, 1] = 10 := by decide
  have i10 : Pop.items 10 = [1, 3] := by decide
  have E := Lib.hid e10
  have I := Lib.hid i10
  clear e10 i10
  go_enter Tryd.func15, Tryd.ntmps15
  go_wp2_with fail
  refine (of_any _ _ 2 [3, 1] _ (ints_of_block (zs := [3, 1]) (heap_alloc_new w _) rfl (by decide))).mono ?_
  rintro e w1 ⟨rfl, rfl⟩
  rw [E.out]
  go_wp2_with fail
  have hb0 : Below w.heap.size w (w.alloc (.cells #[.int .i64 3, .int .i64 1] 3)) := (Below.refl _ _).alloc (Nat.le_refl _) _
  refine (list_ex 10 (by decide) _ (HT.below hb0)).mono ?_
  rintro e w2 ⟨B, rfl, hB, hi, hb⟩
  rw [I.out] at hi ⊢
  have hb1 := hb0.trans (hb.mono hb0.size)
  have HB := Lib.hid hb1
  have HI := Lib.hid hi
  clear hb0 hb hb1 hB hi
  go_wp2_with fail
  refine (same_any _ _ 2 [1, 3] _ _ 2 [1, 3] _ (HI.out.below ((Below.refl _ _).alloc (Nat.le_refl _) _)) (ints_of_block (zs := [1, 3]) (heap_alloc_new w2 _) rfl (by decide)) rfl).mono ?_
  rintro e w3 ⟨rfl, hb3⟩
  have HB3 := Lib.hid ((HB.out.alloc HB.out.size _).trans (hb3.mono (by have := HB.out.size; simp; omega)))
  clear hb3
  go_wp2
  go_ret
  exact ⟨rfl, HB3.out⟩
end Go.Proofs.YtpoajifabjlhjaaDoor
