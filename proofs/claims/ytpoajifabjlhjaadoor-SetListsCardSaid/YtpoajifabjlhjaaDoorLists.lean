/- SetLists, walked. -/
import Derived.Test.YtpoajifabjlhjaaDoorSplits
import Derived.Laws.AppendOwnNone
import Derived.RegionTactic
import Derived.ChangeAlike
import Derived.WalkSmall
namespace Go.Proofs.YtpoajifabjlhjaaDoor
open Go.RowKit

/-! ### Plain facts -/
theorem ofL_same {l m : List Int} (h : ∀ x, x ∈ l ↔ x ∈ m) : ofL l = ofL m := by
  apply Nat.eq_of_testBit_eq; intro i
  rw [bit_ofL, bit_ofL, Bool.eq_iff_iff, decide_eq_true_iff, decide_eq_true_iff, h]
theorem ofL_more (l : List Int) : ofL (l ++ [64, -1, 1099511627776]) = ofL l := by
  apply Nat.eq_of_testBit_eq; intro i
  rw [bit_ofL, bit_ofL, Bool.eq_iff_iff, decide_eq_true_iff, decide_eq_true_iff, List.mem_append]
  constructor
  · rintro ⟨h | h, hi⟩
    · exact ⟨h, hi⟩
    · simp only [List.mem_cons, List.not_mem_nil, or_false] at h; omega
  · exact fun ⟨h, hi⟩ => ⟨.inl h, hi⟩
theorem mem_swap (l : List Int) (a b : Nat) (ha : a < l.length) (hb : b < l.length) (x : Int) : x ∈ (l.set a (l.getD b 0)).set b (l.getD a 0) ↔ x ∈ l := by
  have hga : l.getD a 0 = l[a] := by simp [List.getD, ha]
  have hgb : l.getD b 0 = l[b] := by simp [List.getD, hb]
  rw [hga, hgb]
  constructor
  · intro h
    rcases List.mem_or_eq_of_mem_set h with h | rfl
    · rcases List.mem_or_eq_of_mem_set h with h | rfl
      · exact h
      · exact List.getElem_mem hb
    · exact List.getElem_mem ha
  · intro h
    obtain ⟨i, hi, rfl⟩ := List.getElem_of_mem h
    rw [List.mem_iff_getElem]
    by_cases e1 : i = b
    · subst e1
      by_cases e2 : a = i
      · subst e2; exact ⟨a, by simpa using ha, by simp⟩
      · exact ⟨a, by simpa using ha, by simp [show ¬ i = a from fun h => e2 h.symm]⟩
    · by_cases e2 : i = a
      · subst e2; exact ⟨b, by simpa using hb, by simp⟩
      · exact ⟨i, by simpa using hi, by simp [show ¬ b = i from fun h => e1 h.symm, show ¬ a = i from fun h => e2 h.symm]⟩
theorem items_lt (s k : Nat) (h : k < (Pop.items s).length) : (Pop.items s).getD k 0 < 64 ∧ s.testBit ((Pop.items s).getD k 0) = true := by
  have : (Pop.items s).getD k 0 = (Pop.items s)[k] := by simp [List.getD, h]
  rw [this]
  exact (Pop.mem_items s _).1 (List.getElem_mem h)
theorem items_rise (s k : Nat) (h : k + 1 < (Pop.items s).length) : (Pop.items s).getD k 0 < (Pop.items s).getD (k + 1) 0 := by
  have hp : (Pop.items s).Pairwise (· < ·) := List.Pairwise.filter _ List.pairwise_lt_range
  have e1 : (Pop.items s).getD k 0 = (Pop.items s)[k] := by simp [List.getD, show k < (Pop.items s).length by omega]
  have e2 : (Pop.items s).getD (k + 1) 0 = (Pop.items s)[k + 1] := by simp [List.getD, h]
  rw [e1, e2]
  exact List.pairwise_iff_getElem.1 hp k (k + 1) (by omega) h (by omega)
/-- All numbers below k. -/
def allTo (k : Nat) : Nat := ofL (ints (List.range k))
theorem allTo_succ (k : Nat) : allTo (k + 1) = allTo k ||| dig (k : Int) := by
  unfold allTo ints; rw [List.range_succ, List.map_append, List.map_cons, List.map_nil, ofL_snoc]
theorem allTo_lt (k : Nat) : allTo k < 18446744073709551616 := ofL_lt _
theorem all_items : (Pop.items (allTo 64)).length = 64 := by
  unfold allTo; rw [items_ofL (List.Sublist.refl _), List.length_range]
theorem bit_all (i : Nat) : (allTo 64).testBit i = decide (i < 64) := by
  unfold allTo; rw [bit_ofL, Bool.eq_iff_iff, decide_eq_true_iff, decide_eq_true_iff, mem_ints, List.mem_range]; omega
theorem in_all (s : Nat) (hs : s < 18446744073709551616) : less s (allTo 64) = 0 := by
  apply Nat.eq_of_testBit_eq; intro i
  rw [bit_less s _ i hs (allTo_lt 64), bit_all, Nat.zero_testBit]
  by_cases h : i < 64
  · simp [h]
  · rw [bit_high s i hs h]; rfl
theorem all_less (s : Nat) (hs : s < 18446744073709551616) : (Pop.items (less (allTo 64) s)).length = 64 - (Pop.items s).length := by
  have h1 := count_or_and (less (allTo 64) s) s
  have e1 : less (allTo 64) s ||| s = allTo 64 := by
    apply Nat.eq_of_testBit_eq; intro i
    rw [Nat.testBit_or, bit_less _ s i (allTo_lt 64) hs, bit_all]
    by_cases h : i < 64
    · simp [h]
    · rw [bit_high s i hs h]; simp [h]
  rw [e1, less_both _ _ (allTo_lt 64) hs, all_items, Pop.items_zero] at h1
  simp at h1
  omega
set_option maxHeartbeats 400000 in
theorem within_big (n m : Int) (hm0 : 1 ≤ m) (hm : m ≤ 9223372036854775807) (w : World) :
    Calls Tryd.prog 7 #[.int .i64 n, .int .i64 m] w fun e w' => e = .returned (.int .i64 (n % m)) ∧ w' = w := by
  have h1 := Int.tmod_lt_of_pos n (show 0 < m by omega)
  have h2 : -m < n.tmod m := Int.lt_tmod_of_pos n (show 0 < m by omega)
  have h3 : (m == 0) = false := by simp; omega
  have h5 : n.tmod m = n % m ∨ n.tmod m = n % m - m := by
    rw [Int.tmod_eq_emod]; split
    · exact .inl (by omega)
    · right; omega
  have h6 := Int.emod_nonneg n (show m ≠ 0 by omega)
  have h7 := Int.emod_lt_of_pos n (show 0 < m by omega)
  by_cases hneg : n.tmod m < 0
  · have h8 : n.tmod m + m = n % m := by omega
    have H8 := Lib.hid h8
    clear h5 h6 h7 h8
    go_enter Tryd.func7, Tryd.ntmps7
    go_wp2
    go_ret
    exact ⟨ret_int H8.out, rfl⟩
  · have h8 : n.tmod m = n % m := by omega
    have H8 := Lib.hid h8
    clear h5 h6 h7 h8
    go_enter Tryd.func7, Tryd.ntmps7
    go_wp2
    go_ret
    exact ⟨ret_int H8.out, rfl⟩
theorem list_own (s : Nat) (hs : s < 18446744073709551616) (w : World) (HT : Tab w) :
    Calls Tryd.prog 9 #[.int .u64 s] w fun e w' => ∃ B, e = .returned (.slice (some ⟨B, 0, none⟩) (Pop.items s).length (Pop.items s).length) ∧ w.heap.size ≤ B ∧
      w'.ownsRow w.heap.size 3 1 (.slice (some ⟨B, 0, none⟩) (Pop.items s).length (Pop.items s).length) (Pop.items s).length ((ints (Pop.items s)).map (Value.int .i64)) ∧ Below w.heap.size w w' :=
  (list_any s hs w HT).mono fun _ _ ⟨he, hown, hb⟩ => ⟨_, he, Nat.le_refl _, by unfold ints; rw [List.map_map]; exact hown, hb⟩
theorem ints_of_own' {w : World} {base B n cap : Nat} {zs : List Int} (h : w.ownsRow base 3 1 (.slice (some ⟨B, 0, none⟩) n cap) n (zs.map (Value.int .i64))) (hn : n ≤ 9223372036854775807) : Ints w (some ⟨B, 0, none⟩) n zs := by
  have hl : zs.length = n := by simpa using h.1
  refine ⟨hl, hn, ?_⟩
  rcases Nat.eq_zero_or_pos n with h0 | h0
  · exact .inl h0
  · refine .inr ⟨B, 0, rfl, (h.lt B rfl).2, fun k hk => ?_⟩
    rw [Nat.zero_add, h.cellAt k (by omega), List.getElem?_map, List.getElem?_eq_getElem (by omega)]
    simp [List.getD, show k < zs.length by omega]
theorem ints_of_row {w : World} {base n cap : Nat} {A : Option Addr} {zs : List Int} (h : w.ownsRow base 3 1 (.slice A n cap) n (zs.map (Value.int .i64))) (hn : n ≤ 9223372036854775807) : Ints w A n zs := by
  rcases h.2 with ⟨e, h0⟩ | ⟨g, c, cur, e, _⟩
  · exact ⟨by simpa using h.1, hn, .inl h0⟩
  · injection e with e1 e2 e3
    subst e1
    exact ints_of_own' h hn
theorem ints_getD (s k : Nat) (h : k < (Pop.items s).length) : (ints (Pop.items s)).getD k 0 = (((Pop.items s).getD k 0 : Nat) : Int) := by
  unfold ints; simp [List.getD, h]
theorem IsRow.le {k : IntKind} {w : World} {a : Option Addr} {len cap : Nat} {zs : List Int} (h : IsRow k w a len cap zs) : len ≤ cap := by
  rcases h with ⟨_, rfl, rfl, _⟩ | ⟨x, _, hlc, _⟩
  · exact Nat.le_refl _
  · exact hlc
/-- An append that a guard lets by. -/
theorem wpList_append_want {P : Program} (w : World) {ops : Array Oper} {rest : List Oper} {o : Oper} {a : Act} {Q : Exit → Act → World → Prop} (hgd : Region.wanted o (yielded ops a.tmps) = true) (s x : Operand) (t : TypeId)
    (ho : o.op = .call { callee := .builtin .append, args := #[s, x], argTypes := #[t, t] })
    (base : Nat) (e : TypeId) (i : TypeInfo) (z : Value) (size bytes : Nat) (ht : P.underlying t = some (.slice e)) (hi : P.info? e = some i) (hz : i.zero = some z)
    (hsize : i.size = size) (hby : i.bytes = bytes) (hzs : z.cells.size = size) (hsz : 0 < size)
    (v : Value) (n : Nat) (xs : List Value) (hs : a.eval s = v) (hown : w.ownsRow base e size v n xs)
    (ad : Addr) (m c : Nat) (news : List Value) (hx : a.eval x = .slice (some ad) m c) (hl : news.length = m * size) (hnews : ∀ j u, news[j]? = some u → w.cell? (ad.add j) = some u) (h1 : ∀ u ∈ news, u.oneCell' = true)
    (h63 : n + m ≤ maxLen) (hbytes : (n + m) * bytes ≤ 140737488355328) (hbase : base ≤ w.heap.size)
    (h : ∀ v' w', w'.ownsRow base e size v' (n + m) (xs ++ news) → w.grownBy w' v.ownBlock → (v' = .slice none 0 0 ↔ v = .slice none 0 0 ∧ m = 0) → wpList P ops Q rest (a.put o.dst v') w') : wpList P ops Q (o :: rest) a w :=
  wpList_step fun K hK => by
    rw [if_pos hgd]
    exact wp_append_own w s x t ho base e i z size bytes ht hi hz hsize hby hzs hsz v n xs hs hown ad m c news hx hl hnews h1 h63 hbytes hbase fun v' w' h2 h3 h4 => hK _ _ (h v' w' h2 h3 h4)
/-- append([]int(nil), l...): a row of the call's own that reads as l. -/
theorem wpList_copy_ints {w : World} {ops : Array Oper} {rest : List Oper} {o : Oper} {a : Act} {Q : Exit → Act → World → Prop} (hgd : o.guard = none) (s x : Operand)
    (ho : o.op = .call { callee := .builtin .append, args := #[s, x], argTypes := #[22, 22] }) (a0 : Option Addr) (len0 cap0 : Nat) (z0 : List Int)
    (hs : a.eval s = .slice none 0 0) (hx : a.eval x = .slice a0 len0 cap0) (hrow : IsRow .i64 w a0 len0 cap0 z0) (hr : len0 * 8 ≤ 140737488351232)
    (h : ∀ v' w', w'.ownsRow w.heap.size 3 1 v' len0 ((z0.take len0).map (Value.int .i64)) → Below w.heap.size w w' → wpList Tryd.prog ops Q rest (a.put o.dst v') w') : wpList Tryd.prog ops Q (o :: rest) a w := by
  obtain ⟨i0, hi, hz0, hz1, hz2⟩ := info_parts infoI
  have hn : w.ownsRow w.heap.size 3 1 (.slice none 0 0) 0 [] := World.ownsRow_nil _ _ _ _
  rcases hrow with ⟨rfl, rfl, rfl, rfl⟩ | ⟨ad, rfl, hlc, hm, hzl, hc, _⟩
  · exact wpList_append_own_none hgd s x 22 ho w.heap.size 3 i0 1 Tryd.underlying22 hi (.slice none 0 0) 0 [] hs hn hx (h _ _ hn (Below.refl _ _))
  · refine wpList_append_own w hgd s x 22 ho w.heap.size 3 i0 (.int .i64 0) 1 8 Tryd.underlying22 hi hz0 hz1 hz2 rfl (by decide) (.slice none 0 0) 0 [] hs hn ad len0 cap0 ((z0.take len0).map (Value.int .i64)) hx (by simp; omega) ?_ ?_ (by unfold maxLen; omega) (by omega) (Nat.le_refl _) ?_
    · intro j u hu
      rw [List.getElem?_map, List.getElem?_take] at hu
      by_cases hj : j < len0
      · rw [if_pos hj, List.getElem?_eq_getElem (by omega)] at hu
        rw [hc j (by omega)]
        simpa [List.getD, show j < z0.length by omega] using hu
      · rw [if_neg hj] at hu; cases hu
    · intro u hu
      obtain ⟨n, _, rfl⟩ := List.mem_map.1 hu
      rfl
    · intro v' w' hown hgrow _
      rw [Nat.zero_add, List.nil_append] at hown
      exact h v' w' hown ((Below.refl _ _).grown hgrow (Nat.le_refl _) (fun k hk => by cases hk))
set_option maxRecDepth 100000 in
set_option maxHeartbeats 8000000 in
theorem lists_walk (a0 : Option Addr) (len0 cap0 : Nat) (z0 : List Int) (a1 : Option Addr) (len1 cap1 : Nat) (z1 : List Int) (w : World) (w0 : IsRow .i64 w a0 len0 cap0 z0) (w1 : IsRow .i64 w a1 len1 cap1 z1) (hr : len0 * 8 ≤ 140737488351232) (HT : Tab w) :
    Calls Tryd.prog 3 #[.slice a0 len0 cap0, .slice a1 len1 cap1] w fun e w' => e = .returned (.bool true) ∧ Below w.heap.size w w' := by
  have I0 := Lib.hid w0.ints
  have I1 := Lib.hid w1.ints
  have hl1 := w1.ints.2.1
  have W0 := Lib.hid w0
  clear w0 w1
  generalize z1.take len1 = y1 at *
  obtain ⟨i0, hi, hz0, hz1, hz2⟩ := info_parts infoI
  go_enter Tryd.func3, Tryd.ntmps3
  go_wp2_with (at_builtin; refine wpList_copy_ints rfl _ _ rfl a0 len0 cap0 z0 rfl rfl W0.out hr ?_; intro v w2 hown hb2)
  generalize z0.take len0 = y0 at *
  have hle0 : len0 ≤ 9223372036854775807 := by omega
  have HOWN := Lib.hid hown
  have HB2 := Lib.hid hb2
  clear hown hb2
  obtain ⟨A, cap, rfl⟩ : ∃ A cap, v = .slice A len0 cap := by
    rcases HOWN.out.2 with ⟨rfl, h⟩ | ⟨g, cap, cur, rfl, _⟩
    · exact ⟨none, 0, by rw [h]⟩
    · exact ⟨_, _, rfl⟩
  clear W0
  go_wp2_with fail
  go_loopw [6] (fun i wr => ∃ k : Nat, ∃ ys : List Int, k ≤ 21 ∧ i = .int .i64 k ∧ Hid (∀ x, x ∈ ys ↔ x ∈ y0) ∧ wr.ownsRow w.heap.size 3 1 (.slice A len0 cap) len0 (ys.map (Value.int .i64)) ∧ Below w.heap.size w wr) (fun i _ => 22 - (intOf i).toNat)
  case atStart => exact ⟨0, y0, by omega, rfl, fun _ => Iff.rfl, HOWN.out, HB2.out⟩
  case round =>
    clear HOWN HB2
    obtain ⟨k, ys, hk, rfl, hys, hown, hbr⟩ := hrel
    rename_i wr
    have hyl : ys.length = len0 := by simpa using hown.1
    have HYL := Lib.hid hyl
    clear hyl
    by_cases hc : k + 1 < len1 ∧ k < 20 ∧ 0 < len0
    · obtain ⟨c1, c2, c3⟩ := hc
      obtain ⟨g, rfl, hg⟩ : ∃ g, A = some ⟨g, 0, none⟩ ∧ w.heap.size ≤ g := by
        rcases hown.2 with ⟨_, h⟩ | ⟨g, cap', cur, e, hg, _⟩
        · omega
        · injection e with e; exact ⟨g, e, hg⟩
      rcases I1.out.2.2 with h | ⟨b, off, rfl, hb, hct⟩
      · omega
      have hx1 := (hbr.cell (p := ⟨b, off + k, none⟩) hb).trans (hct k (by omega))
      have hx2 := (hbr.cell (p := ⟨b, off + (k + 1), none⟩) hb).trans (hct (k + 1) (by omega))
      generalize y1.getD k 0 = u1 at *
      generalize y1.getD (k + 1) 0 = u2 at *
      have HO := Lib.hid hown
      have HB := Lib.hid hbr
      have h0 : (0 : Int) ≤ k := by omega
      have h1 : (k : Int) + 1 < len1 := by omega
      have h2 : (0 : Int) < len0 := by omega
      clear hct hown hbr
      go_wp2_with fail
      go_quiet ((with_reducible exact Calls.quiet_of_same (within_big _ _ (by omega) (by omega) _)))
      have HO5 := Lib.hid (show (wr.drewN nq).ownsRow w.heap.size 3 1 (.slice (some ⟨g, 0, none⟩) len0 cap) len0 (ys.map (Value.int .i64)) from HO.out)
      have HB5 := Lib.hid (below_drewN HB.out nq)
      generalize wr.drewN nq = w5 at *
      obtain ⟨p, hp⟩ := Int.eq_ofNat_of_zero_le (Int.emod_nonneg u1 (show (len0 : Int) ≠ 0 by omega))
      obtain ⟨q, hq⟩ := Int.eq_ofNat_of_zero_le (Int.emod_nonneg u2 (show (len0 : Int) ≠ 0 by omega))
      have hp1 := Int.emod_lt_of_pos u1 (show 0 < (len0 : Int) by omega)
      have hq1 := Int.emod_lt_of_pos u2 (show 0 < (len0 : Int) by omega)
      rw [hp] at hp1
      rw [hq] at hq1
      rw [hp, hq]
      clear hp hq hx1 hx2 HO HB
      have p0 : (0 : Int) ≤ p := by omega
      have q0 : (0 : Int) ≤ q := by omega
      have hpl : p < ys.length := by have := HYL.out; omega
      have hql : q < ys.length := by have := HYL.out; omega
      have hcp : w5.cell? ⟨g, p, none⟩ = some (.int .i64 (ys.getD p 0)) := by rw [HO5.out.cellAt p (by have := HYL.out; omega), List.getElem?_map, List.getElem?_eq_getElem hpl]; simp [List.getD, hpl]
      have hcq : w5.cell? ⟨g, q, none⟩ = some (.int .i64 (ys.getD q 0)) := by rw [HO5.out.cellAt q (by have := HYL.out; omega), List.getElem?_map, List.getElem?_eq_getElem hql]; simp [List.getD, hql]
      have hfp := HO5.out.frozenAt p
      have hfq := HO5.out.frozenAt q
      have HSW := Lib.hid (mem_swap ys p q hpl hql)
      have HS1 := Lib.hid (HO5.out.stored p (.int .i64 (ys.getD q 0))).1
      have HS2 := Lib.hid (HS1.out.stored q (.int .i64 (ys.getD p 0))).1
      have HB6 := Lib.hid ((HB5.out.setCell (show w.heap.size ≤ (⟨g, p, none⟩ : Addr).block from hg) (.int .i64 (ys.getD q 0))).setCell (show w.heap.size ≤ (⟨g, q, none⟩ : Addr).block from hg) (.int .i64 (ys.getD p 0)))
      clear HO5 HB5 hpl hql HS1
      generalize ys.getD p 0 = yp at *
      generalize ys.getD q 0 = yq at *
      obtain ⟨xv, hxv⟩ := cell?_setCell_some (w := w5) (p := ⟨g, p, none⟩) (x := .int .i64 yq) (q := ⟨g, q, none⟩) (v := .int .i64 yq) hcq
      go_wp2_with fail
      go_region
      go_wp2
      refine ⟨⟨k + 2, (ys.set p yq).set q yp, by omega, by go_num, fun x => (HSW.out x).trans (hys.out x), ?_, HB6.out.drew⟩, by simp [intOf]; omega⟩
      rw [List.map_set, List.map_set]; exact HS2.out
    · have hex : len1 ≤ k + 1 ∨ (k + 1 < len1 ∧ 20 ≤ k) ∨ (k + 1 < len1 ∧ k < 20 ∧ len0 ≤ 0) := by omega
      have HSAME := Lib.hid (ofL_same hys.out)
      have HO := Lib.hid hown
      have HB := Lib.hid hbr
      have hs := ofL_lt y0
      clear hc hown hbr hys
      have hk0 : (0 : Int) ≤ k := by omega
      have h20 : k ≤ 21 := hk
      rcases hex with h | ⟨h, h'⟩ | ⟨h, h', h''⟩
      all_goals
        go_wp2_with fail
        refine (of_any _ _ _ _ _ (I0.out.below HB.out)).mono ?_
        rintro e w3 ⟨rfl, rfl⟩
        have HI0 := Lib.hid (I0.out.below HB.out)
        generalize hso : ofL y0 = s at *
        go_wp2_with fail
        refine (list_own s hs _ (HT.below HB.out)).mono ?_
        rintro e w4 ⟨B, rfl, hB, hown, hb4⟩
        have hc := Pop.items_le s
        generalize hcc : (Pop.items s).length = c at *
        have HCC := Lib.hid hcc
        have HO4 := Lib.hid hown
        have HB4 := Lib.hid hb4
        have HSO := Lib.hid hso
        clear hcc hown hb4 hso
        go_wp2_with fail
        have HXI := Lib.hid (ints_of_own' HO4.out (by omega))
        clear h20 hk0 hk
        go_loopw [69] (fun i wr => ∃ k : Nat, k ≤ c ∧ i = .int .i64 k ∧ Below w4.heap.size w4 wr) (fun i _ => c - (intOf i).toNat)
        case atStart => exact ⟨0, Nat.zero_le _, rfl, Below.refl _ _⟩
        case round =>
          obtain ⟨j, hj, rfl, hb5⟩ := hrel
          rename_i w5
          by_cases hlt : j < c
          · rcases (HXI.out.below hb5).2.2 with h | ⟨B', off', e, hB5, hcx⟩
            · omega
            obtain ⟨rfl, rfl⟩ : B = B' ∧ 0 = off' := by simpa using e
            have hf := items_lt s j (by rw [HCC.out]; exact hlt)
            have hx := hcx j hlt
            rw [Nat.zero_add, ints_getD s j (by rw [HCC.out]; exact hlt)] at hx
            have j0 : (0 : Int) ≤ j := by omega
            have j1 : (j : Int) < c := by omega
            have HB5 := Lib.hid hb5
            rcases Nat.eq_zero_or_pos j with hz | hz
            · subst hz
              generalize (Pop.items s).getD 0 0 = n at *
              obtain ⟨n1, n2⟩ := hf
              have HH := Lib.hid (has_bit s n true hs n1 n2)
              have n0 : (0 : Int) ≤ n := by omega
              have n3 : (n : Int) < 64 := by omega
              clear hcx hb5 n2
              go_wp2_with fail
              refine (HH.out _).mono ?_
              rintro e w6 ⟨rfl, rfl⟩
              go_wp2
              exact ⟨⟨0 + 1, by omega, by go_num, HB5.out⟩, by simp [intOf]; omega⟩
            · have hr' := items_rise s (j - 1) (by rw [HCC.out]; omega)
              rw [show j - 1 + 1 = j by omega] at hr'
              have hy := hcx (j - 1) (by omega)
              rw [Nat.zero_add, ints_getD s (j - 1) (by rw [HCC.out]; omega)] at hy
              generalize (Pop.items s).getD j 0 = n at *
              generalize (Pop.items s).getD (j - 1) 0 = m at *
              obtain ⟨n1, n2⟩ := hf
              have HH := Lib.hid (has_bit s n true hs n1 n2)
              have n0 : (0 : Int) ≤ n := by omega
              have n3 : (n : Int) < 64 := by omega
              have n4 : (m : Int) < n := by omega
              have j2 : (0 : Int) < j := by omega
              clear hcx hb5 n2
              go_wp2_with fail
              refine (HH.out _).mono ?_
              rintro e w6 ⟨rfl, rfl⟩
              go_wp2
              exact ⟨⟨j + 1, by omega, by go_num, HB5.out⟩, by simp [intOf]; omega⟩
          · have HO5 := Lib.hid (ownsRow_below HO4.out hb5)
            have HB5 := Lib.hid (HB4.out.trans (hb5.mono HB4.out.size))
            clear HXI HO4 hb5
            go_wp2_with fail
            go_loopw [102] (fun i w7 => ∃ k : Nat, ∃ xs : List Value, k ≤ c ∧ i = .int .i64 k ∧ w7.ownsRow w3.heap.size 3 1 (.slice (some ⟨B, 0, none⟩) c c) c xs ∧ Below w3.heap.size w3 w7) (fun i _ => c - (intOf i).toNat)
            case atStart => exact ⟨0, _, Nat.zero_le _, rfl, HO5.out, HB5.out⟩
            case round =>
              clear HO5 HB5
              obtain ⟨q, xs, hq, rfl, hown7, hb7⟩ := hrel
              rename_i w7
              by_cases hlt7 : q < c
              · have hxl : q < xs.length := by have := hown7.1; omega
                have hcell := hown7.cellAt q (by omega)
                rw [List.getElem?_eq_getElem hxl] at hcell
                have hfr := hown7.frozenAt q
                generalize xs[q] = xv at *
                have HS7 := Lib.hid (hown7.stored q (.int .i64 99)).1
                have HB7 := Lib.hid (hb7.setCell (show w3.heap.size ≤ (⟨B, q, none⟩ : Addr).block from hB) (.int .i64 99))
                have q0 : (0 : Int) ≤ q := by omega
                have q1 : (q : Int) < c := by omega
                clear hown7 hb7 hxl
                go_wp2
                exact ⟨⟨q + 1, _, by omega, by go_num, HS7.out, HB7.out⟩, by simp [intOf]; omega⟩
              · have HB7 := Lib.hid hb7
                have HO7 := Lib.hid (ownsRow_below HO.out hb7)
                have HT7 := Lib.hid (HT.below (HB.out.trans (hb7.mono HB.out.size)))
                clear hown7 hb7
                go_wp2_with fail
                refine (of_none _).mono ?_
                rintro e w8 ⟨rfl, rfl⟩
                go_wp2_with fail
                go_loop [14, 15] (fun t i => ∃ k : Nat, k ≤ 64 ∧ i = .int .i64 k ∧ t = .int .u64 (allTo k : Nat)) (fun _ i => 64 - (intOf i).toNat)
                case atStart => exact ⟨0, by omega, rfl, rfl⟩
                case round =>
                  obtain ⟨r, hr6, rfl, rfl⟩ := hrel
                  by_cases hlt8 : r < 64
                  · have HA := Lib.hid (allTo_succ r)
                    have ha := allTo_lt r
                    go_wp2_with fail
                    refine (with_any _ _ ha _).mono ?_
                    rintro e w9 ⟨rfl, rfl⟩
                    rw [← HA.out]
                    go_wp2
                    exact ⟨⟨r + 1, by omega, by go_num, rfl⟩, by simp [intOf]; omega⟩
                  · obtain rfl : r = 64 := by omega
                    have ha := allTo_lt 64
                    have HI := Lib.hid (in_all s hs)
                    have HL := Lib.hid (all_less s hs)
                    have hal := less_lt (allTo 64) s ha
                    have HAI := Lib.hid all_items
                    generalize allTo 64 = al at *
                    go_wp2_with fail
                    refine (of_any _ _ _ _ _ (ints_of_row HO7.out hle0)).mono ?_
                    rintro e w10 ⟨rfl, rfl⟩
                    rw [HSAME.out]
                    go_wp2_with (at_builtin; refine wpList_append_want _ (by rfl) _ _ 22 rfl w.heap.size 3 i0 (.int .i64 0) 1 8 Tryd.underlying22 hi hz0 hz1 hz2 rfl (by decide) _ len0 (ys.map (Value.int .i64)) rfl (HO7.out.alloc _) ⟨w10.heap.size, 0, none⟩ 3 3 [.int .i64 64, .int .i64 (-1), .int .i64 1099511627776] rfl rfl (World.news_of_block (cs := #[.int .i64 64, .int .i64 (-1), .int .i64 1099511627776]) (t := 3) (fr := (0, 0)) (heap_alloc_new w10 _)) (by simp [Value.oneCell']) (by unfold maxLen; omega) (by omega) (by have := HB.out.size; have := HB7.out.size; simp; omega) ?_; intro v' w11 hown11 hgrow _)
                    have HB11 : Hid (Below w.heap.size w w11) := Lib.hid ((((HB.out.trans (HB7.out.mono HB.out.size)).alloc (Nat.le_trans HB.out.size HB7.out.size) _)).grown hgrow (by have := HB.out.size; have := HB7.out.size; simp; omega) (fun g hg => (HO7.out.lt g hg).1))
                    obtain ⟨A', cap', rfl⟩ : ∃ A cap, v' = .slice A (len0 + 3) cap := by
                      rcases hown11.2 with ⟨_, h⟩ | ⟨g, cap, cur, rfl, _⟩
                      · omega
                      · exact ⟨_, _, rfl⟩
                    rw [show [Value.int .i64 64, .int .i64 (-1), .int .i64 1099511627776] = ([64, -1, 1099511627776] : List Int).map (Value.int .i64) from rfl, ← List.map_append] at hown11
                    have HI11 := Lib.hid (ints_of_row hown11 (by omega))
                    have HM := Lib.hid (ofL_more ys)
                    clear hown11 hgrow
                    go_wp2_with fail
                    refine (of_any _ _ _ _ _ HI11.out).mono ?_
                    rintro e w12 ⟨rfl, rfl⟩
                    rw [HM.out, HSAME.out]
                    clear HI11
                    go_wp2_with fail
                    refine (list_ex s hs _ (HT.below HB11.out)).mono ?_
                    rintro e w13 ⟨B13, rfl, hB13, hi13, hb13⟩
                    have HB13 := Lib.hid (HB11.out.trans (hb13.mono HB11.out.size))
                    clear hi13 hb13 hB13
                    rw [HCC.out]
                    go_wp2_with fail
                    refine (count_is s c hs HCC.out _).mono ?_
                    rintro e w14 ⟨rfl, rfl⟩
                    go_wp2_with fail
                    refine (count_is al 64 ha HAI.out _).mono ?_
                    rintro e w15 ⟨rfl, rfl⟩
                    go_wp2_with fail
                    refine (in_yes s al hs ha HI.out _).mono ?_
                    rintro e w16 ⟨rfl, rfl⟩
                    go_wp2_with fail
                    refine (less_any al s ha hs _).mono ?_
                    rintro e w17 ⟨rfl, rfl⟩
                    go_wp2_with fail
                    refine (count_is (less al s) (64 - c) hal (by rw [HL.out, HCC.out]) _).mono ?_
                    rintro e w18 ⟨rfl, rfl⟩
                    rw [show ((64 - c : Nat) : Int) = 64 - (c : Int) by omega]
                    go_wp2_with fail
                    refine (count_is s c hs HCC.out _).mono ?_
                    rintro e w19 ⟨rfl, rfl⟩
                    go_wp2_with fail
                    refine (wakes_any _ (HT.below HB13.out)).mono ?_
                    rintro e w20 ⟨rfl, hb20⟩
                    have HB20 := Lib.hid (HB13.out.trans (hb20.mono HB13.out.size))
                    clear hb20
                    go_wp2
                    go_ret
                    exact ⟨rfl, HB20.out⟩
end Go.Proofs.YtpoajifabjlhjaaDoor
