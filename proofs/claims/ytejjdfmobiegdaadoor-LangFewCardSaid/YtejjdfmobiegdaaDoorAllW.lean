/- All words of some terminals: the document's own, walked. -/
import Derived.Test.YtejjdfmobiegdaaDoorAllS
import Derived.Test.YtejjdfmobiegdaaDoorAppAll
import Derived.Test.YtejjdfmobiegdaaDoorRaw
import Derived.Test.YtejjdfmobiegdaaDoorWordL
set_option linter.unusedVariables false
namespace Go.Proofs.YtejjdfmobiegdaaDoor
open Go.RowKit
open Doc

/-- Rows of numbers as they lie in a slice that grows. -/
structure AllAt (w : World) (base g cap : Nat) (rs : List RowL) : Prop where
  own : w.ownsRow base 25 1 (.slice (some ⟨g, 0, none⟩) rs.length cap) rs.length (rowVs rs)
  rows : ∀ r ∈ rs, Cells w r.addr (nums r.row)
  apart : ∀ r ∈ rs, ∀ a, r.addr = some a → a.block ≠ g ∧ a.block < w.heap.size
theorem AllAt.lt {w : World} {base g cap : Nat} {rs : List RowL} (h : AllAt w base g cap rs) : g < w.heap.size := (h.own.lt g rfl).2
theorem AllAt.below {w w' : World} {base g cap : Nat} {rs : List RowL} (h : AllAt w base g cap rs) (hb : Below w.heap.size w w') : AllAt w' base g cap rs :=
  ⟨own_same h.own fun k _ hk => hb.block k hk, fun r hr => (h.rows r hr).below hb, fun r hr a ha => ⟨(h.apart r hr a ha).1, Nat.lt_of_lt_of_le (h.apart r hr a ha).2 hb.size⟩⟩
theorem cells_grown {w w' : World} {a : Option Addr} {xs : List Value} {o : Option Nat} (h : Cells w a xs) (hg : w.grownBy w' o) (hn : ∀ x, a = some x → some x.block ≠ o) : Cells w' a xs := by
  rcases h with h | ⟨b, off, e, hl, hc⟩
  · exact .inl h
  · exact .inr ⟨b, off, e, Nat.lt_of_lt_of_le hl hg.size, fun j v hj => (World.cell?_of_block (hg.block b hl (hn _ e))).trans (hc j v hj)⟩
theorem AllAt.push {w w1 w2 : World} {base g cap : Nat} {rs : List RowL} (h : AllAt w base g cap rs) (h1 : Below w.heap.size w w1) {r : RowL} (hc : Cells w1 r.addr (nums r.row)) (ha : ∀ a, r.addr = some a → w.heap.size ≤ a.block ∧ a.block < w1.heap.size)
    {g' cap' : Nat} (ho : w2.ownsRow base 25 1 (.slice (some ⟨g', 0, none⟩) (rs.length + 1) cap') (rs.length + 1) (rowVs rs ++ [.slice r.addr r.row.length r.cap])) (hg : w1.grownBy w2 (some g)) (hl : some g = some g' ∨ g' = w1.heap.size) : AllAt w2 base g' cap' (rs ++ [r]) := by
  have hgl := h.lt
  have hgg : g' = g ∨ g' = w1.heap.size := by
    rcases hl with e | e
    · cases e; exact .inl rfl
    · exact .inr e
  have h1s := h1.size
  refine ⟨?_, fun q hq => ?_, fun q hq a hqa => ?_⟩
  · rw [show rowVs (rs ++ [r]) = rowVs rs ++ [.slice r.addr r.row.length r.cap] by simp [rowVs], List.length_append, List.length_singleton]
    exact ho
  · rcases List.mem_append.1 hq with hq | hq
    · refine cells_grown ((h.rows q hq).below h1) hg fun x hx => ?_
      have := (h.apart q hq x hx).1
      simpa using this
    · obtain rfl := List.mem_singleton.1 hq
      refine cells_grown hc hg fun x hx => ?_
      have := (ha x hx).1
      simp; omega
  · have hs2 := hg.size
    rcases List.mem_append.1 hq with hq | hq
    · have := h.apart q hq a hqa
      omega
    · obtain rfl := List.mem_singleton.1 hq
      have := ha a hqa
      omega
theorem all_new {w w4 w5 : World} {base g cap : Nat} {rs : List RowL} (h : AllAt w base g cap rs) {va1 va2 : Option Addr} {n vc1 vc2 m : Nat} {xs ys : List Value}
    (ho4 : w4.ownsRow w.heap.size 3 1 (.slice va1 n vc1) n xs) (hg4 : w.grownBy w4 (Value.slice none 0 0).ownBlock) (o : Obj)
    (ho5 : w5.ownsRow w.heap.size 3 1 (.slice va2 m vc2) m ys) (hg5 : (w4.alloc o).grownBy w5 (Value.slice va1 n vc1).ownBlock) :
    Below w.heap.size w w5 ∧ Cells w5 va2 ys ∧ ∀ a, va2 = some a → w.heap.size ≤ a.block ∧ a.block < w5.heap.size := by
  have h1 : Below w.heap.size w w4 := (Below.refl _ _).grown hg4 (Nat.le_refl _) (fun k hk => by cases hk)
  have h2 := h1.alloc h1.size o
  refine ⟨h2.grown hg5 h2.size (fun k hk => (ho4.lt k hk).1), (own_cells ho5).1, fun a ha => ?_⟩
  have := ho5.lt a.block (by rw [ha]; rfl)
  exact this
theorem boxA (w : World) (o : Obj) : Below w.heap.size w (w.alloc o) := (Below.refl _ _).alloc (Nat.le_refl _) _
theorem all_start (w : World) : AllAt (w.alloc (.cells #[.slice none 0 0] 25)) w.heap.size w.heap.size 1 [⟨none, 0, []⟩] :=
  ⟨World.ownsRow_lit w #[.slice none 0 0] 1 (Nat.le_refl _) (by unfold maxLen; omega) rfl, fun r hr => by obtain rfl := List.mem_singleton.1 hr; exact .inl rfl, fun r hr a ha => by obtain rfl := List.mem_singleton.1 hr; cases ha⟩

theorem made_norm {t L : Nat} : ∀ (n k m : Nat), L - k = n → ((k < L ∧ m ≤ (Al.lev t k).length) ∨ (k = L ∧ m = 0)) → ∃ k' m', Al.off t k' + m' = Al.off t k + m ∧ Al.made t k' m' = Al.made t k m ∧ ((k' < L ∧ m' < (Al.lev t k').length) ∨ (k' = L ∧ m' = 0))
  | 0, k, m, hn, h => by
    rcases h with h | h
    · omega
    · exact ⟨k, m, rfl, rfl, .inr h⟩
  | n + 1, k, m, hn, h => by
    rcases h with ⟨h1, h2⟩ | h
    · by_cases hm : m < (Al.lev t k).length
      · exact ⟨k, m, rfl, rfl, .inl ⟨h1, hm⟩⟩
      · obtain rfl : m = (Al.lev t k).length := by omega
        obtain ⟨k', m', e1, e2, e3⟩ := made_norm (t := t) (L := L) n (k + 1) 0 (by omega) (by
          by_cases hk : k + 1 < L
          · exact .inl ⟨hk, Nat.zero_le _⟩
          · exact .inr ⟨by omega, rfl⟩)
        exact ⟨k', m', by rw [e1, Al.off_next]; omega, by rw [e2, Al.made_zero, Al.made_full], e3⟩
    · exact ⟨k, m, rfl, rfl, .inr h⟩
theorem allext_at {t j : Nat} (hj : j < t) (x : List Int) : (Al.ext t x)[j]? = some (x ++ [((j + 1 : Nat) : Int)]) := by
  unfold Al.ext
  rw [List.getElem?_map, List.getElem?_range hj]; rfl

def AllEnd (B t L : Nat) (e : Ending) (w' : World) : Prop := ∃ g cap rs, e = .returned (.slice (some ⟨g, 0, none⟩) rs.length cap) ∧ rs.map RowL.row = Al.levs t L ∧ AllAt w' B g cap rs

set_option maxRecDepth 100000 in
set_option maxHeartbeats 8000000 in
theorem all_any (t L : Nat) (ht : t ≤ 8) (hL : L ≤ 5) (w : World) : Calls Tryd.prog 15 #[.int .i64 t, .int .i64 L] w fun e w' => Below w.heap.size w w' ∧ AllEnd w.heap.size t L e w' := by
  obtain ⟨i1, hi1, hy0, hy1, hy2⟩ := info_of infoRow7
  have e1 : ¬ (t : Int) < 0 := by omega
  have e2 : ¬ (8 : Int) < (t : Int) := by omega
  have e3 : ¬ (L : Int) < 0 := by omega
  have e4 : ¬ (5 : Int) < (L : Int) := by omega
  have hst := all_start w
  have hb0 : Below w.heap.size w (w.alloc (.cells #[.slice none 0 0] 25)) := (Below.refl _ _).alloc (Nat.le_refl _) _
  have HB0 := Lib.hid hb0
  have HST := Lib.hid hst
  have hbd := Al.levs_bound ht hL
  clear hb0 hst
  go_enter Tryd.func15, Tryd.ntmps15
  go_upto_region 5 with fail
  generalize w.alloc (.cells #[.slice none 0 0] 25) = S1 at *
  clear e1 e2 e3 e4
  go_loopw [5, 6] (fun o i wr => ∃ (k m g cap : Nat) (rs : List RowL), o = .slice (some ⟨g, 0, none⟩) rs.length cap ∧ i = .int .i64 (Al.off t k + m : Nat) ∧ ((k < L ∧ m ≤ (Al.lev t k).length) ∨ (k = L ∧ m = 0)) ∧ Hid (rs.map RowL.row = Al.made t k m) ∧ Hid (AllAt wr w.heap.size g cap rs) ∧ Hid (Below w.heap.size w wr)) (fun _ i _ => (Al.levs t L).length - (intOf i).toNat)
  case atStart => exact ⟨0, 0, w.heap.size, 1, [⟨none, 0, []⟩], rfl, rfl, by by_cases h : 0 < L; exact .inl ⟨h, Nat.zero_le _⟩; exact .inr ⟨by omega, rfl⟩, Lib.hid (by simp [Al.made, Al.levs]), HST, HB0⟩
  case round =>
    obtain ⟨k0, m0, g, cap, rs, rfl, rfl, hkm, HRS, HAT, HBL⟩ := hrel
    obtain ⟨k, m, hi, hmd, hcase⟩ := made_norm (t := t) (L := L) _ k0 m0 rfl hkm
    rw [← hi]
    have HRS2 : Hid (rs.map RowL.row = Al.made t k m) := Lib.hid (HRS.out.trans hmd.symm)
    clear HRS hkm hmd hi
    rcases hcase with ⟨hkL, hm⟩ | ⟨rfl, rfl⟩
    · obtain ⟨x, hx⟩ : ∃ x, (Al.lev t k)[m]? = some x := ⟨_, List.getElem?_eq_getElem hm⟩
      have hxm := Al.made_at hx
      have hxl : x.length = k := (Al.lev_word.1 (List.mem_of_getElem? hx)).1
      have hstep := Al.made_step hx
      have hlen : Al.off t k + m < (Al.levs t L).length := by
        have h1 := Al.levs_len t k
        have h2 := Al.levs_le (t := t) (show k ≤ L by omega)
        omega
      have hbig : (Al.made t k m ++ Al.ext t x).length ≤ (Al.levs t L).length := by rw [← hstep]; exact Al.made_le hkL
      generalize hN : Al.off t k + m = N at *
      obtain ⟨r, hr, hrx⟩ : ∃ r, rs[N]? = some r ∧ r.row = x := by
        rw [← HRS2.out, List.getElem?_map] at hxm
        exact Option.map_eq_some_iff.1 hxm
      obtain ⟨ra, rc, rx⟩ := r
      simp only at hrx
      subst hrx
      have hNl : N < rs.length := (List.getElem?_eq_some_iff.1 hr).1
      have c0 := (HAT.out.own.cellAt N (by omega)).trans (rowVs_at hr)
      have hgl := HAT.out.lt
      have e5 : (N : Int) < rs.length := by omega
      have e6 : ((rx.length : Int) == (L : Int)) = false := by simp; omega
      simp only at c0
      have HX := Lib.hid hx
      have HXM := Lib.hid hxm
      have HSTEP := Lib.hid hstep
      have HN := Lib.hid hN
      have hxl5 : rx.length ≤ 5 := by omega
      have HKM := Lib.hid (show k < L ∧ m < (Al.lev t k).length from ⟨hkL, hm⟩)
      clear hx hxm hstep hr hN hxl hm hkL
      go_upto_region 9 with fail
      go_loopw [5, 7] (fun o tt wx => ∃ (j g cap : Nat) (rs : List RowL), j ≤ t ∧ o = .slice (some ⟨g, 0, none⟩) rs.length cap ∧ tt = .int .i64 ((j : Int) + 1) ∧ Hid (rs.map RowL.row = Al.made t k m ++ (Al.ext t rx).take j) ∧ Hid (AllAt wx w.heap.size g cap rs) ∧ Hid (Below w.heap.size w wx)) (fun _ tt _ => t + 1 - (intOf tt).toNat)
      case atStart => exact ⟨0, g, cap, rs, by omega, rfl, rfl, Lib.hid (by simpa using HRS2.out), HAT, HBL⟩
      case round =>
        clear c0 e5 hNl hgl HRS2 HAT HBL
        rename World => wx
        obtain ⟨j, g, cap, rs, hj, rfl, rfl, HRS, HAT, HBL⟩ := hrel
        by_cases hjt : j < t
        · have hxm2 : (rs.map RowL.row)[N]? = some rx := by
            rw [HRS.out, List.getElem?_append_left (by have := (List.getElem?_eq_some_iff.1 HXM.out).1; omega)]
            exact HXM.out
          rw [List.getElem?_map] at hxm2
          obtain ⟨r, hr, hrx⟩ := Option.map_eq_some_iff.1 hxm2
          obtain ⟨ra, rc, rx2⟩ := r
          simp only at hrx
          subst hrx
          have hNl : N < rs.length := (List.getElem?_eq_some_iff.1 hr).1
          have c0 := (HAT.out.own.cellAt N (by omega)).trans (rowVs_at hr)
          have HRC := Lib.hid (HAT.out.rows _ (List.mem_of_getElem? hr))
          simp only at c0 HRC
          have hgl := HAT.out.lt
          have e7 : (N : Int) < rs.length := by omega
          have e8 : (j : Int) + 1 ≤ (t : Int) := by omega
          have hrl : rs.length ≤ 37449 := by
            have : rs.length = (rs.map RowL.row).length := by simp
            rw [this, HRS.out]
            refine Nat.le_trans ?_ (Nat.le_trans hbig hbd)
            rw [List.length_append, List.length_append, List.length_take]; omega
          have HWB := Lib.hid HBL.out.size
          have HTK : Hid (rs.map RowL.row ++ [rx2 ++ [(j : Int) + 1]] = Al.made t k m ++ (Al.ext t rx2).take (j + 1)) := Lib.hid (by rw [HRS.out, List.take_add_one, allext_at hjt, List.append_assoc]; rfl)
          clear hxm2 hr
          go_wp2_with (first
            | (at_builtin; refine wpList_app rfl (.const (.slice none 0 0)) (.tmp 45) rfl wx.heap.size none 0 0 [] rfl (World.ownsRow_nil _ _ _ _) (Nat.le_refl _) ra rx2 rc rfl HRC.out (by omega) ?_; intro va1 vc1 w4 ho4 hg4; simp only [Nat.zero_add, List.nil_append] at ho4)
            | (at_builtin; refine wpList_app rfl (.tmp 46) (.tmp 48) rfl wx.heap.size va1 rx2.length vc1 rx2 rfl (ho4.alloc _) (by have := hg4.size; simp; omega) (some ⟨w4.heap.size, 0, none⟩) [(j : Int) + 1] 1 rfl (cells_new w4 _ _) (by simp; omega) ?_; intro va2 vc2 w5 ho5 hg5; obtain ⟨hb5, hc5, ha5⟩ := all_new HAT.out ho4 hg4 (.cells #[.int .i64 ((j : Int) + 1)] 3) ho5 hg5; have HO5 := Lib.hid (own_same HAT.out.own fun k _ hk => hb5.block k hk); have HB5 := Lib.hid hb5; have HC5 := Lib.hid hc5; have HA5 := Lib.hid ha5; clear ho4 hg4 ho5 hg5 hb5 hc5 ha5)
            | (at_builtin; refine wpList_append_lies _ rfl (.tmp 41) (.tmp 50) 22 rfl w.heap.size 25 i1 (.slice none 0 0) 1 24 Tryd.underlying22 hi1 hy0 hy1 hy2 rfl (by decide) _ rs.length (rowVs rs) rfl (HO5.out.alloc _) ⟨w5.heap.size, 0, none⟩ 1 1 [.slice va2 (rx2.length + 1) vc2] rfl rfl (World.news_of_block (cs := #[.slice va2 (rx2.length + 1) vc2]) (t := 25) (fr := (0, 0)) (heap_alloc_new w5 _)) (by simp [Value.oneCell']) (by decide) (by unfold maxLen; omega) (by omega) (by have := HB5.out.size; have := HWB.out; simp; omega) (w5.heap.size + 1) (by simp) ?_; intro g6 cap6 w6 ho6 hg6 hl6 _))
          have hat : AllAt w6 w.heap.size g6 cap6 (rs ++ [⟨va2, vc2, rx2 ++ [(j : Int) + 1]⟩]) := HAT.out.push (HB5.out.alloc HB5.out.size (.cells #[.slice va2 (rx2.length + 1) vc2] 25)) (HC5.out.below (boxA _ _)) (fun a ha => ⟨(HA5.out a ha).1, by have := (HA5.out a ha).2; simp; omega⟩) (by simpa using ho6) hg6 (hl6.imp id fun h => by rw [h]; simp)
          have hbl : Below w.heap.size w w6 := HBL.out.trans (((HB5.out.alloc HB5.out.size (.cells #[.slice va2 (rx2.length + 1) vc2] 25)).mono HWB.out).trans ((Below.refl w.heap.size _).grown hg6 (by have := HB5.out.size; have := HWB.out; simp; omega) (fun x hx => by cases hx; exact (HAT.out.own.lt g rfl).1)))
          exact ⟨⟨j + 1, g6, cap6, rs ++ [⟨va2, vc2, rx2 ++ [(j : Int) + 1]⟩], by omega, by simp, by go_num, Lib.hid (by rw [List.map_append]; exact HTK.out), Lib.hid hat, Lib.hid hbl⟩, by simp [intOf]; omega⟩
        · have e8 : ¬ (j : Int) + 1 ≤ (t : Int) := by omega
          obtain rfl : j = t := by omega
          have HRN : Hid (rs.map RowL.row = Al.made j k (m + 1)) := Lib.hid (by rw [HRS.out, HSTEP.out, List.take_of_length_le (by rw [Al.ext_len]; exact Nat.le_refl _)])
          have HNN : Hid ((N : Int) + 1 = (Al.off j k + (m + 1) : Nat)) := Lib.hid (by have := HN.out; omega)
          have HKN : Hid ((k < L ∧ m + 1 ≤ (Al.lev j k).length) ∨ (k = L ∧ m + 1 = 0)) := Lib.hid (.inl ⟨HKM.out.1, HKM.out.2⟩)
          go_wp2
          exact ⟨⟨k, m + 1, g, cap, rs, rfl, by rw [HNN.out], HKN.out, HRN, HAT, HBL⟩, by simp [intOf]; omega⟩
    · have HRL : Hid (rs.map RowL.row = Al.levs t k) := Lib.hid (by rw [HRS2.out, Al.made_zero])
      have hlen : rs.length = Al.off t k + (Al.lev t k).length := by
        have : rs.length = (rs.map RowL.row).length := by simp
        rw [this, HRL.out, Al.levs_len]
      rw [Nat.add_zero]
      generalize hN : Al.off t k = N at *
      have HN := Lib.hid hN
      by_cases hz : 0 < (Al.lev t k).length
      · obtain ⟨x, hx⟩ : ∃ x, (Al.lev t k)[0]? = some x := ⟨_, List.getElem?_eq_getElem hz⟩
        have hxl : x.length = k := (Al.lev_word.1 (List.mem_of_getElem? hx)).1
        have hxm := Al.levs_at hx
        rw [hN, Nat.add_zero, ← HRL.out, List.getElem?_map] at hxm
        obtain ⟨r, hr, hrx⟩ := Option.map_eq_some_iff.1 hxm
        obtain ⟨ra, rc, rx⟩ := r
        simp only at hrx
        subst hrx
        have hNl : N < rs.length := (List.getElem?_eq_some_iff.1 hr).1
        have c0 := (HAT.out.own.cellAt N (by omega)).trans (rowVs_at hr)
        have hgl := HAT.out.lt
        have e5 : (N : Int) < rs.length := by omega
        have e6 : ((rx.length : Int) == (k : Int)) = true := by simp; omega
        simp only at c0
        clear hx hxm hr hN hxl hlen
        go_wp2
        go_ret
        exact ⟨HBL.out, g, cap, rs, rfl, HRL.out, HAT.out⟩
      · have e5 : ¬ (N : Int) < rs.length := by omega
        clear hN hlen
        go_wp2
        go_ret
        exact ⟨HBL.out, g, cap, rs, rfl, HRL.out, HAT.out⟩
end Go.Proofs.YtejjdfmobiegdaaDoor
