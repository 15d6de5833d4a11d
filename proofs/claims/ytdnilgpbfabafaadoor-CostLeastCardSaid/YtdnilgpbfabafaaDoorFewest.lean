/- CostLeast, walked. -/
import Derived.Test.YtdnilgpbfabafaaDoorTells
import Derived.Test.YtdnilgpbfabafaaDoorPick
import Derived.Deep.RegionLaw
import Derived.Deep.Cut
import Derived.Deep.CutRange
import Derived.Deep.CutBlock
namespace Go.Proofs.YtdnilgpbfabafaaDoor
open Go.RowKit

theorem step_append_none {P : Program} {w : World} {ops : Array Oper} {o : Oper} {a : Act} {K : Act → World → Prop} {Q : Exit → Act → World → Prop} {E : Prop} (hgd : o.guard = none) (s x : Operand) (t : TypeId)
    (ho : o.op = .call { callee := .builtin .append, args := #[s, x], argTypes := #[t, t] })
    (base : Nat) (e : TypeId) (i : TypeInfo) (size : Nat) (ht : P.underlying t = some (.slice e)) (hi : P.info? e = some i)
    (v : Value) (n : Nat) (xs : List Value) (hs : a.eval s = v) (hown : w.ownsRow base e size v n xs) (hx : a.eval x = .slice none 0 0)
    (h : K (a.put o.dst v) w) : if Region.wanted o (yielded ops a.tmps) = true then Oper.wp P o a w K Q else E := by
  have hw : Region.wanted o (yielded ops a.tmps) = true := by simp [Region.wanted, hgd]
  rw [if_pos hw]
  have hrun := run_append_owned_none (P := P) (w := w) base t o.type e i size ht hi v n xs hown
  unfold Oper.wp
  simp [execOp, ho, resolve, invoke, builtin, hs, hx, hrun, Result.andThen]
  exact h
theorem addr_add (g t j : Nat) : (⟨g, t, none⟩ : Addr).add j = ⟨g, t + j, none⟩ := by
  unfold Addr.add
  by_cases h : j = 0
  · subst h; simp
  · simp [h]
section
variable {P : Program} {w : World}
/-- append onto a row of the call's own, at a step of a region that draws its order. -/
theorem step_append_own {ops : Array Oper} {o : Oper} {a : Act} {K : Act → World → Prop} {Q : Exit → Act → World → Prop} {E : Prop} (hgd : o.guard = none) (s x : Operand) (t : TypeId)
    (ho : o.op = .call { callee := .builtin .append, args := #[s, x], argTypes := #[t, t] })
    (base : Nat) (e : TypeId) (i : TypeInfo) (z : Value) (size bytes : Nat) (ht : P.underlying t = some (.slice e)) (hi : P.info? e = some i) (hz : i.zero = some z)
    (hsize : i.size = size) (hby : i.bytes = bytes) (hzs : z.cells.size = size) (hsz : 0 < size)
    (v : Value) (n : Nat) (xs : List Value) (hs : a.eval s = v) (hown : w.ownsRow base e size v n xs)
    (ad : Addr) (m c : Nat) (news : List Value) (hx : a.eval x = .slice (some ad) m c) (hl : news.length = m * size) (hnews : ∀ j u, news[j]? = some u → w.cell? (ad.add j) = some u) (h1 : ∀ u ∈ news, u.oneCell' = true)
    (h63 : n + m ≤ maxLen) (hbytes : (n + m) * bytes ≤ 140737488355328) (hbase : base ≤ w.heap.size)
    (h : ∀ v' w', w'.ownsRow base e size v' (n + m) (xs ++ news) → w.grownBy w' v.ownBlock → K (a.put o.dst v') w') :
    if Region.wanted o (yielded ops a.tmps) = true then Oper.wp P o a w K Q else E := by
  have hw : Region.wanted o (yielded ops a.tmps) = true := by simp [Region.wanted, hgd]
  rw [if_pos hw]
  exact wp_append_own w s x t ho base e i z size bytes ht hi hz hsize hby hzs hsz v n xs hs hown ad m c news hx hl hnews h1 h63 hbytes hbase fun v' w' h2 h3 _ => h v' w' h2 h3
end
theorem news_alloc {w : World} {g t : Nat} {news : List Value} {o : Obj} (h : ∀ j u, news[j]? = some u → w.cell? ((⟨g, t, none⟩ : Addr).add j) = some u) (hg : g < w.heap.size) : ∀ j u, news[j]? = some u → (w.drew.alloc o).cell? ((⟨g, t, none⟩ : Addr).add j) = some u := by
  intro j u hu
  have := h j u hu
  rw [addr_add] at this ⊢
  rw [← this]
  exact World.cell?_alloc_lt w.drew o _ hg
theorem news_kept {w w' : World} {x : Value} {t : TypeId} (hg : (w.drew.alloc (.cells #[x] t (0, 0))).grownBy w' none) : ∀ j u, [x][j]? = some u → w'.cell? ((⟨w.heap.size, 0, none⟩ : Addr).add j) = some u := by
  refine World.news_of_block (cs := #[x]) (t := t) (fr := (0, 0)) ?_
  rw [hg.block w.heap.size (by simp) (by simp)]
  exact heap_alloc_new w.drew _
theorem news_cut {w w' : World} {g t k cap : Nat} {news : List Value} (h : ∀ j u, news[j]? = some u → w.cell? ((⟨g, t, none⟩ : Addr).add j) = some u) (hl : news.length = (k - t) * 1) (hk : k ≤ cap) (hg : g < w.heap.size) (hb : Below w.heap.size w w') :
    ∀ j u, news[j]? = some u → w'.cell? ((if cap = t then (⟨g, 0, none⟩ : Addr) else ⟨g, t, none⟩).add j) = some u := by
  intro j u hu
  by_cases hc : cap = t
  · have : news = [] := List.eq_nil_of_length_eq_zero (by rw [hl]; omega)
    subst this
    simp at hu
  · rw [if_neg hc]
    have := h j u hu
    rw [addr_add] at this ⊢
    rw [← this]
    exact hb.cell (p := ⟨g, t + j, none⟩) hg
theorem news_below {w w' : World} {g t : Nat} {news : List Value} (h : ∀ j u, news[j]? = some u → w.cell? ((⟨g, t, none⟩ : Addr).add j) = some u) (hg : g < w.heap.size) (hb : Below w.heap.size w w') : ∀ j u, news[j]? = some u → w'.cell? ((⟨g, t, none⟩ : Addr).add j) = some u := by
  intro j u hu
  have := h j u hu
  rw [addr_add] at this ⊢
  rw [← this]
  exact hb.cell (p := ⟨g, t + j, none⟩) hg
set_option maxRecDepth 100000 in
set_option maxHeartbeats 100000000 in
theorem least_walk (a0 : Option Addr) (len0 cap0 : Nat) (z0 : List Int) (a1 : Option Addr) (len1 cap1 : Nat) (z1 : List Int) (x : Nat) (at_ : Int) (w : World) (w0 : IsRow .i64 w a0 len0 cap0 z0) (w1 : IsRow .i64 w a1 len1 cap1 z1) (hx : x < 18446744073709551616) (HT : Tab w) :
    Calls Tryd.prog 4 #[.slice a0 len0 cap0, .slice a1 len1 cap1, .float .f64 x, .int .i64 at_] w fun e w' => e = .returned (.bool true) ∧ Below w.heap.size w w' := by
  obtain ⟨i0, hi, hz0, hz1, hz2⟩ := info_parts infoF
  go_enter Tryd.func4, Tryd.ntmps4
  go_upto_block 0 with fail
  go_cut [9, 10] from 18 to 46 (fun v i wr => ∃ k : Nat, ∃ xs : List Nat, k ≤ 9 ∧ i = .int .i64 k ∧ Hid (xs.length = k ∧ ∀ y ∈ xs, y < 18446744073709551616) ∧ wr.ownsRow w.heap.size 24 1 v k (xs.map (Value.float .f64)) ∧ Below w.heap.size w wr)
  case first =>
    go_wp2_with fail
    go_loopw [9, 10] (fun v i wr => ∃ k : Nat, ∃ xs : List Nat, k ≤ 9 ∧ i = .int .i64 k ∧ Hid (xs.length = k ∧ ∀ y ∈ xs, y < 18446744073709551616) ∧ wr.ownsRow w.heap.size 24 1 v k (xs.map (Value.float .f64)) ∧ Below w.heap.size w wr) (fun _ i _ => 9 - (intOf i).toNat)
    case atStart => exact ⟨0, [], by omega, rfl, ⟨rfl, by simp⟩, World.ownsRow_nil _ _ _ _, Below.refl _ _⟩
    case round =>
      obtain ⟨k, xs, hk, rfl, hxs, hown, hbr⟩ := hrel
      by_cases hlt : k < len0 ∧ k < len1 ∧ k < 9
      · obtain ⟨hl0, hl1, hl9⟩ := hlt
        obtain ⟨b0, o0, rfl, lt0, hm0, hcell0⟩ := w0.at_ (by omega)
        obtain ⟨b1, o1, rfl, lt1, hm1, hcell1⟩ := w1.at_ (by omega)
        have hc0' : wr.cell? ⟨b0, o0 + k, none⟩ = some (.int .i64 (z0.getD k 0)) := (hbr.cell lt0).trans (hcell0 k hl0)
        have hc1' : wr.cell? ⟨b1, o1 + k, none⟩ = some (.int .i64 (z1.getD k 0)) := (hbr.cell lt1).trans (hcell1 k hl1)
        have hl0' : b0 < wr.heap.size := Nat.lt_of_lt_of_le lt0 hbr.size
        have hl1' : b1 < wr.heap.size := Nat.lt_of_lt_of_le lt1 hbr.size
        have hw0 := hcell0 k hl0
        have hw1 := hcell1 k hl1
        generalize z0.getD k 0 = za at *
        generalize z1.getD k 0 = zh at *
        have hk0 : (0 : Int) ≤ (k : Int) := by omega
        have hk1 : (k : Int) < (len0 : Int) := by omega
        have hk2 : (k : Int) < (len1 : Int) := by omega
        have HOWN := Lib.hid hown
        have HBR := Lib.hid hbr
        clear hcell0 hcell1 w0 w1 hown hbr
        go_wp2_with fail
        have HW0 := Lib.hid hw0
        have HW1 := Lib.hid hw1
        clear hw0 hw1
        go_region_held3 (fun w' => w'.cell? ⟨b0, o0 + k, none⟩ = some (.int .i64 za) ∧ w'.cell? ⟨b1, o1 + k, none⟩ = some (.int .i64 zh))
          (first | go_keep | (exact ⟨(hxb.cell (p := ⟨b0, o0 + k, none⟩) hl0').trans hc0', (hxb.cell (p := ⟨b1, o1 + k, none⟩) hl1').trans hc1'⟩) | (exact ⟨(hB3.cell (p := ⟨b0, o0 + k, none⟩) lt0).trans HW0.out, (hB3.cell (p := ⟨b1, o1 + k, none⟩) lt1).trans HW1.out⟩))
          (first
            | (go_at_call 14; refine (x_any _ _ x hx _).mono ?_; rintro e w2 ⟨b, rfl, hb64, hxb⟩)
            | (refine step_append_lies _ (by rfl) _ _ _ (by rfl) w.heap.size 24 i0 _ 1 8 Tryd.underlying27 hi hz0 hz1 hz2 rfl (by omega) _ k (xs.map (Value.float .f64)) (by rfl) ((ownsRow_below HOWN.out.drew hxb).alloc _) ⟨w2.heap.size, 0, none⟩ 1 1 [.float .f64 b] (by rfl) (by rfl) (World.news_of_block (cs := #[.float .f64 b]) (t := 24) (fr := (0, 0)) (heap_alloc_new w2 _)) (by simp [Value.oneCell']) (by omega) (by unfold maxLen; omega) (by omega) (by have := HBR.out.size; have := hxb.size; simp at *; omega) (w2.heap.size + 1) (by simp) ?_
               intro gg cap w3 hown3 hgrow hat hlt3
               have hB3 : Below w.heap.size w w3 := Below.grown (((HBR.out.drew.trans (hxb.mono HBR.out.drew.size)).alloc (Nat.le_trans HBR.out.drew.size hxb.size) _)) hgrow (by have := HBR.out.size; have := hxb.size; simp at *; omega) (fun j hj => ((ownsRow_below HOWN.out.drew hxb).lt j hj).1)))
        have hrel2 : Hid ((xs ++ [b]).length = k + 1 ∧ ∀ y ∈ xs ++ [b], y < 18446744073709551616) := by
          refine ⟨by simp [hxs.out.1], fun y hy => ?_⟩
          rcases List.mem_append.1 hy with h | h
          · exact hxs.out.2 y h
          · simp at h; rw [h]; exact hb64
        have HO3 : Hid (w3.ownsRow w.heap.size 24 1 (.slice (some ⟨gg, 0, none⟩) (k + 1) cap) (k + 1) ((xs ++ [b]).map (Value.float .f64))) := by
          rw [List.map_append]; exact hown3
        have HB3 := Lib.hid hB3
        clear hown3 hgrow hat hlt3 hB3 hxb hb64
        go_wp2
        go_roundw
        case rel => exact ⟨k + 1, xs ++ [b], by omega, by go_num, hrel2, HO3.out, HB3.out⟩
        case measure => simp [intOf]; omega
      · have hex : len0 ≤ k ∨ (k < len0 ∧ len1 ≤ k) ∨ (k < len0 ∧ k < len1 ∧ 9 ≤ k) := by omega
        have HOW := Lib.hid hown
        have HBR := Lib.hid hbr
        have hkn := hk
        clear hown hbr w0 w1 hk hlt
        rcases hex with h | ⟨h, h'⟩ | ⟨h, h', h''⟩
        all_goals
          go_wp2_with fail
          go_meet
          exact ⟨k, xs, hkn, rfl, hxs, HOW.out, HBR.out⟩
  case rest =>
    obtain ⟨k, xs, hk, rfl, hxs, hown, hbr⟩ := hcut
    have hkn : k ≤ 9 := hk
    obtain ⟨a, cap, rfl, hfl⟩ := isFl_of_own hxs.out.1 hxs.out.2 (by omega) hown
    have HFL := Lib.hid hfl
    have HOW := Lib.hid hown
    have HBR := Lib.hid hbr
    have HPI := Lib.hid (fun t (ht : t ≤ xs.length) => Fl.least_insert xs 13826050856027422720 t ht (by decide))
    clear hfl hown w0 w1 hbr hk
    go_wp2_with fail
    refine (least_fl cap HFL.out).mono ?_
    rintro e w3 ⟨rfl, rfl⟩
    have hpl := Fl.pick_least xs
    generalize hpz : (Fl.pick xs).1 = z at *
    have HPZ := Lib.hid hpz
    clear hpz
    rcases hpl with ⟨rfl, hno⟩ | ⟨q, hq, rfl, hqr, hqi, hqle⟩
    · as_aux_lemma =>
      have HNO := Lib.hid hno
      have hd : decide ((k : Int) ≤ -1) = false := by rw [decide_eq_false_iff_not]; omega
      clear hno
      go_wp2_with fail
      go_loop [59] (fun i => ∃ j : Nat, j ≤ k ∧ i = .int .i64 j) (fun i => k - (intOf i).toNat)
      case atStart => exact ⟨0, by omega, rfl⟩
      case round =>
        obtain ⟨j, hj, rfl⟩ := hrel
        by_cases hlt : j < k
        · obtain ⟨hf1, hf3, _, hf4 | ⟨g, rfl, hcell⟩⟩ := HFL.out
          · omega
          have hcj := hcell j hlt
          have hy := hf3 _ (Fl.mem_getD xs j (by omega))
          rw [Nat.zero_add] at hcj
          have hfine := HNO.out j (by omega)
          have hjz : ((j : Int) == -1) = false := by rw [beq_eq_false_iff_ne]; omega
          have hcs : Fl.right (xs.getD j 0) = false ∨ (Fl.right (xs.getD j 0) = true ∧ (FloatKind.f64.format.order (xs.getD j 0) 9218868437227405312 == some .lt) = false) := by
            cases hr : Fl.right (xs.getD j 0)
            · exact .inl rfl
            · right
              refine ⟨rfl, ?_⟩
              have h1 : ¬ xs.getD j 0 < Fl.inf := fun h => hfine ⟨hr, h⟩
              have := Fl.order_lt (xs.getD j 0) Fl.inf (Fl.right_le hr) (Nat.le_refl _)
              rw [decide_eq_false h1] at this; exact this
          clear hcell hfine hf1 hf3
          generalize xs.getD j 0 = y at *
          rcases hcs with hr | ⟨hr, ho⟩
          · go_wp2_with (first | (go_at_call 11; refine (right_any _ hy _).mono ?_; rintro e w' ⟨rfl, rfl⟩) | (go_at_call 16; refine (endless_any _).mono ?_; rintro e w' ⟨rfl, rfl⟩))
            exact ⟨⟨j + 1, by omega, by go_num⟩, by simp [intOf]; omega⟩
          · go_wp2_with (first | (go_at_call 11; refine (right_any _ hy _).mono ?_; rintro e w' ⟨rfl, rfl⟩) | (go_at_call 16; refine (endless_any _).mono ?_; rintro e w' ⟨rfl, rfl⟩))
            exact ⟨⟨j + 1, by omega, by go_num⟩, by simp [intOf]; omega⟩
        · go_wp2_with fail
          refine (within_any at_ ((k : Int) + 1) (by omega) (by omega) _).mono ?_
          rintro e w4 ⟨rfl, rfl⟩
          have t0 := Int.emod_nonneg at_ (show ((k : Int) + 1) ≠ 0 by omega)
          have t1 := Int.emod_lt_of_pos at_ (show 0 < ((k : Int) + 1) by omega)
          generalize at_ % ((k : Int) + 1) = t' at *
          obtain ⟨t, rfl⟩ := Int.eq_ofNat_of_zero_le t0
          rcases HOW.out.2 with ⟨e, hk0⟩ | ⟨g, cap', cur, e, _, _, hkc, _⟩
          · injection e with e1 _ e3
            subst e1 e3 hk0
            obtain rfl : t = 0 := by omega
            have hx0 : xs = [] := List.eq_nil_of_length_eq_zero hxs.out.1
            subst hx0
            clear HOW
            go_wp2_with fail
            go_region_law (first
                | (refine step_append_none (by rfl) (.const (.slice none 0 0)) (.tmp 114) _ (by rfl) w4.heap.size 24 i0 1 Tryd.underlying27 hi _ 0 [] (by rfl) (World.ownsRow_nil _ _ _ _) (by rfl) ?_)
                | (refine step_append_own (by rfl) (.tmp 115) (.tmp 116) _ (by rfl) w4.heap.size 24 i0 (.float .f64 0) 1 8 Tryd.underlying27 hi hz0 hz1 hz2 rfl (by omega) _ 0 [] (by rfl) (World.ownsRow_nil _ _ _ _) ⟨w4.heap.size, 0, none⟩ 1 1 [.float .f64 13826050856027422720] (by rfl) (by rfl) (World.news_of_block (cs := #[.float .f64 13826050856027422720]) (t := 24) (fr := (0, 0)) (heap_alloc_new w4.drew _)) (by simp [Value.oneCell']) (by unfold maxLen; omega) (by omega) (by simp) ?_
                   intro v7 w7 hown7 hgrow7
                   have hB7 : Below w4.heap.size w4 w7 := ((Below.refl _ _).drew.alloc (by simp) _).grown hgrow7 (by simp) (fun j hj => by cases hj))
                | (refine step_append_none (by rfl) (.tmp 117) (.tmp 120) _ (by rfl) w4.heap.size 24 i0 1 Tryd.underlying27 hi v7 (0 + 1) _ (by rfl) hown7 (by rfl) ?_))
            all_goals
              have HB7 := Lib.hid (HBR.out.trans (hB7.mono HBR.out.size))
              obtain ⟨a7, cap7, rfl, hf7⟩ := isFl_of_own (k := 0 + 1) (xs := [13826050856027422720]) rfl (fun y hy => by simp at hy; rw [hy]; decide) (by omega) hown7
              have HF7 := Lib.hid hf7
              have HJ := Lib.hid (HPI.out 0 (by simp))
              clear hown7 hgrow7 hB7 hf7 HFL
              go_wp2_with fail
              refine (least_fl cap7 HF7.out).mono ?_
              rw [show Fl.pick [13826050856027422720] = Fl.pick (List.take 0 [] ++ 13826050856027422720 :: List.drop 0 []) from rfl, HJ.out]
              rintro e w8 ⟨rfl, rfl⟩
              rw [if_neg (by omega)]
              clear HF7
              go_wp2_with fail
              refine (wakes_any _ (HT.below HB7.out)).mono ?_
              rintro e w9 ⟨rfl, hb9⟩
              have HB9 := Lib.hid (HB7.out.trans (hb9.mono HB7.out.size))
              clear hb9
              go_wp2
              go_ret
              exact ⟨rfl, HB9.out⟩
          · injection e with e1 _ e3
            subst e1 e3
            have CT : Hid (∀ j u, ((xs.take t).map (Value.float .f64))[j]? = some u → w4.cell? ((⟨g, 0, none⟩ : Addr).add j) = some u) := Lib.hid (fun j u hu => by
              refine HOW.out.cells (g := g) rfl j u ?_
              rw [List.map_take] at hu
              rw [List.getElem?_take] at hu
              by_cases hjt : j < t
              · rwa [if_pos hjt] at hu
              · rw [if_neg hjt] at hu; cases hu)
            have CD : Hid (∀ j u, ((xs.drop t).map (Value.float .f64))[j]? = some u → w4.cell? ((⟨g, t, none⟩ : Addr).add j) = some u) := Lib.hid (fun j u hu => by
              have := HOW.out.cells (g := g) rfl (t + j) u (by rw [← hu, List.map_drop, List.getElem?_drop])
              rw [addr_add] at this ⊢
              rw [Nat.zero_add] at this
              exact this)
            have hgl := (HOW.out.lt g rfl).2
            have LT : Hid (((xs.take t).map (Value.float .f64)).length = t * 1) := Lib.hid (by have := hxs.out.1; rw [List.length_map, List.length_take]; omega)
            have LD : Hid (((xs.drop t).map (Value.float .f64)).length = (k - t) * 1) := Lib.hid (by have := hxs.out.1; rw [List.length_map, List.length_drop]; omega)
            have t2 : (t : Int) ≤ k := by omega
            have kc : (k : Int) ≤ cap := by omega
            have n1 : t ≤ cap := by omega
            have n2 : t ≤ k := by omega
            have n3 : k ≤ cap := by omega
            clear HOW
            go_wp2_with fail
            go_region_law (first
                | (refine step_append_own (by rfl) (.const (.slice none 0 0)) (.tmp 114) _ (by rfl) w4.heap.size 24 i0 (.float .f64 0) 1 8 Tryd.underlying27 hi hz0 hz1 hz2 rfl (by omega) _ 0 [] (by rfl) (World.ownsRow_nil _ _ _ _) ⟨g, 0, none⟩ t cap ((xs.take t).map (Value.float .f64)) (by rfl) LT.out (by first | exact CT.out | exact news_alloc CT.out hgl) (by intro u hu; obtain ⟨y, _, rfl⟩ := List.mem_map.1 hu; rfl) (by unfold maxLen; omega) (by omega) (by simp) ?_
                   intro v5 w5 hown5 hgrow5
                   have hB5 : Below w4.heap.size w4 w5 := by first | exact (Below.refl _ _).drew.grown hgrow5 (by simp) (fun j hj => by cases hj) | exact ((Below.refl _ _).drew.alloc (by simp) _).grown hgrow5 (by simp) (fun j hj => by cases hj))
                | (refine step_append_own (by rfl) (.tmp 115) (.tmp 116) _ (by rfl) w4.heap.size 24 i0 (.float .f64 0) 1 8 Tryd.underlying27 hi hz0 hz1 hz2 rfl (by omega) v5 (0 + t) _ (by rfl) (by first | exact hown5 | exact hown5.alloc _) ⟨w4.heap.size, 0, none⟩ 1 1 [.float .f64 13826050856027422720] (by rfl) (by rfl) (by exact news_kept hgrow5) (by simp [Value.oneCell']) (by unfold maxLen; omega) (by omega) (by have := hB5.size; simp at *; omega) ?_
                   intro v6 w6 hown6 hgrow6
                   have hB6 : Below w4.heap.size w4 w6 := hB5.grown hgrow6 (by have := hB5.size; simp at *; omega) (fun j hj => (hown5.lt j hj).1))
                | (refine step_append_own (by rfl) (.tmp 115) (.tmp 116) _ (by rfl) w4.heap.size 24 i0 (.float .f64 0) 1 8 Tryd.underlying27 hi hz0 hz1 hz2 rfl (by omega) v5 (0 + t) _ (by rfl) (hown5.alloc _) ⟨w5.heap.size, 0, none⟩ 1 1 [.float .f64 13826050856027422720] (by rfl) (by rfl) (World.news_of_block (cs := #[.float .f64 13826050856027422720]) (t := 24) (fr := (0, 0)) (heap_alloc_new w5 _)) (by simp [Value.oneCell']) (by unfold maxLen; omega) (by omega) (by have := hB5.size; simp at *; omega) ?_
                   intro v6 w6 hown6 hgrow6
                   have hB6 : Below w4.heap.size w4 w6 := (hB5.alloc hB5.size _).grown hgrow6 (by have := hB5.size; simp at *; omega) (fun j hj => (hown5.lt j hj).1))
                | (refine step_append_own (by rfl) (.tmp 117) (.tmp 120) _ (by rfl) w4.heap.size 24 i0 (.float .f64 0) 1 8 Tryd.underlying27 hi hz0 hz1 hz2 rfl (by omega) v6 (0 + t + 1) _ (by rfl) hown6 (if cap = t then ⟨g, 0, none⟩ else ⟨g, t, none⟩) (k - t) (cap - t) ((xs.drop t).map (Value.float .f64)) (by show Value.slice _ _ _ = _; by_cases hct : cap = t <;> simp [hct]) LD.out (by exact news_cut CD.out LD.out n3 hgl hB6) (by intro u hu; obtain ⟨y, _, rfl⟩ := List.mem_map.1 hu; rfl) (by unfold maxLen; omega) (by omega) (by have := hB6.size; simp at *; omega) ?_
                   intro v7 w7 hown7 hgrow7
                   have hB7 : Below w4.heap.size w4 w7 := hB6.grown hgrow7 (by have := hB6.size; simp at *; omega) (fun j hj => (hown6.lt j hj).1)))
            all_goals
              generalize (if cap = t then some (⟨g, 0, none⟩ : Addr) else some ⟨g, t, none⟩) = ad
              have HB7 := Lib.hid (HBR.out.trans (hB7.mono HBR.out.size))
              have hnew : w7.ownsRow w4.heap.size 24 1 v7 (k + 1) ((xs.take t ++ 13826050856027422720 :: xs.drop t).map (Value.float .f64)) := by
                rw [show 0 + t + 1 + (k - t) = k + 1 by omega] at hown7
                simpa using hown7
              obtain ⟨a7, cap7, rfl, hf7⟩ := isFl_of_own (k := k + 1) (by have := hxs.out.1; simp; omega) (fun y hy => by
                rcases List.mem_append.1 hy with hy | hy
                · exact hxs.out.2 y (List.mem_of_mem_take hy)
                · rcases List.mem_cons.1 hy with rfl | hy
                  · decide
                  · exact hxs.out.2 y (List.mem_of_mem_drop hy)) (by omega) hnew
              have HF7 := Lib.hid hf7
              have HJ := Lib.hid (HPI.out t (by have := hxs.out.1; omega))
              clear hnew hown7 hown6 hown5 hgrow7 hgrow6 hgrow5 hB7 hB6 hB5 hf7 CT CD LT LD HFL hgl
              go_wp2_with fail
              refine (least_fl cap7 HF7.out).mono ?_
              rw [HJ.out]
              rintro e w8 ⟨rfl, rfl⟩
              rw [if_neg (by omega)]
              have htz : (-1 : Int) < t := by omega
              clear HF7
              go_wp2_with fail
              refine (wakes_any _ (HT.below HB7.out)).mono ?_
              rintro e w9 ⟨rfl, hb9⟩
              have HB9 := Lib.hid (HB7.out.trans (hb9.mono HB7.out.size))
              clear hb9
              go_wp2
              go_ret
              exact ⟨rfl, HB9.out⟩
    · as_aux_lemma =>
      have hqk : q < k := by have := hxs.out.1; omega
      have hd1 : decide ((q : Int) < -1) = false := by rw [decide_eq_false_iff_not]; omega
      have hd2 : decide ((k : Int) ≤ q) = false := by rw [decide_eq_false_iff_not]; omega
      have hd4 : decide (k ≤ q) = false := by rw [decide_eq_false_iff_not]; omega
      have hd3 : decide ((q : Int) < 0) = false := by rw [decide_eq_false_iff_not]; omega
      have HQLE := Lib.hid hqle
      have HQR := Lib.hid hqr
      have HQI := Lib.hid hqi
      clear hqle hqr hqi
      go_wp2_with fail
      go_loop [59] (fun i => ∃ j : Nat, j ≤ k ∧ i = .int .i64 j) (fun i => k - (intOf i).toNat)
      case atStart => exact ⟨0, by omega, rfl⟩
      case round =>
        obtain ⟨j, hj, rfl⟩ := hrel
        by_cases hlt : j < k
        · obtain ⟨hf1, hf3, _, hf4 | ⟨g, rfl, hcell⟩⟩ := HFL.out
          · omega
          have hcj := hcell j hlt
          have hcq := hcell q hqk
          have hy := hf3 _ (Fl.mem_getD xs j (by omega))
          rw [Nat.zero_add] at hcj hcq
          have hle := HQLE.out j (by omega)
          have hqi := HQI.out
          have j0 : (0 : Int) ≤ j := by omega
          have q0 : (0 : Int) ≤ q := by omega
          have q1 : (q : Int) < k := by omega
          by_cases hfine : Fl.right (xs.getD j 0) = true ∧ xs.getD j 0 < Fl.inf
          · obtain ⟨hr, hyi⟩ := hfine
            have hle := hle hr
            have ho1 : (FloatKind.f64.format.order (xs.getD j 0) 9218868437227405312 == some .lt) = true := by
              have := Fl.order_lt (xs.getD j 0) Fl.inf (Nat.le_of_lt hyi) (Nat.le_refl _)
              rw [decide_eq_true hyi] at this; exact this
            have ho2 : (FloatKind.f64.format.order (xs.getD j 0) (xs.getD q 0) == some .lt) = false := by
              have := Fl.order_lt (xs.getD j 0) (xs.getD q 0) (Nat.le_of_lt hyi) (Nat.le_of_lt hqi)
              rw [decide_eq_false (by omega)] at this; exact this
            have hoc : FloatKind.f64.format.order (xs.getD j 0) (xs.getD q 0) = some (compare (xs.getD j 0) (xs.getD q 0)) := Fl.order_le _ _ (Nat.le_of_lt hyi) (Nat.le_of_lt hqi)
            by_cases hjq : j = q
            · subst hjq
              have ho3 : (FloatKind.f64.format.order (xs.getD j 0) (xs.getD j 0) == some .eq) = true := by rw [hoc]; simp
              clear hoc hle hyi hqi hcell hf1 hf3 hcq
              generalize xs.getD j 0 = y at *
              go_wp2_with (first | (go_at_call 11; refine (right_any _ hy _).mono ?_; rintro e w' ⟨rfl, rfl⟩) | (go_at_call 16; refine (endless_any _).mono ?_; rintro e w' ⟨rfl, rfl⟩))
              exact ⟨⟨j + 1, by omega, by go_num⟩, by simp [intOf]; omega⟩
            · have hjz : ((j : Int) == (q : Int)) = false := by simp; omega
              by_cases hyy : xs.getD j 0 = xs.getD q 0
              · have hqj : (q : Int) ≤ j := by
                  rcases Nat.lt_or_ge j q with h | h
                  · have := hle.2 h; omega
                  · omega
                have ho3 : (FloatKind.f64.format.order (xs.getD j 0) (xs.getD q 0) == some .eq) = true := by rw [hoc, hyy]; simp
                clear hoc hle hyi hqi hcell hf1 hf3 hyy
                generalize xs.getD j 0 = y at *
                generalize xs.getD q 0 = yq at *
                go_wp2_with (first | (go_at_call 11; refine (right_any _ hy _).mono ?_; rintro e w' ⟨rfl, rfl⟩) | (go_at_call 16; refine (endless_any _).mono ?_; rintro e w' ⟨rfl, rfl⟩))
                exact ⟨⟨j + 1, by omega, by go_num⟩, by simp [intOf]; omega⟩
              · have ho3 : (FloatKind.f64.format.order (xs.getD j 0) (xs.getD q 0) == some .eq) = false := by
                  have : xs.getD q 0 < xs.getD j 0 := by omega
                  rw [hoc, Nat.compare_eq_gt.2 this]; rfl
                clear hoc hle hyi hqi hcell hf1 hf3 hyy
                generalize xs.getD j 0 = y at *
                generalize xs.getD q 0 = yq at *
                go_wp2_with (first | (go_at_call 11; refine (right_any _ hy _).mono ?_; rintro e w' ⟨rfl, rfl⟩) | (go_at_call 16; refine (endless_any _).mono ?_; rintro e w' ⟨rfl, rfl⟩))
                exact ⟨⟨j + 1, by omega, by go_num⟩, by simp [intOf]; omega⟩
          · have hjz : ((j : Int) == (q : Int)) = false := by
              have : j ≠ q := by
                rintro rfl
                exact hfine ⟨HQR.out, HQI.out⟩
              simp; omega
            have hcs : Fl.right (xs.getD j 0) = false ∨ (Fl.right (xs.getD j 0) = true ∧ (FloatKind.f64.format.order (xs.getD j 0) 9218868437227405312 == some .lt) = false) := by
              cases hr : Fl.right (xs.getD j 0)
              · exact .inl rfl
              · right
                refine ⟨rfl, ?_⟩
                have h1 : ¬ xs.getD j 0 < Fl.inf := fun h => hfine ⟨hr, h⟩
                have := Fl.order_lt (xs.getD j 0) Fl.inf (Fl.right_le hr) (Nat.le_refl _)
                rw [decide_eq_false h1] at this; exact this
            clear hcell hfine hf1 hf3 hle hqi hcq
            generalize xs.getD j 0 = y at *
            rcases hcs with hr | ⟨hr, ho⟩
            · go_wp2_with (first | (go_at_call 11; refine (right_any _ hy _).mono ?_; rintro e w' ⟨rfl, rfl⟩) | (go_at_call 16; refine (endless_any _).mono ?_; rintro e w' ⟨rfl, rfl⟩))
              exact ⟨⟨j + 1, by omega, by go_num⟩, by simp [intOf]; omega⟩
            · go_wp2_with (first | (go_at_call 11; refine (right_any _ hy _).mono ?_; rintro e w' ⟨rfl, rfl⟩) | (go_at_call 16; refine (endless_any _).mono ?_; rintro e w' ⟨rfl, rfl⟩))
              exact ⟨⟨j + 1, by omega, by go_num⟩, by simp [intOf]; omega⟩
        · go_wp2_with fail
          refine (within_any at_ ((k : Int) + 1) (by omega) (by omega) _).mono ?_
          rintro e w4 ⟨rfl, rfl⟩
          have t0 := Int.emod_nonneg at_ (show ((k : Int) + 1) ≠ 0 by omega)
          have t1 := Int.emod_lt_of_pos at_ (show 0 < ((k : Int) + 1) by omega)
          generalize at_ % ((k : Int) + 1) = t' at *
          obtain ⟨t, rfl⟩ := Int.eq_ofNat_of_zero_le t0
          rcases HOW.out.2 with ⟨e, hk0⟩ | ⟨g, cap', cur, e, _, _, hkc, _⟩
          · omega
          · injection e with e1 _ e3
            subst e1 e3
            have CT : Hid (∀ j u, ((xs.take t).map (Value.float .f64))[j]? = some u → w4.cell? ((⟨g, 0, none⟩ : Addr).add j) = some u) := Lib.hid (fun j u hu => by
              refine HOW.out.cells (g := g) rfl j u ?_
              rw [List.map_take] at hu
              rw [List.getElem?_take] at hu
              by_cases hjt : j < t
              · rwa [if_pos hjt] at hu
              · rw [if_neg hjt] at hu; cases hu)
            have CD : Hid (∀ j u, ((xs.drop t).map (Value.float .f64))[j]? = some u → w4.cell? ((⟨g, t, none⟩ : Addr).add j) = some u) := Lib.hid (fun j u hu => by
              have := HOW.out.cells (g := g) rfl (t + j) u (by rw [← hu, List.map_drop, List.getElem?_drop])
              rw [addr_add] at this ⊢
              rw [Nat.zero_add] at this
              exact this)
            have hgl := (HOW.out.lt g rfl).2
            have LT : Hid (((xs.take t).map (Value.float .f64)).length = t * 1) := Lib.hid (by have := hxs.out.1; rw [List.length_map, List.length_take]; omega)
            have LD : Hid (((xs.drop t).map (Value.float .f64)).length = (k - t) * 1) := Lib.hid (by have := hxs.out.1; rw [List.length_map, List.length_drop]; omega)
            have t2 : (t : Int) ≤ k := by omega
            have kc : (k : Int) ≤ cap := by omega
            have n1 : t ≤ cap := by omega
            have n2 : t ≤ k := by omega
            have n3 : k ≤ cap := by omega
            clear HOW
            go_wp2_with fail
            go_region_law (first
                | (refine step_append_own (by rfl) (.const (.slice none 0 0)) (.tmp 114) _ (by rfl) w4.heap.size 24 i0 (.float .f64 0) 1 8 Tryd.underlying27 hi hz0 hz1 hz2 rfl (by omega) _ 0 [] (by rfl) (World.ownsRow_nil _ _ _ _) ⟨g, 0, none⟩ t cap ((xs.take t).map (Value.float .f64)) (by rfl) LT.out (by first | exact CT.out | exact news_alloc CT.out hgl) (by intro u hu; obtain ⟨y, _, rfl⟩ := List.mem_map.1 hu; rfl) (by unfold maxLen; omega) (by omega) (by simp) ?_
                   intro v5 w5 hown5 hgrow5
                   have hB5 : Below w4.heap.size w4 w5 := by first | exact (Below.refl _ _).drew.grown hgrow5 (by simp) (fun j hj => by cases hj) | exact ((Below.refl _ _).drew.alloc (by simp) _).grown hgrow5 (by simp) (fun j hj => by cases hj))
                | (refine step_append_own (by rfl) (.tmp 115) (.tmp 116) _ (by rfl) w4.heap.size 24 i0 (.float .f64 0) 1 8 Tryd.underlying27 hi hz0 hz1 hz2 rfl (by omega) v5 (0 + t) _ (by rfl) (by first | exact hown5 | exact hown5.alloc _) ⟨w4.heap.size, 0, none⟩ 1 1 [.float .f64 13826050856027422720] (by rfl) (by rfl) (by exact news_kept hgrow5) (by simp [Value.oneCell']) (by unfold maxLen; omega) (by omega) (by have := hB5.size; simp at *; omega) ?_
                   intro v6 w6 hown6 hgrow6
                   have hB6 : Below w4.heap.size w4 w6 := hB5.grown hgrow6 (by have := hB5.size; simp at *; omega) (fun j hj => (hown5.lt j hj).1))
                | (refine step_append_own (by rfl) (.tmp 115) (.tmp 116) _ (by rfl) w4.heap.size 24 i0 (.float .f64 0) 1 8 Tryd.underlying27 hi hz0 hz1 hz2 rfl (by omega) v5 (0 + t) _ (by rfl) (hown5.alloc _) ⟨w5.heap.size, 0, none⟩ 1 1 [.float .f64 13826050856027422720] (by rfl) (by rfl) (World.news_of_block (cs := #[.float .f64 13826050856027422720]) (t := 24) (fr := (0, 0)) (heap_alloc_new w5 _)) (by simp [Value.oneCell']) (by unfold maxLen; omega) (by omega) (by have := hB5.size; simp at *; omega) ?_
                   intro v6 w6 hown6 hgrow6
                   have hB6 : Below w4.heap.size w4 w6 := (hB5.alloc hB5.size _).grown hgrow6 (by have := hB5.size; simp at *; omega) (fun j hj => (hown5.lt j hj).1))
                | (refine step_append_own (by rfl) (.tmp 117) (.tmp 120) _ (by rfl) w4.heap.size 24 i0 (.float .f64 0) 1 8 Tryd.underlying27 hi hz0 hz1 hz2 rfl (by omega) v6 (0 + t + 1) _ (by rfl) hown6 (if cap = t then ⟨g, 0, none⟩ else ⟨g, t, none⟩) (k - t) (cap - t) ((xs.drop t).map (Value.float .f64)) (by show Value.slice _ _ _ = _; by_cases hct : cap = t <;> simp [hct]) LD.out (by exact news_cut CD.out LD.out n3 hgl hB6) (by intro u hu; obtain ⟨y, _, rfl⟩ := List.mem_map.1 hu; rfl) (by unfold maxLen; omega) (by omega) (by have := hB6.size; simp at *; omega) ?_
                   intro v7 w7 hown7 hgrow7
                   have hB7 : Below w4.heap.size w4 w7 := hB6.grown hgrow7 (by have := hB6.size; simp at *; omega) (fun j hj => (hown6.lt j hj).1)))
            all_goals
              generalize (if cap = t then some (⟨g, 0, none⟩ : Addr) else some ⟨g, t, none⟩) = ad
              have HB7 := Lib.hid (HBR.out.trans (hB7.mono HBR.out.size))
              have hnew : w7.ownsRow w4.heap.size 24 1 v7 (k + 1) ((xs.take t ++ 13826050856027422720 :: xs.drop t).map (Value.float .f64)) := by
                rw [show 0 + t + 1 + (k - t) = k + 1 by omega] at hown7
                simpa using hown7
              obtain ⟨a7, cap7, rfl, hf7⟩ := isFl_of_own (k := k + 1) (by have := hxs.out.1; simp; omega) (fun y hy => by
                rcases List.mem_append.1 hy with hy | hy
                · exact hxs.out.2 y (List.mem_of_mem_take hy)
                · rcases List.mem_cons.1 hy with rfl | hy
                  · decide
                  · exact hxs.out.2 y (List.mem_of_mem_drop hy)) (by omega) hnew
              have HF7 := Lib.hid hf7
              have HJ := Lib.hid (HPI.out t (by have := hxs.out.1; omega))
              clear hnew hown7 hown6 hown5 hgrow7 hgrow6 hgrow5 hB7 hB6 hB5 hf7 CT CD LT LD HFL hgl
              go_wp2_with fail
              refine (least_fl cap7 HF7.out).mono ?_
              by_cases htq : (t : Int) ≤ q
              · rw [HJ.out, if_pos htq]
                rintro e w8 ⟨rfl, rfl⟩
                clear HF7
                go_wp2_with fail
                refine (wakes_any _ (HT.below HB7.out)).mono ?_
                rintro e w9 ⟨rfl, hb9⟩
                have HB9 := Lib.hid (HB7.out.trans (hb9.mono HB7.out.size))
                clear hb9
                go_wp2
                go_ret
                exact ⟨rfl, HB9.out⟩
              · rw [HJ.out, if_neg htq]
                rintro e w8 ⟨rfl, rfl⟩
                have htq' : (q : Int) < t := by omega
                clear HF7 htq
                go_wp2_with fail
                refine (wakes_any _ (HT.below HB7.out)).mono ?_
                rintro e w9 ⟨rfl, hb9⟩
                have HB9 := Lib.hid (HB7.out.trans (hb9.mono HB7.out.size))
                clear hb9
                go_wp2
                go_ret
                exact ⟨rfl, HB9.out⟩
end Go.Proofs.YtdnilgpbfabafaaDoor
