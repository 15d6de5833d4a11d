/- Trees: a text that says no tree is refused: the reader's own recursion; over any world. -/
import Derived.Test.YtflfmcikfiaoiaaTreeR
import Derived.RegionDies
set_option linter.unusedVariables false
namespace Go.Proofs.Ytflfmcikfiaoiaa
open Go.RowKit
open Doc

/-- How tree ends, where none is read. -/
def NoEnd (R : Nat) (w : World) (e : Ending) (w' : World) : Prop := e = .panicked [{ v := fT, recovered := false }] ∧ Kept R w w'

set_option maxRecDepth 100000 in
set_option maxHeartbeats 8000000 in
theorem tree_no (R : Nat) (a1 a2 a3 : Option Addr) (c1 c2 c3 : Nat) (g : Gr) (w0 : World) (hg : GramAt w0 (.agg #[.slice a1 g.terms.length c1, .slice a2 g.nons.length c2, .slice a3 g.prods.length c3]) g) (hf : Fits g) (hR : w0.heap.size ≤ R) : ∀ (f : Nat) (s : ByteArray) (n : Nat) (w : World),
    RdAt R w (.slice a1 g.terms.length c1) (.slice a2 g.nons.length c2) (.slice a3 g.prods.length c3) s n → Below w0.heap.size w0 w → Asc s → s.size < f → f ≤ 980000 → n ≤ 400 → rdT g f s.data.toList n = none →
    Calls Try.prog 114 #[.pointer (some ⟨R, 0, none⟩)] w (NoEnd R w) := by
  intro f
  induction f using Nat.strongRecOn with
  | _ f ih =>
  intro s n w h hbw ha hlen hf2 hn hy
  have HTS := Lib.hid fun f s n W y => tree_any R a1 a2 a3 c1 c2 c3 g w0 hg hf hR f s n W y
  obtain ⟨i0, hi0, hz0, hz1, hz2⟩ := info_of infoTr
  obtain ⟨f, rfl⟩ : ∃ f', f = f' + 1 := ⟨f - 1, by omega⟩
  have HIH := Lib.hid ih
  have HG := Lib.hid hg
  have HF := Lib.hid hf
  have HAS := Lib.hid ha
  have hlR := heap_lt h
  have hss : s.size ≤ 980000 := by omega
  obtain ⟨hbA, hsA, qA⟩ := one_alloc w (.cells #[.int .i64 0, .int .i64 0, .slice none 0 0] 71)
  have hkA : Kept R w (w.alloc (.cells #[.int .i64 0, .int .i64 0, .slice none 0 0] 71)) := (Kept.refl hlR).below hbA
  have hrA := h.below hbA
  have HSYM := Lib.hid fun (W : World) (s' : ByteArray) (hs : s'.data.toList <:+ s.data.toList) (hk : Kept R w W) (hr : RdAt R W (.slice a1 g.terms.length c1) (.slice a2 g.nons.length c2) (.slice a3 g.prods.length c3) s' n) => symbol_any R _ _ _ g s' n w0 W hg hf (hbw.trans (hk.b.mono hR)) hR hr (ha.suff hs) (by rw [size_list]; have := hs.length_le; rw [← size_list s] at this; omega) hn
  have HBW := Lib.hid hbw
  have HKA := Lib.hid hkA
  have HRA := Lib.hid hrA
  have HQA := Lib.hid qA
  have HSA := Lib.hid hsA
  clear ih hg hf ha hbw hbA hsA qA hkA hrA h
  by_cases hh : s.data.toList.head? = some 40
  · cases hsy : symR g (s.data.toList.drop 1) n with
    | none =>
      have HTY := Lib.hid (took_yes HRA.out 40 hh)
      have HSY := Lib.hid fun W (hk : Kept R w W) hr => HSYM.out W ⟨(s.data.toList.drop 1).toArray⟩ (List.drop_suffix _ _) hk hr
      have e1 : symR g (⟨(s.data.toList.drop 1).toArray⟩ : ByteArray).data.toList n = none := hsy
      rw [e1] at HSY
      clear hsy hh hy e1 HSYM HIH HTS
      go_enter Try.func114, Try.ntmps114
      go_wp2_with (first
        | (go_at_call 143; refine HTY.out.mono ?_; rintro e w2 ⟨rfl, hr2, hk2⟩)
        | (go_at_call 144; refine (HSY.out _ (HKA.out.trans hk2) hr2).mono ?_; rintro e w3 ⟨hk3, rfl⟩))
      exact ⟨rfl, rfl, (HKA.out.trans hk2).trans hk3⟩
    | some x =>
      have HY0 := Lib.hid ((rd_open g f n hh hsy).symm.trans hy)
      have hso := symR_ok hsy
      have HTY := Lib.hid (took_yes HRA.out 40 hh)
      have HSY := Lib.hid fun W (hk : Kept R w W) hr => HSYM.out W ⟨(s.data.toList.drop 1).toArray⟩ (List.drop_suffix _ _) hk hr
      have e1 : symR g (⟨(s.data.toList.drop 1).toArray⟩ : ByteArray).data.toList n = some x := hsy
      rw [e1] at HSY
      have hxs : x.2.1 <:+ s.data.toList := by rw [hso.2.2.2]; exact (List.dropWhile_suffix _).trans (List.drop_suffix _ _)
      have hxl : x.2.1.length + 1 ≤ s.size := by
        have h1 := (List.dropWhile_suffix notSign (l := s.data.toList.drop 1)).length_le
        rw [← hso.2.2.2, List.length_drop] at h1
        have h2 : 0 < s.data.toList.length := by
          cases hl : s.data.toList with
          | nil => rw [hl] at hh; cases hh
          | cons c l => simp
        rw [size_list]
        omega
      have HXS := Lib.hid hxs
      have hxn : x.2.2 ≤ 400 := by have := hso.1; have := hso.2.1; omega
      obtain ⟨xs, xl, xn⟩ := x
      simp only at HY0 hxl hxn HXS HSY
      clear hsy hso hh hy e1 hxs HSYM
      go_enter Try.func114, Try.ntmps114
      go_upto_region 6 with (first
        | (go_at_call 143; refine HTY.out.mono ?_; rintro e w2 ⟨rfl, hr2, hk2⟩)
        | (go_at_call 144; refine (HSY.out _ (HKA.out.trans hk2) hr2).mono ?_; rintro e w3 ⟨hk3, s3, rfl, hs3, hr3⟩))
      have hk03 := (HKA.out.trans hk2).trans hk3
      obtain ⟨hbS, hsS, qS⟩ := one_alloc w3 (.cells #[.int .i64 xs, .int .i64 0, .slice none 0 0] 71)
      have hRT : R < w.heap.size := hlR
      have hT : w.heap.size + 1 ≤ w3.heap.size := by have h1 := hk2.s; have h2 := hk3.s; have h3 := HSA.out; omega
      have hz3 := (hbS.block w.heap.size (by omega)).trans ((hk3.k w.heap.size (by have h1 := hk2.s; have h3 := HSA.out; omega) (by omega)).trans ((hk2.k w.heap.size (by have h3 := HSA.out; omega) (by omega)).trans HQA.out))
      have HC0 : Hid (Cur R w3.heap.size w.heap.size (.slice a1 g.terms.length c1) (.slice a2 g.nons.length c2) (.slice a3 g.prods.length c3) xs w (w3.alloc (.cells #[.int .i64 xs, .int .i64 0, .slice none 0 0] 71)) s3 xn (.slice none 0 0) (.slice none 0 0) 0 [] []) := Lib.hid
        ⟨hr3.below hbS, qS, hk03.below hbS, hz3, World.ownsRow_nil _ _ _ _, fun _ h => (by cases h), by omega, Nat.le_refl _, by omega⟩
      have HS3 := Lib.hid hs3
      clear hk2 hr2 hk3 hs3 hr3 hk03 hbS hsS qS hz3 HTY HSY
      generalize w3.alloc (.cells #[.int .i64 xs, .int .i64 0, .slice none 0 0] 71) = S at *
      generalize w3.heap.size = T at *
      go_loopw [21] (fun _ wr => ∃ (f2 : Nat) (s2 : ByteArray) (n2 : Nat) (ka : Option Addr) (kc : Nat) (ks : List Tl), Hid (Cur R T w.heap.size (.slice a1 g.terms.length c1) (.slice a2 g.nons.length c2) (.slice a3 g.prods.length c3) xs w wr s2 n2 (.slice ka ks.length kc) (.slice ka ks.length kc) ks.length (tls ks) ks) ∧ s2.size < f2 ∧ f2 ≤ f ∧ ks.length + s2.size ≤ 980000 ∧ Hid (Asc s2) ∧ n2 ≤ 400 ∧ Hid (aftF g xs f2 (ks.map Tl.plain) s2.data.toList n2 = none)) (fun _ wr => restZ R wr)
      case atStart =>
        exact ⟨f, s3, xn, none, 0, [], HC0, by rw [size_list, HS3.out]; omega, Nat.le_refl _, by rw [size_list, HS3.out]; simp only [List.length_nil]; omega, Lib.hid (HAS.out.suff (by rw [HS3.out]; exact HXS.out)), hxn, Lib.hid (by rw [HS3.out]; exact HY0.out)⟩
      case round =>
        clear HC0 HS3 HY0
        obtain ⟨f2, s2, n2, ka, kc, ks, HC, h1, h2, h3, HA2, h4, HY⟩ := hrel
        obtain ⟨f3, rfl⟩ : ∃ f', f2 = f' + 1 := ⟨f2 - 1, by omega⟩
        by_cases hsp : s2.data.toList.head? = some 32
        · cases ht : rdT g f3 (s2.data.toList.drop 1) n2 with
          | none =>
            have HTK := Lib.hid (took_yes HC.out.rd 32 hsp)
            have hlen2 : (s2.data.toList.drop 1).length + 1 ≤ s2.size := by
              have h2 : 0 < s2.data.toList.length := by
                cases hl : s2.data.toList with
                | nil => rw [hl] at hsp; cases hsp
                | cons c l => simp
              rw [List.length_drop, size_list]
              omega
            have hCALL : ∀ (W : World) (kv rv : Value) (cnt : Nat) (vs : List Value) (kk : List Tl), Cur R T w.heap.size (.slice a1 g.terms.length c1) (.slice a2 g.nons.length c2) (.slice a3 g.prods.length c3) xs w W ⟨(s2.data.toList.drop 1).toArray⟩ n2 kv rv cnt vs kk →
                Calls Try.prog 114 #[.pointer (some ⟨R, 0, none⟩)] W fun e w' => e = .panicked [{ v := fT, recovered := false }] ∧ Hid (Kept R w w') := fun W kv rv cnt vs kk hc =>
              (HIH.out f3 (by omega) ⟨(s2.data.toList.drop 1).toArray⟩ n2 W hc.rd (HBW.out.trans (hc.k.b.mono hR)) (HA2.out.suff (List.drop_suffix _ _)) (by show (s2.data.toList.drop 1).length < f3; omega) (by omega) h4 ht).mono fun e w' ⟨he, hk⟩ => ⟨he, Lib.hid (hc.k.trans hk)⟩
            have HCALL := Lib.hid hCALL
            clear hCALL ht hsp HY HIH HTS
            go_upto_region 7 with (go_at_call 143; refine HTK.out.mono ?_; rintro e w4 ⟨rfl, hr4, hk4⟩)
            have HL := Lib.hid (HC.out.read hk4 hr4)
            clear hr4 hk4 HTK HC
            obtain ⟨cT, zT⟩ := blk_cell (i := 2) HL.out.t rfl
            have lT := heap_lt HL.out.t
            go_region_dies
            all_goals
              go_at_call 114
              first
                | ((with_reducible refine (HCALL.out _ _ _ _ _ _ HL.out.drew).mono ?_); rintro e w5 ⟨rfl, HK5⟩; exact ⟨rfl, rfl, HK5.out⟩)
                | ((with_reducible refine (HCALL.out _ _ _ _ _ _ (HL.out.alloc (.cells #[.int .i64 0, .int .i64 0, .slice none 0 0] 71)).drew).mono ?_); rintro e w5 ⟨rfl, HK5⟩; exact ⟨rfl, rfl, HK5.out⟩)
          | some z =>
            have HY3 := Lib.hid ((aft_more g xs f3 (ks.map Tl.plain) n2 hsp ht).symm.trans HY.out)
            have HTK := Lib.hid (took_yes HC.out.rd 32 hsp)
            have hlen2 : (s2.data.toList.drop 1).length + 1 ≤ s2.size := by
              have h2 : 0 < s2.data.toList.length := by
                cases hl : s2.data.toList with
                | nil => rw [hl] at hsp; cases hsp
                | cons c l => simp
              rw [List.length_drop, size_list]
              omega
            have hzn := (rd_num g f3 _ n2 h4).1 _ ht
            have HZN := Lib.hid hzn
            have hCALL : ∀ (W : World) (kv rv : Value) (cnt : Nat) (vs : List Value) (kk : List Tl), Cur R T w.heap.size (.slice a1 g.terms.length c1) (.slice a2 g.nons.length c2) (.slice a3 g.prods.length c3) xs w W ⟨(s2.data.toList.drop 1).toArray⟩ n2 kv rv cnt vs kk →
                Calls Try.prog 114 #[.pointer (some ⟨R, 0, none⟩)] W fun e w' => ∃ (t : Tl) (s' : ByteArray), Hid (t.plain = z.1) ∧ e = .returned (.agg #[.int .i64 t.sym, .int .i64 t.prod, .slice t.a t.kids.length t.c]) ∧ Hid (s'.data.toList = z.2.1) ∧ Hid (Kept R W w') ∧ Hid (Cur R T w.heap.size (.slice a1 g.terms.length c1) (.slice a2 g.nons.length c2) (.slice a3 g.prods.length c3) xs w w' s' z.2.2 kv rv cnt vs (kk ++ [t])) := fun W kv rv cnt vs kk hc =>
              (HTS.out f3 ⟨(s2.data.toList.drop 1).toArray⟩ n2 W z hc.rd (HBW.out.trans (hc.k.b.mono hR)) (HA2.out.suff (List.drop_suffix _ _)) (by show (s2.data.toList.drop 1).length < f3; omega) (by omega) h4 ht).mono fun e w' ⟨hk, t, s', hp, he, hli, hs', hr'⟩ => ⟨t, s', Lib.hid hp, he, Lib.hid hs', Lib.hid hk, Lib.hid (hc.call hk hr' hli)⟩
            have HCALL := Lib.hid hCALL
            have HA3 := HA2
            have hkl : ks.length ≤ 980000 := by omega
            clear hzn hCALL ht hsp HY HIH HTS
            go_upto_region 7 with (go_at_call 143; refine HTK.out.mono ?_; rintro e w4 ⟨rfl, hr4, hk4⟩)
            have HL := Lib.hid (HC.out.read hk4 hr4)
            have hzr : restZ R wr = s2.size := restZ_at HC.out.rd
            clear hr4 hk4 HTK HC
            obtain ⟨cT, zT⟩ := blk_cell (i := 2) HL.out.t rfl
            have lT := heap_lt HL.out.t
            have hTR : ¬ T = R := by have h1 := HL.out.hT; have h2 := HL.out.k.lt; omega
            have hlenA : (s2.data.toList.drop 1).length + 1 ≤ s2.size ∧ s2.size < f3 + 1 ∧ ks.length + s2.size ≤ 980000 ∧ f3 + 1 ≤ f := ⟨hlen2, h1, h3, h2⟩
            have hmeas : (s2.data.toList.drop 1).length < restZ R wr := by rw [hzr]; omega
            clear h2 h3 hlen2 h1 hzr
            have hidx : (ks.length : Int) < (ks.length : Int) + 1 := by omega
            go_region_law (first
              | (go_simp; go_at_call 114; with_reducible refine (HCALL.out _ _ _ _ _ _ HL.out.drew).mono ?_
                 rintro e w5 ⟨tk, s5, hpl, rfl, hs5, HK5, HC5⟩
                 obtain ⟨cT5, zT5⟩ := blk_cell (i := 2) HC5.out.t rfl
                 have lT5 := heap_lt HC5.out.t)
              | (go_simp; go_at_call 114; with_reducible refine (HCALL.out _ _ _ _ _ _ (HL.out.alloc (.cells #[.int .i64 0, .int .i64 0, .slice none 0 0] 71)).drew).mono ?_
                 rintro e w5 ⟨tk, s5, hpl, rfl, hs5, HK5, HC5⟩
                 have HZ5 := Lib.hid ((HK5.out.k w4.heap.size (by simp) (by have h2 := HL.out.k.lt; have h3 := HL.out.k.s; omega)).trans (heap_alloc_new w4 (.cells #[.int .i64 0, .int .i64 0, .slice none 0 0] 71)))
                 obtain ⟨cT5, zT5⟩ := blk_cell (i := 2) HC5.out.t rfl
                 have lT5 := heap_lt HC5.out.t)
              | (refine step_append_lies _ (by rfl) _ _ _ (by rfl) (T + 1) 71 i0 _ 3 40 Try.underlying69 hi0 hz0 hz1 hz2 rfl (by omega) _ ks.length (tls ks) (by rfl) ((HC5.out.alloc (.cells #[.int .i64 0, .int .i64 0, .slice none 0 0] 71)).own) ⟨w5.heap.size, 0, none⟩ 1 1 [.int .i64 0, .int .i64 0, .slice none 0 0] (by rfl) (by rfl) (World.news_of_block (cs := #[.int .i64 0, .int .i64 0, .slice none 0 0]) (t := 71) (fr := (0, 0)) (heap_alloc_new w5 (.cells #[.int .i64 0, .int .i64 0, .slice none 0 0] 71))) (by simp [Value.oneCell']) (by omega) (by unfold maxLen; omega) (by omega) (by have := heap_lt HC5.out.t; simp <;> omega) _ rfl ?_
                 intro g6 cap6 w6 hown6 hgrow6 hat6 hlt6
                 have HC6 := Lib.hid ((HC5.out.alloc (.cells #[.int .i64 0, .int .i64 0, .slice none 0 0] 71)).grow hown6 hgrow6 hat6)
                 obtain ⟨cT6, zT6⟩ := blk_cell (i := 2) HC6.out.t rfl
                 have lT6 := heap_lt HC6.out.t
                 obtain ⟨x0, y0⟩ := HC6.out.cell (ks.length * 3) (by omega) (tls_new ks ks.length rfl _ _ _).1
                 obtain ⟨x1, y1⟩ := HC6.out.cell (ks.length * 3 + 1) (by omega) (tls_new ks ks.length rfl _ _ _).2.1
                 obtain ⟨x2, y2⟩ := HC6.out.cell (ks.length * 3 + 2) (by omega) (tls_new ks ks.length rfl _ _ _).2.2
                 have hgT := (own_block HC6.out.own (g := g6) (by simp [Value.ownBlock])).1)
              | (refine step_append_lies _ (by rfl) _ _ _ (by rfl) (T + 1) 71 i0 _ 3 40 Try.underlying69 hi0 hz0 hz1 hz2 rfl (by omega) _ ks.length (tls ks) (by rfl) (HC5.out.own) ⟨w4.heap.size, 0, none⟩ 1 1 [.int .i64 0, .int .i64 0, .slice none 0 0] (by rfl) (by rfl) (World.news_of_block (cs := #[.int .i64 0, .int .i64 0, .slice none 0 0]) (t := 71) (fr := (0, 0)) HZ5.out) (by simp [Value.oneCell']) (by omega) (by unfold maxLen; omega) (by omega) (by have := heap_lt HC5.out.t; simp <;> omega) _ rfl ?_
                 intro g6 cap6 w6 hown6 hgrow6 hat6 hlt6
                 have HC6 := Lib.hid (HC5.out.grow hown6 hgrow6 hat6)
                 obtain ⟨cT6, zT6⟩ := blk_cell (i := 2) HC6.out.t rfl
                 have lT6 := heap_lt HC6.out.t
                 obtain ⟨x0, y0⟩ := HC6.out.cell (ks.length * 3) (by omega) (tls_new ks ks.length rfl _ _ _).1
                 obtain ⟨x1, y1⟩ := HC6.out.cell (ks.length * 3 + 1) (by omega) (tls_new ks ks.length rfl _ _ _).2.1
                 obtain ⟨x2, y2⟩ := HC6.out.cell (ks.length * 3 + 2) (by omega) (tls_new ks ks.length rfl _ _ _).2.2
                 have hgT := (own_block HC6.out.own (g := g6) (by simp [Value.ownBlock])).1))
            all_goals
              clear HL HC5 HK5 cT zT lT cT5 zT5 lT5 x0 y0 x1 y1 x2 y2 cT6 zT6 lT6 hgT hown6 hgrow6 hat6 hlt6 hidx
              have hzs : s5.size ≤ (s2.data.toList.drop 1).length := by rw [size_list, hs5.out]; exact HZN.out.2.length_le
              have HAZ : Hid (Asc s5) := Lib.hid (HA3.out.suff (by rw [hs5.out]; exact HZN.out.2.trans (List.drop_suffix _ _)))
              have HLN := Lib.hid hlenA
              have HMS := Lib.hid hmeas
              clear hlenA hmeas
              go_wp2
              go_roundw
              case rel =>
                refine ⟨f3, s5, z.2.2, some ⟨g6, 0, none⟩, cap6, ks ++ [tk], Lib.hid (Cur.done (t := tk) (a := .int .i64 0) (b := .int .i64 0) (c := .slice none 0 0) (by with_reducible first | exact (((HC6.out.store _ _).store _ _).store _ _).setT _ | exact (((HC6.out.setT _).store _ _).store _ _).store _ _)), ?_, by have := HLN.out; omega, ?_, HAZ, HZN.out.1, Lib.hid (by rw [List.map_append, hs5.out]; have h9 := HY3.out; rw [← hpl.out] at h9; exact h9)⟩
                · have := HLN.out; omega
                · have := HLN.out; rw [List.length_append]; simp only [List.length_cons, List.length_nil]; omega
              case measure =>
                refine Cur.less (by with_reducible first | exact (((HC6.out.store _ _).store _ _).store _ _).setT _ | exact (((HC6.out.setT _).store _ _).store _ _).store _ _) hzs HMS.out
        · have HEND := Lib.hid ((aft_end g xs f3 (ks.map Tl.plain) n2 hsp).symm.trans HY.out)
          have HTK := Lib.hid (took_no HC.out.rd 32 hsp)
          clear hsp HY HIH HTS
          have HMN := Lib.hid fun W => must_no R W
          by_cases hcl : s2.data.toList.head? = some 41
          · cases hd : derOf g xs (ks.map Tl.plain) with
            | some p =>
              have := HEND.out
              rw [if_pos hcl, hd] at this
              cases this
            | none =>
              have HIXP := Lib.hid (idxP_none (show g.prods.findIdx? (derP xs (ks.map Tl.plain)) = none from hd))
              clear hd HEND h1 h2
              go_upto_region 8 with (go_at_call 143; refine HTK.out.mono ?_; rintro e w4 ⟨rfl, hr4, hk4⟩)
              have HL := Lib.hid (HC.out.read hk4 hr4)
              have HTC := Lib.hid (took_yes hr4 41 hcl)
              have HMO := Lib.hid fun W => must_ok R W
              clear hr4 hk4 hcl HTK HC
              go_upto_region 9 with (first
                | (go_at_call 143; refine HTC.out.mono ?_; rintro e w5 ⟨rfl, hr5, hk5⟩)
                | (go_at_call 115; refine (HMO.out _).mono ?_; rintro e w6 ⟨rfl, hw⟩; rw [← hw]; clear hw))
              have HL5 := Lib.hid (HL.out.read hk5 hr5)
              clear hr5 hk5 HTC HL
              obtain ⟨ls, hp, k3, k4⟩ := gram_open HG.out
              have hpl : ls.length = g.prods.length := by rw [← hp, List.length_map]
              have hb5 := HBW.out.trans (HL5.out.k.b.mono hR)
              have hll : ls.length ≤ 1000000 := by have := HF.out.2.2.1; omega
              have hlies : Lies (fun b => T < b) w5 (Tl.mk xs 0 ka kc ks) := Lies.mk (own_cells HL5.out.own).1 (own_cells HL5.out.own).2 (fun hne x hx => by subst hx; have := (own_block HL5.out.own (g := x.block) (by simp [Value.ownBlock])).1; omega) (fun t ht => (HL5.out.kids t ht).weak fun b hb _ => hb.1)
              have HIF := Lib.hid (indexTree_any ls a3 c3 (fun b => T < b) T xs 0 ka kc ks w5 (k3.below hb5) hll HL5.out.t (fun q hq => ⟨(k4 q hq).below hb5, by have := HF.out.2.2.2 q.plain (by rw [← hp]; exact List.mem_map_of_mem hq); exact this⟩) hlies (by omega))
              rw [hp, HIXP.out, hpl] at HIF
              have d2 := (blk_cell (i := 2) HL5.out.rd rfl).1
              have lR := heap_lt HL5.out.rd
              have hp1 : decide ((-1 : Int) ≥ 0) = false := by decide
              clear hp hpl k3 k4 hb5 hll hlies HIXP
              go_upto_region 10 with (go_at_call 145; refine HIF.out.mono ?_; rintro e w6 ⟨rfl, hb6⟩; have q6 := (hb6.block _ (heap_lt HL5.out.t)).trans HL5.out.t; obtain ⟨t0, y0⟩ := blk_cell (i := 0) q6 rfl; obtain ⟨t1, y1⟩ := blk_cell (i := 1) q6 rfl; obtain ⟨t2, y2⟩ := blk_cell (i := 2) q6 rfl; have lT6 := heap_lt q6; have HL6 := Lib.hid (HL5.out.below hb6); clear q6 hb6)
              have hTT := HL6.out.hT
              go_wp2_with (go_at_call 115; refine (HMN.out _).mono ?_; rintro e w7 ⟨rfl, hw⟩; rw [← hw]; clear hw)
              exact ⟨rfl, rfl, HL6.out.k.set T 1 (.inr hTT) _⟩
          · have HTC := Lib.hid fun W (hr : RdAt R W (.slice a1 g.terms.length c1) (.slice a2 g.nons.length c2) (.slice a3 g.prods.length c3) s2 n2) => took_no hr 41 hcl
            clear HEND h1 h2 hcl
            go_upto_region 8 with (go_at_call 143; refine HTK.out.mono ?_; rintro e w4 ⟨rfl, hr4, hk4⟩)
            have HL := Lib.hid (HC.out.read hk4 hr4)
            clear hk4 HTK HC
            go_wp2_with (first
                | (go_at_call 143; refine (HTC.out _ hr4).mono ?_; rintro e w5 ⟨rfl, hr5, hk5⟩)
                | (go_at_call 115; refine (HMN.out _).mono ?_; rintro e w6 ⟨rfl, hw⟩; rw [← hw]; clear hw))
            exact ⟨rfl, rfl, (HL.out.read hk5 hr5).k⟩
  · have hlf := (rd_leaf g f n hh).symm.trans hy
    have HTY := Lib.hid (took_no HRA.out 40 hh)
    have HSY := Lib.hid fun W (hk : Kept R w W) hr => HSYM.out W s (List.suffix_refl _) hk hr
    cases hsy : symR g s.data.toList n with
    | none =>
      rw [hsy] at HSY
      clear hsy hlf hh hy HSYM HIH HTS
      go_enter Try.func114, Try.ntmps114
      go_wp2_with (first
        | (go_at_call 143; refine HTY.out.mono ?_; rintro e w2 ⟨rfl, hr2, hk2⟩)
        | (go_at_call 144; refine (HSY.out _ (HKA.out.trans hk2) hr2).mono ?_; rintro e w3 ⟨hk3, rfl⟩))
      exact ⟨rfl, rfl, (HKA.out.trans hk2).trans hk3⟩
    | some x =>
      rw [hsy] at hlf HSY
      simp only at hlf
      by_cases hx0 : x.1 = 0
      · obtain ⟨xs, xl, xn⟩ := x
        simp only at hx0 HSY
        subst hx0
        have HMN := Lib.hid fun W => must_no R W
        clear hsy hlf hh hy HSYM HIH HTS
        go_enter Try.func114, Try.ntmps114
        go_upto_region 3 with (first
          | (go_at_call 143; refine HTY.out.mono ?_; rintro e w2 ⟨rfl, hr2, hk2⟩)
          | (go_at_call 144; refine (HSY.out _ (HKA.out.trans hk2) hr2).mono ?_; rintro e w3 ⟨hk3, s3, rfl, hs3, hr3⟩))
        have hk03 := (HKA.out.trans hk2).trans hk3
        obtain ⟨hbS, hsS, qS⟩ := one_alloc w3 (.cells #[.int .i64 0, .int .i64 (-1), .slice none 0 0] 71)
        have HK3 := Lib.hid (hk03.below hbS)
        obtain ⟨t0, y0⟩ := blk_cell (i := 0) qS rfl
        have lT := heap_lt qS
        clear hk2 hr2 hk3 hs3 hr3 hk03 hbS hsS qS HTY HSY
        generalize w3.alloc (.cells #[.int .i64 0, .int .i64 (-1), .slice none 0 0] 71) = S at *
        generalize w3.heap.size = T at *
        go_wp2_with (go_at_call 115; refine (HMN.out _).mono ?_; rintro e w7 ⟨rfl, hw⟩; rw [← hw]; clear hw)
        exact ⟨rfl, rfl, HK3.out⟩
      · rw [if_neg hx0] at hlf
        cases hlf

end Go.Proofs.Ytflfmcikfiaoiaa
