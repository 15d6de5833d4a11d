/- ItemParts, walked. -/
import Derived.Test.YtbliobeibfecaaaDoorItU
import Derived.Test.YtbliobeibfecaaaDoorPlayH
import Derived.Test.YtbliobeibfecaaaDoorRowC
set_option linter.unusedVariables false
namespace Go.Proofs.YtbliobeibfecaaaDoor
open Go.RowKit
open Doc

theorem its_one {l : List It} : ∀ u ∈ itsV l, u.oneCell' = true := fun u hu => by
  unfold itsV at hu
  obtain ⟨x, _, hx⟩ := List.mem_flatMap.1 hu
  simp only [itC, List.mem_cons, List.not_mem_nil, or_false] at hx
  rcases hx with rfl | rfl | rfl <;> rfl
theorem news_its {W : World} {a : Option Addr} {l : List It} (h : ItsAt W a l) (hl : l ≠ []) : ∃ g o, a = some ⟨g, o, none⟩ ∧ ∀ j u, (itsV l)[j]? = some u → W.cell? ((⟨g, o, none⟩ : Addr).add j) = some u := by
  obtain ⟨g, o, rfl, _, hc⟩ := Cells.get h (by intro e; have := its_len l; rw [e] at this; cases l with | nil => exact hl rfl | cons x l => simp at this)
  refine ⟨g, o, rfl, fun j u hu => ?_⟩
  have e : (⟨g, o, none⟩ : Addr).add j = ⟨g, o + j, none⟩ := by unfold Addr.add; split <;> simp_all
  rw [e]; exact hc j u hu
theorem wpList_appI {w : World} {ops : Array Oper} {rest : List Oper} {o : Oper} {a : Act} {Q : Exit → Act → World → Prop} (hgd : o.guard = none) (s x : Operand)
    (ho : o.op = .call { callee := .builtin .append, args := #[s, x], argTypes := #[49, 49] })
    (base : Nat) (va : Option Addr) (vc : Nat) (ks : List It) (hs : a.eval s = .slice va ks.length vc) (hown : OwnI w base va vc ks) (hb : base ≤ w.heap.size)
    (xa : Option Addr) (l : List It) (xc : Nat) (hx : a.eval x = .slice xa l.length xc) (hc : ItsAt w xa l) (hn : ks.length + l.length ≤ 1000000000)
    (h : ∀ va' vc' w', OwnI w' base va' vc' (ks ++ l) → w.grownBy w' (Value.slice va ks.length vc).ownBlock → wpList Tryd.prog ops Q rest (a.put o.dst (.slice va' (ks ++ l).length vc')) w') : wpList Tryd.prog ops Q (o :: rest) a w := by
  obtain ⟨i0, hi0, hz0, hz1, hz2⟩ := info_of infoIt
  by_cases hl : l = []
  · subst hl
    have hnc := hown.cap
    refine wpList_nothing hgd s x 49 ho 48 i0 Tryd.underlying49 hi0 va ks.length vc hs hnc xa xc hx ?_
    have := h va vc w (by rw [List.append_nil]; exact hown) ⟨rfl, rfl, rfl, Nat.le_refl _, fun _ _ _ => rfl⟩
    simpa using this
  · obtain ⟨g, off, rfl, hn5⟩ := news_its hc hl
    have hm1 : 0 < l.length := List.length_pos_iff.2 hl
    refine wpList_append_lies _ hgd s x 49 ho base 48 i0 (.agg #[.int .i64 0, .int .i64 0, .int .i64 0]) 3 24 Tryd.underlying49 hi0 hz0 hz1 hz2 rfl (by decide) _ ks.length (itsV ks) hs hown.own ⟨g, off, none⟩ l.length xc (itsV l) hx (its_len l) hn5 (fun u hu => its_one u hu) hm1 (by unfold maxLen; omega) (by omega) hb _ rfl ?_
    intro g4 cap4 w4 hown4 hgrow4 _ _
    have := h (some ⟨g4, 0, none⟩) cap4 w4 ⟨by rw [its_app, List.length_append]; exact hown4⟩ hgrow4
    rwa [List.length_append] at this
theorem its_take {W : World} {a : Option Addr} {l : List It} (h : ItsAt W a l) (k : Nat) : ItsAt W a (l.take k) := by
  rcases h with h0 | ⟨b, o, he, hb, hc⟩
  · left
    have : l = [] := by have := its_len l; rw [h0] at this; cases l with | nil => rfl | cons x l => simp at this
    rw [this, List.take_nil]; rfl
  · refine .inr ⟨b, o, he, hb, fun j u hj => hc j u ?_⟩
    have e : itsV l = itsV (l.take k) ++ itsV (l.drop k) := by rw [← its_app, List.take_append_drop]
    rw [e, List.getElem?_append_left (List.getElem?_eq_some_iff.1 hj).1]
    exact hj
theorem its_drop {W : World} {b o : Nat} {l : List It} (h : ItsAt W (some ⟨b, o, none⟩) l) {k : Nat} (hk : k ≤ l.length) : ItsAt W (some ⟨b, o + k * 3, none⟩) (l.drop k) := by
  rcases h with h0 | ⟨b', o', he, hb, hc⟩
  · left
    have : l = [] := by have := its_len l; rw [h0] at this; cases l with | nil => rfl | cons x l => simp at this
    rw [this, List.drop_nil]; rfl
  · cases he
    refine .inr ⟨b, o + k * 3, rfl, hb, fun j u hj => ?_⟩
    rw [Nat.add_assoc]
    refine hc (k * 3 + j) u ?_
    have e : itsV l = itsV (l.take k) ++ itsV (l.drop k) := by rw [← its_app, List.take_append_drop]
    rw [e, List.getElem?_append_right (by rw [its_len, List.length_take]; omega), its_len, List.length_take, Nat.min_eq_left hk, Nat.add_sub_cancel_left]
    exact hj
set_option maxRecDepth 100000 in
set_option maxHeartbeats 16000000 in
theorem itemParts_walk (x : RawX) (la : Option Addr) (lc : Nat) (l : List Int) (cut sym : Int) (w : World) (hx : RawAt w x) (hl : Cells w la (nums l)) (HT : Sl.Tab w) :
    Calls Tryd.prog 6 #[x.v, .slice la l.length lc, .int .i64 cut, .int .i64 sym] w fun e w' => e = .returned (.bool true) ∧ Below w.heap.size w w' := by
  have hck : CheckG x.any := anyF_check x.terms x.nons x.plain
  have hAN := Lib.hid (fun W h => any_gram x W h)
  have HCK := Lib.hid hck
  generalize hgg : x.any = g at *
  have HX := Lib.hid hx
  have HTT := Lib.hid HT
  have HL := Lib.hid hl
  clear hx hck hgg HT hl
  obtain ⟨xp, xt, xn, xh, rows, xa, xc, word⟩ := x
  unfold RawX.v at *
  simp only at *
  have hb0 : Below w.heap.size w (w.alloc (.cells #[.int .i64 xp, .int .i64 xt, .int .i64 xn, .int .i64 xh, .slice xa rows.length xc, .string word] 24)) := (Below.refl _ _).alloc (Nat.le_refl _) _
  have HA1 := Lib.hid (hAN.out _ (HX.out.below hb0))
  have HB0 := Lib.hid hb0
  clear hAN hb0
  go_enter Tryd.func6, Tryd.ntmps6
  go_upto_region 2 with (go_at_call 21; refine HA1.out.mono ?_; rintro e w1 ⟨hb1, at_, an, ap, ct, cn, cp, ls, rfl, hg1, hls, hc1, hr1⟩)
  have hll : ls.length = g.prods.length := by rw [← hls, List.length_map]
  rw [hll] at hg1 ⊢
  have hbA := (HB0.out.trans (hb1.mono HB0.out.size)).alloc (Nat.le_trans HB0.out.size hb1.size) (.cells #[.slice at_ g.terms.length ct, .slice an g.nons.length cn, .slice ap g.prods.length cp] 29)
  have hbS : Below w1.heap.size w1 (w1.alloc (.cells #[.slice at_ g.terms.length ct, .slice an g.nons.length cn, .slice ap g.prods.length cp] 29)) := (Below.refl _ _).alloc (Nat.le_refl _) _
  have q0 := heap_alloc_new w1 (.cells #[.slice at_ g.terms.length ct, .slice an g.nons.length cn, .slice ap g.prods.length cp] 29)
  have HG := Lib.hid (hg1.below hbS)
  have HBA := Lib.hid hbA
  have HQ0 := Lib.hid q0
  clear hb1 hg1 hls hc1 hr1 hbA hbS q0 HA1 HX HB0 hll
  generalize w1.alloc (.cells #[.slice at_ g.terms.length ct, .slice an g.nons.length cn, .slice ap g.prods.length cp] 29) = S at *
  generalize w1.heap.size = B1 at *
  have hl1 : B1 < S.heap.size := heap_lt HQ0.out
  have HCX := Lib.hid fun (W : World) (hW : Below S.heap.size S W) => (⟨(blk_cell (i := 0) ((hW.block B1 hl1).trans HQ0.out) rfl).1, (blk_cell (i := 1) ((hW.block B1 hl1).trans HQ0.out) rfl).1, (blk_cell (i := 2) ((hW.block B1 hl1).trans HQ0.out) rfl).1, heap_lt ((hW.block B1 hl1).trans HQ0.out)⟩ : W.cell? ⟨B1, 0, none⟩ = some (.slice at_ g.terms.length ct) ∧ W.cell? ⟨B1, 1, none⟩ = some (.slice an g.nons.length cn) ∧ W.cell? ⟨B1, 2, none⟩ = some (.slice ap g.prods.length cp) ∧ B1 < W.heap.size)
  have HN := Lib.hid (inew_any _ g S HG.out HCK.out)
  unfold NewTo at HN
  have HWK := Lib.hid fun (W : World) (hW : Below S.heap.size S W) => wakes11_any W (HTT.out.below (HBA.out.trans (hW.mono HBA.out.size)))
  obtain ⟨x0, x1, x2, x3⟩ := HCX.out S (Below.refl _ _)
  by_cases hfr : Fru g 100
  · have HN1 := Lib.hid (HN.out.mono fun e w' ⟨hb, he⟩ => (by
      rcases he with ⟨_, h⟩ | ⟨h, _⟩
      · exact ⟨hb, h⟩
      · exact absurd hfr h : Below S.heap.size S w' ∧ ∃ (BM BT bt : Nat) (M : MakR) (F : List Nat), e = Ending.returned (.tuple #[.pointer (some ⟨BM, 0, none⟩), .int .i64 0]) ∧ MakG g M ∧ FirstIs g F ∧ MakT w' BM M BT bt F))
    clear HN hfr
    go_upto_region 5 with (go_at_call 24; refine HN1.out.mono ?_; rintro e w2 ⟨hb2, BM, BT, bt, M, F, rfl, hMG, hF, hm⟩)
    have hK := mkOk_of hm.ok
    have HB2 := Lib.hid hb2
    have HM := Lib.hid hm
    have HT2 := Lib.hid (HTT.out.below (HBA.out.trans (hb2.mono HBA.out.size)))
    have ht8 := HCK.out.t8
    have ht1 := HCK.out.t1
    have hn8 := HCK.out.n8
    have hn1 := HCK.out.n1
    have hp24 := HCK.out.p24
    have HIT := Lib.hid (items_any _ g la lc l w2 (HG.out.below hb2) (by omega) (by omega) ((HL.out.below HBA.out).below hb2))
    obtain ⟨y0, y1, y2, y3⟩ := HCX.out w2 hb2
    clear x0 x1 x2 x3 hb2 hm HN1 hMG hF
    go_upto_region 6 with (go_at_call 32; refine HIT.out.mono ?_; rintro e w3 ⟨its, ia, ic, rfl, hil, hio, hb3⟩)
    have HB3 := Lib.hid hb3
    have HIO := Lib.hid hio
    have HM3 := Lib.hid (HM.out.below hb3)
    have HT3 := Lib.hid (HT2.out.below hb3)
    have hiw : IntKind.i64.wrap ((its.length : Int) + 1) = (its.length : Int) + 1 := IntWalk.i64_in _ (by omega)
    have HWI := Lib.hid fun W => within_any cut ((its.length : Int) + 1) (by omega) (by omega) W
    obtain ⟨k, hk, hkl⟩ : ∃ k : Nat, cut % ((its.length : Int) + 1) = k ∧ k ≤ its.length := ⟨(cut % ((its.length : Int) + 1)).toNat, by have := Int.emod_nonneg cut (show ((its.length : Int) + 1) ≠ 0 by omega); omega, by have := Int.emod_lt_of_pos cut (show (0 : Int) < (its.length : Int) + 1 by omega); omega⟩
    rw [hk] at HWI
    clear hk y0 y1 y2 y3 hb3 hio HIT
    go_upto_region 7 with (go_at_call 10; (with_reducible refine (HWI.out _).mono ?_); rintro e w9 ⟨rfl, hw9⟩; obtain rfl := hw9.symm)
    go_cut [12, 13, 14, 15, 38, 40, 41, 42, 43] from 44 to 53 (fun iv kv av bv t38 t40 t41 t42 t43 wx => iv = .slice ia its.length ic ∧ kv = .int .i64 k ∧ t38 = .slice ia its.length ic ∧ t40 = .slice ia its.length ic ∧ t41 = .int .i64 its.length ∧ t42 = .int .i64 ((its.length : Int) + 1) ∧ t43 = .int .i64 k ∧ ∃ (A B : List It) (aa ba : Option Addr) (ac bc : Nat), av = .slice aa A.length ac ∧ bv = .slice ba B.length bc ∧ Hid (CloseP (mkP M F) (its.take k) A) ∧ Hid (CloseP (mkP M F) (its.drop k) B) ∧ Hid (A.length ≤ 11200 ∧ B.length ≤ 11200) ∧ Hid (ItsAt wx aa A) ∧ Hid (ItsAt wx ba B) ∧ Hid (Below w3.heap.size w3 wx))
    case first =>
      have hkl' : (k : Int) ≤ its.length := by omega
      have hcap := HIO.out.cap
      have hkc : (k : Int) ≤ ic := by omega
      have hlk : (its.take k).length = k := by rw [List.length_take]; omega
      have hld : (its.drop k).length = its.length - k := List.length_drop
      have HCG := Lib.hid fun (a : Option Addr) (c : Nat) (l : List It) (n : Nat) (hn : l.length = n) (W : World) (hW : Below w3.heap.size w3 W) (hl : ItsAt W a l) (h5 : l.length ≤ 4) => (by
        rw [← hn]
        exact iclose_any BM BT bt M F a c l W (HM3.out.below hW) (HT3.out.below hW) hl (by omega) : Calls Tryd.prog 27 #[.pointer (some ⟨BM, 0, none⟩), .slice a n c] W (CloseTo (mkP M F) l W))
      rcases HIO.out.own.2 with ⟨hv, h0⟩ | ⟨g5, cap5, cur, hv, _⟩
      · injection hv with hv1 _ hv2
        subst hv1
        subst hv2
        have hits : its = [] := List.eq_nil_of_length_eq_zero h0
        have hk0 : k = 0 := by omega
        have HTN := Lib.hid (show its.take k = [] ∧ its.drop k = [] by rw [hits]; simp)
        subst hk0
        have HCA := Lib.hid fun (W : World) (hW : Below w3.heap.size w3 W) => HCG.out none 0 [] 0 rfl W hW (.inl rfl) (by simp)
        unfold CloseTo at HCA
        have H0 := Lib.hid h0
        rw [h0] at hkl ⊢
        clear hlk hld HCG hits h0 hkl hkl' hcap hkc hil hiw
        go_region_with (go_at_call 27; first
          | ((with_reducible refine (HCA.out _ (Below.refl w3.heap.size w3).drew).mono ?_); rintro e w4 ⟨A, aa, ac, rfl, hA1, hA2, hA3, hA4⟩; have hA5 : Below w3.heap.size w3 w4 := (Below.refl w3.heap.size w3).drew.trans hA4)
          | ((with_reducible refine (HCA.out _ hA5).mono ?_); rintro e w5 ⟨B, ba, bc, rfl, hB1, hB2, hB3, hB4⟩))
        all_goals
          go_wp2
          go_meet
          case rel => exact ⟨by rw [H0.out], rfl, by rw [H0.out], by rw [H0.out], by rw [H0.out]; rfl, by rw [H0.out]; rfl, rfl, A, B, aa, ba, ac, bc, rfl, rfl, Lib.hid (by rw [HTN.out.1]; exact hA1), Lib.hid (by rw [HTN.out.2]; exact hB1), Lib.hid ⟨hA2, hB2⟩, Lib.hid (hA3.its.below hB4), Lib.hid hB3.its, Lib.hid (hA5.trans (hB4.mono hA5.size))⟩
      · injection hv with hv1 _ hv2
        subst hv1
        subst hv2
        have HCA := Lib.hid fun (W : World) (hW : Below w3.heap.size w3 W) => HCG.out (some ⟨g5, 0, none⟩) ic (its.take k) k hlk W hW (its_take (HIO.out.its.below hW) k) (by rw [hlk]; omega)
        by_cases hkic : ic = k
        · have hlen : its.length = k := by omega
          have hdn : its.drop k = [] := List.drop_of_length_le (by omega)
          have HDN := Lib.hid hdn
          rw [hdn] at hld
          have HCB := Lib.hid fun (W : World) (hW : Below w3.heap.size w3 W) => HCG.out (some ⟨g5, 0, none⟩) 0 [] 0 rfl W hW (.inl rfl) (by simp)
          unfold CloseTo at HCA HCB
          clear hlk hld HCG hdn
          have HLN := Lib.hid hlen
          have HIC0 := Lib.hid hkic
          rw [hkic] at HCA ⊢
          rw [hlen]
          clear hkic hlen hkl hkl' hcap hkc hil
          go_region_with (go_at_call 27; first
            | ((with_reducible refine (HCA.out _ (Below.refl w3.heap.size w3).drew).mono ?_); rintro e w4 ⟨A, aa, ac, rfl, hA1, hA2, hA3, hA4⟩; have hA5 : Below w3.heap.size w3 w4 := (Below.refl w3.heap.size w3).drew.trans hA4)
            | ((with_reducible refine (HCB.out _ hA5).mono ?_); rintro e w5 ⟨B, ba, bc, rfl, hB1, hB2, hB3, hB4⟩))
          all_goals
            go_wp2
            go_meet
            case rel => exact ⟨by rw [HLN.out, HIC0.out], rfl, by rw [HLN.out, HIC0.out], by rw [HLN.out, HIC0.out], by rw [HLN.out], by rw [HLN.out], rfl, A, B, aa, ba, ac, bc, rfl, rfl, Lib.hid hA1, Lib.hid (by rw [HDN.out]; exact hB1), Lib.hid ⟨hA2, hB2⟩, Lib.hid (hA3.its.below hB4), Lib.hid hB3.its, Lib.hid (hA5.trans (hB4.mono hA5.size))⟩
        · have HCB := Lib.hid fun (W : World) (hW : Below w3.heap.size w3 W) => HCG.out (some ⟨g5, k * 3, none⟩) (ic - k) (its.drop k) (its.length - k) hld W hW (by have := its_drop (HIO.out.its.below hW) hkl; rwa [Nat.zero_add] at this) (by rw [hld]; omega)
          unfold CloseTo at HCA HCB
          clear hlk hld HCG
          have hkic' : ¬ (ic : Int) = k := by omega
          have hkc2 : k ≤ ic := by omega
          go_region_with (go_at_call 27; first
            | ((with_reducible refine (HCA.out _ (Below.refl w3.heap.size w3).drew).mono ?_); rintro e w4 ⟨A, aa, ac, rfl, hA1, hA2, hA3, hA4⟩; have hA5 : Below w3.heap.size w3 w4 := (Below.refl w3.heap.size w3).drew.trans hA4)
            | ((with_reducible refine (HCB.out _ hA5).mono ?_); rintro e w5 ⟨B, ba, bc, rfl, hB1, hB2, hB3, hB4⟩))
          all_goals
            go_wp2
            go_meet
            case rel => exact ⟨rfl, rfl, rfl, rfl, rfl, rfl, rfl, A, B, aa, ba, ac, bc, rfl, rfl, Lib.hid hA1, Lib.hid hB1, Lib.hid ⟨hA2, hB2⟩, Lib.hid (hA3.its.below hB4), Lib.hid hB3.its, Lib.hid (hA5.trans (hB4.mono hA5.size))⟩
    case rest =>
    obtain ⟨rfl, rfl, rfl, rfl, rfl, rfl, rfl, A, B, aa, ba, ac, bc, rfl, rfl, HA, HB, HAB, HIA, HIB, HB4⟩ := hcut
    rename World => w4
    have HCG := Lib.hid fun (a : Option Addr) (c : Nat) (l : List It) (W : World) (hW : Below w3.heap.size w3 W) (hl : ItsAt W a l) (h5 : l.length ≤ 100000) => iclose_any BM BT bt M F a c l W (HM3.out.below hW) (HT3.out.below hW) hl h5
    unfold CloseTo at HCG
    have hAl := HAB.out.1
    have hBl := HAB.out.2
    go_upto_region 9 with (first
      | (at_builtin; refine wpList_appI rfl (.const (.slice none 0 0)) (.tmp 55) rfl w4.heap.size none 0 [] rfl (OwnI.nil _ _) (Nat.le_refl _) ba B bc rfl HIB.out (by simp; omega) ?_; intro va vc w5 ho5 hg5
         rw [List.nil_append] at ho5 ⊢
         have hb5 : Below w4.heap.size w4 w5 := (Below.refl _ _).grown hg5 (Nat.le_refl _) fun q hq => by cases hq
         have HI5 := Lib.hid (HIA.out.below hb5))
      | (at_builtin; refine wpList_appI rfl (.tmp 56) (.tmp 57) rfl w4.heap.size va vc B rfl ho5 hb5.size aa A ac rfl HI5.out (by omega) ?_; intro va2 vc2 w6 ho6 hg6
         have hb6 : Below w4.heap.size w4 w6 := hb5.grown hg6 hb5.size fun q hq => (own_block ho5.own hq).1
         have hW6 : Below w3.heap.size w3 w6 := HB4.out.trans (hb6.mono HB4.out.size)
         obtain ⟨BA, hBA⟩ : ∃ BA, BA = B ++ A := ⟨_, rfl⟩
         rw [← hBA] at ho6 ⊢
         have hBl2 : BA.length ≤ 22400 := by rw [hBA, List.length_append]; omega
         have HBA2 := Lib.hid hBA
         clear hBA
         have HC6 := Lib.hid (HCG.out va2 vc2 BA w6 hW6 ho6.its (by omega)))
      | (go_at_call 27; (with_reducible refine HC6.out.mono ?_); rintro e w7 ⟨C, ca, cc, rfl, hC1, hC2, hC3, hC4⟩))
    have hW7 : Below w3.heap.size w3 w7 := hW6.trans (hC4.mono hW6.size)
    have HC7 := Lib.hid (HCG.out ia ic its w7 hW7 (HIO.out.its.below hW7) (by omega))
    have HCL := Lib.hid hC2
    have HB74 := Lib.hid (hb6.trans (hC4.mono hb6.size))
    have HC1 := Lib.hid (show CloseP (mkP M F) (B ++ A) C by rw [← HBA2.out]; exact hC1)
    have HC3 := Lib.hid hC3.its
    clear hb5 HI5 ho5 hg5 ho6 hg6 hb6 hW6 HC6 hC1 hC2 hC3 hC4
    go_upto_region 11 with (first
      | (go_at_call 27; (with_reducible refine HC7.out.mono ?_); rintro e w8 ⟨D, da, dc, rfl, hD1, hD2, hD3, hD4⟩
         have hCD : C = D := HC1.out.uniq (CloseP.app hK HA.out HB.out (by rw [List.take_append_drop]; exact hD1))
         have HC := Lib.hid hD1
         subst hCD
         have hI8 : ItsAt w8 ca C := HC3.out.below hD4
         have HS8 := Lib.hid (show Calls Tryd.prog 25 #[.slice ca C.length cc, .slice da C.length dc] w8 (fun e w' => e = .returned (.bool true) ∧ Below w8.heap.size w8 w') from (isame_any ca da cc dc C C w8 hI8 hD3.its (by omega) (by omega)).mono fun e w' ⟨he, n, hw⟩ => ⟨he.trans (by simp), hw ▸ below_drews (Below.refl _ _) n⟩))
      | (go_at_call 25; (with_reducible refine HS8.out.mono ?_); rintro e w9 ⟨rfl, hb9⟩))
    have hb97 : Below w7.heap.size w7 w9 := hD4.trans (hb9.mono hD4.size)
    have hW9 := Lib.hid (hW7.trans (hb97.mono hW7.size))
    have HB94 := Lib.hid (HB74.out.trans (hb97.mono HB74.out.size))
    have HIC := Lib.hid (hI8.below hb9)
    obtain ⟨x0, x1, x2, x3⟩ := HCX.out w9 (HB2.out.trans ((HB3.out.trans (hW9.out.mono HB3.out.size)).mono HB2.out.size))
    clear hW7 HC7 hD2 hD3 hD4 hb9 hI8 HS8 hb97
    by_cases h3 : sym.tmod 3 = 0
    · have hb3 : (sym.tmod 3 == 0) = true := by simp [h3]
      have HB33 := Lib.hid hb3
      clear h3
      have HWT := Lib.hid fun W => within_any sym (g.terms.length : Int) (by omega) (by omega) W
      have HWN := Lib.hid fun W => within_any sym (g.nons.length : Int) (by omega) (by omega) W
      have hrT : 0 ≤ sym % (g.terms.length : Int) ∧ sym % (g.terms.length : Int) < 8 := ⟨Int.emod_nonneg _ (by omega), by have := Int.emod_lt_of_pos sym (show (0 : Int) < (g.terms.length : Int) by omega); omega⟩
      have hrN : 0 ≤ sym % (g.nons.length : Int) ∧ sym % (g.nons.length : Int) < 8 := ⟨Int.emod_nonneg _ (by omega), by have := Int.emod_lt_of_pos sym (show (0 : Int) < (g.nons.length : Int) by omega); omega⟩
      generalize sym % (g.terms.length : Int) = rT at *
      generalize sym % (g.nons.length : Int) = rN at *
      have hwT : IntKind.i64.wrap (1 + rT) = 1 + rT := IntWalk.i64_in _ (by omega)
      have hwN : IntKind.i64.wrap (100 + rN) = 100 + rN := IntWalk.i64_in _ (by omega)
      go_upto_region 14 with (first
        | (go_at_call 10; (with_reducible refine (HWT.out _).mono ?_); rintro e w11 ⟨rfl, hw11⟩; obtain rfl := hw11.symm)
        | (go_at_call 10; (with_reducible refine (HWN.out _).mono ?_); rintro e w11 ⟨rfl, hw11⟩; obtain rfl := hw11.symm))
      clear x0 x1 x2 x3
      generalize 100 + rN = s at *
      have HGO := Lib.hid fun (a : Option Addr) (c : Nat) (l : List It) (W : World) (hW : Below w3.heap.size w3 W) (hl : ItsAt W a l) (h5 : l.length ≤ 100000) => igo_any BM BT bt M F a c l s W (HM3.out.below hW) (HT3.out.below hW) hl h5
      unfold CloseTo at HGO
      have HG1 := Lib.hid (HGO.out ca cc C w9 hW9.out HIC.out (by have := HCL.out; omega))
      go_wp2_with (first
        | (go_at_call 28; (with_reducible refine HG1.out.mono ?_); rintro e wa ⟨X, xa2, xc2, rfl, hX1, hX2, hX3, hX4⟩
           have hWa : Below w3.heap.size w3 wa := hW9.out.trans (hX4.mono hW9.out.size)
           have HG2 := Lib.hid (HGO.out aa ac A wa hWa (HIA.out.below (HB94.out.trans (hX4.mono HB94.out.size))) (by have := HAB.out.1; omega)))
        | (go_at_call 28; (with_reducible refine HG2.out.mono ?_); rintro e wb ⟨GA, ga, gc, rfl, hG1, hG2, hG3, hG4⟩
           have hWb : Below w3.heap.size w3 wb := hWa.trans (hG4.mono hWa.size)
           have HG3 := Lib.hid (HGO.out ba bc B wb hWb (HIB.out.below ((HB94.out.trans (hX4.mono HB94.out.size)).trans (hG4.mono (HB94.out.trans (hX4.mono HB94.out.size)).size))) (by have := HAB.out.2; omega)))
        | (go_at_call 28; (with_reducible refine HG3.out.mono ?_); rintro e wc ⟨GB, ga2, gc2, rfl, hH1, hH2, hH3, hH4⟩
           have hWc : Below w3.heap.size w3 wc := hWb.trans (hH4.mono hWb.size)
           have hGO := hG3.below hH4)
        | (at_builtin; refine wpList_appI rfl (.tmp 89) (.tmp 93) rfl wa.heap.size ga gc GA rfl hGO (hG4.trans (hH4.mono hG4.size)).size ga2 GB gc2 rfl hH3.its (by omega) ?_; intro va vc wd hod hgd
           have hbd : Below wa.heap.size wa wd := (hG4.trans (hH4.mono hG4.size)).grown hgd (hG4.trans (hH4.mono hG4.size)).size fun q hq => (own_block hGO.own hq).1
           have hWd : Below w3.heap.size w3 wd := hWa.trans (hbd.mono hWa.size)
           obtain ⟨GG, hGG⟩ : ∃ GG, GG = GA ++ GB := ⟨_, rfl⟩
           rw [← hGG] at hod ⊢
           have hGl : GG.length ≤ 22400 := by rw [hGG, List.length_append]; omega
           have HGG := Lib.hid hGG
           clear hGG
           have HG5 := Lib.hid (HCG.out va vc GG wd hWd hod.its (by omega)))
        | (go_at_call 27; (with_reducible refine HG5.out.mono ?_); rintro e we ⟨Y, ya, yc, rfl, hY1, hY2, hY3, hY4⟩
           have hWe : Below w3.heap.size w3 we := hWd.trans (hY4.mono hWd.size)
           have hXY : X = Y := CloseP.over hK HA.out HB.out (by rw [List.take_append_drop]; exact HC.out) hG1 hH1 hX1 (by rw [← HGG.out]; exact hY1)
           subst hXY
           have hIX : ItsAt we xa2 X := hX3.its.below (hbd.trans (hY4.mono hbd.size))
           have HG6 := Lib.hid (show Calls Tryd.prog 25 #[.slice xa2 X.length xc2, .slice ya X.length yc] we (fun e w' => e = .returned (.bool true) ∧ Below we.heap.size we w') from (isame_any xa2 ya xc2 yc X X we hIX hY3.its (by omega) (by omega)).mono fun e w' ⟨he, n, hw⟩ => ⟨he.trans (by simp), hw ▸ below_drews (Below.refl _ _) n⟩))
        | (go_at_call 25; (with_reducible refine HG6.out.mono ?_); rintro e wf ⟨rfl, hbf⟩
           have hWf : Below w3.heap.size w3 wf := hWe.trans (hbf.mono hWe.size)
           have hWg : Below S.heap.size S wf := (HB2.out.trans (HB3.out.mono HB2.out.size)).trans (hWf.mono (HB2.out.trans (HB3.out.mono HB2.out.size)).size)
           have HG7 := Lib.hid (HWK.out wf hWg))
        | (go_at_call 31; (with_reducible refine HG7.out.mono ?_); rintro e wg ⟨rfl, hbg⟩))
      go_ret
      exact ⟨rfl, HBA.out.trans ((hWg.trans (hbg.mono hWg.size)).mono HBA.out.size)⟩
    · have hb3 : (sym.tmod 3 == 0) = false := by simp [h3]
      have HB33 := Lib.hid hb3
      clear h3
      have HWT := Lib.hid fun W => within_any sym (g.terms.length : Int) (by omega) (by omega) W
      have hrT : 0 ≤ sym % (g.terms.length : Int) ∧ sym % (g.terms.length : Int) < 8 := ⟨Int.emod_nonneg _ (by omega), by have := Int.emod_lt_of_pos sym (show (0 : Int) < (g.terms.length : Int) by omega); omega⟩
      generalize sym % (g.terms.length : Int) = rT at *
      have hwT : IntKind.i64.wrap (1 + rT) = 1 + rT := IntWalk.i64_in _ (by omega)
      go_upto_region 14 with (go_at_call 10; (with_reducible refine (HWT.out _).mono ?_); rintro e w11 ⟨rfl, hw11⟩; obtain rfl := hw11.symm)
      clear x0 x1 x2 x3
      generalize 1 + rT = s at *
      have HGO := Lib.hid fun (a : Option Addr) (c : Nat) (l : List It) (W : World) (hW : Below w3.heap.size w3 W) (hl : ItsAt W a l) (h5 : l.length ≤ 100000) => igo_any BM BT bt M F a c l s W (HM3.out.below hW) (HT3.out.below hW) hl h5
      unfold CloseTo at HGO
      have HG1 := Lib.hid (HGO.out ca cc C w9 hW9.out HIC.out (by have := HCL.out; omega))
      go_wp2_with (first
        | (go_at_call 28; (with_reducible refine HG1.out.mono ?_); rintro e wa ⟨X, xa2, xc2, rfl, hX1, hX2, hX3, hX4⟩
           have hWa : Below w3.heap.size w3 wa := hW9.out.trans (hX4.mono hW9.out.size)
           have HG2 := Lib.hid (HGO.out aa ac A wa hWa (HIA.out.below (HB94.out.trans (hX4.mono HB94.out.size))) (by have := HAB.out.1; omega)))
        | (go_at_call 28; (with_reducible refine HG2.out.mono ?_); rintro e wb ⟨GA, ga, gc, rfl, hG1, hG2, hG3, hG4⟩
           have hWb : Below w3.heap.size w3 wb := hWa.trans (hG4.mono hWa.size)
           have HG3 := Lib.hid (HGO.out ba bc B wb hWb (HIB.out.below ((HB94.out.trans (hX4.mono HB94.out.size)).trans (hG4.mono (HB94.out.trans (hX4.mono HB94.out.size)).size))) (by have := HAB.out.2; omega)))
        | (go_at_call 28; (with_reducible refine HG3.out.mono ?_); rintro e wc ⟨GB, ga2, gc2, rfl, hH1, hH2, hH3, hH4⟩
           have hWc : Below w3.heap.size w3 wc := hWb.trans (hH4.mono hWb.size)
           have hGO := hG3.below hH4)
        | (at_builtin; refine wpList_appI rfl (.tmp 89) (.tmp 93) rfl wa.heap.size ga gc GA rfl hGO (hG4.trans (hH4.mono hG4.size)).size ga2 GB gc2 rfl hH3.its (by omega) ?_; intro va vc wd hod hgd
           have hbd : Below wa.heap.size wa wd := (hG4.trans (hH4.mono hG4.size)).grown hgd (hG4.trans (hH4.mono hG4.size)).size fun q hq => (own_block hGO.own hq).1
           have hWd : Below w3.heap.size w3 wd := hWa.trans (hbd.mono hWa.size)
           obtain ⟨GG, hGG⟩ : ∃ GG, GG = GA ++ GB := ⟨_, rfl⟩
           rw [← hGG] at hod ⊢
           have hGl : GG.length ≤ 22400 := by rw [hGG, List.length_append]; omega
           have HGG := Lib.hid hGG
           clear hGG
           have HG5 := Lib.hid (HCG.out va vc GG wd hWd hod.its (by omega)))
        | (go_at_call 27; (with_reducible refine HG5.out.mono ?_); rintro e we ⟨Y, ya, yc, rfl, hY1, hY2, hY3, hY4⟩
           have hWe : Below w3.heap.size w3 we := hWd.trans (hY4.mono hWd.size)
           have hXY : X = Y := CloseP.over hK HA.out HB.out (by rw [List.take_append_drop]; exact HC.out) hG1 hH1 hX1 (by rw [← HGG.out]; exact hY1)
           subst hXY
           have hIX : ItsAt we xa2 X := hX3.its.below (hbd.trans (hY4.mono hbd.size))
           have HG6 := Lib.hid (show Calls Tryd.prog 25 #[.slice xa2 X.length xc2, .slice ya X.length yc] we (fun e w' => e = .returned (.bool true) ∧ Below we.heap.size we w') from (isame_any xa2 ya xc2 yc X X we hIX hY3.its (by omega) (by omega)).mono fun e w' ⟨he, n, hw⟩ => ⟨he.trans (by simp), hw ▸ below_drews (Below.refl _ _) n⟩))
        | (go_at_call 25; (with_reducible refine HG6.out.mono ?_); rintro e wf ⟨rfl, hbf⟩
           have hWf : Below w3.heap.size w3 wf := hWe.trans (hbf.mono hWe.size)
           have hWg : Below S.heap.size S wf := (HB2.out.trans (HB3.out.mono HB2.out.size)).trans (hWf.mono (HB2.out.trans (HB3.out.mono HB2.out.size)).size)
           have HG7 := Lib.hid (HWK.out wf hWg))
        | (go_at_call 31; (with_reducible refine HG7.out.mono ?_); rintro e wg ⟨rfl, hbg⟩))
      go_ret
      exact ⟨rfl, HBA.out.trans ((hWg.trans (hbg.mono hWg.size)).mono HBA.out.size)⟩
  · have HN1 := Lib.hid (HN.out.mono fun e w' ⟨hb, he⟩ => (by
      rcases he with ⟨h, _⟩ | ⟨_, h⟩
      · exact absurd h hfr
      · exact ⟨h, hb⟩ : e = Ending.returned (.tuple #[.pointer none, .int .i64 6]) ∧ Below S.heap.size S w'))
    go_wp2_with (first
      | (go_at_call 24; (with_reducible refine HN1.out.mono ?_); rintro e w2 ⟨rfl, hb2⟩)
      | (go_at_call 31; (with_reducible refine (HWK.out _ hb2).mono ?_); rintro e w3 ⟨rfl, hb3⟩))
    go_ret
    exact ⟨rfl, HBA.out.trans ((hb2.trans (hb3.mono hb2.size)).mono HBA.out.size)⟩
theorem itemParts_row (x : RawX) (la : Option Addr) (len lc : Nat) (zs : List Int) (cut sym : Int) (w : World) (hx : RawAt w x) (hr : IsRow .i64 w la len lc zs) (hT : Sl.Tab w) :
    Calls Tryd.prog 6 #[x.v, .slice la len lc, .int .i64 cut, .int .i64 sym] w fun e w' => e = .returned (.bool true) ∧ Below w.heap.size w w' := by
  obtain ⟨h1, h2⟩ := row_len hr
  have h := itemParts_walk x la lc (zs.take len) cut sym w hx (row_cells hr) hT
  rwa [h1] at h
end Go.Proofs.YtbliobeibfecaaaDoor
