/- StatesWhole: walked. -/
import Derived.Test.YtejjdfmobiegdaaDoorStY
import Derived.Test.YtejjdfmobiegdaaDoorStIts
import Derived.Test.YtejjdfmobiegdaaDoorStS
import Derived.Test.YtejjdfmobiegdaaDoorStS2
set_option linter.unusedVariables false
namespace Go.Proofs.YtejjdfmobiegdaaDoor
open Go.RowKit
open Doc

def Come (g : Gr) (all : List StP) (k : Nat) (done : List Int) (q : Nat) : Prop := q = 0 ∨ (∃ (j : Nat) (s : Int), j < k ∧ s ∈ symsG g ∧ goI all j s = (q : Int)) ∨ ∃ s ∈ done, goI all k s = (q : Int)
theorem come_pre {g : Gr} {K : MkP} {all : List StP} (h : Whole g K all) {k : Nat} (hk : k < all.length) : Come g all k [] k := by
  by_cases h0 : k = 0
  · exact .inl h0
  · obtain ⟨j, s, x, h1, h2, h3, h4⟩ := h.pre k (by omega) hk
    refine .inr (.inl ⟨j, s, h1, h3, ?_⟩)
    unfold goI atI toI
    rw [if_pos (by omega), Int.toNat_natCast, h2]
    simp only [h4]
theorem come_next {g : Gr} {all : List StP} {k q : Nat} (h : Come g all (k + 1) [] q) : Come g all k (symsG g) q := by
  rcases h with h | ⟨j, s, h1, h2, h3⟩ | ⟨s, h, _⟩
  · exact .inl h
  · by_cases e : j = k
    · subst e; exact .inr (.inr ⟨s, h2, h3⟩)
    · exact .inr (.inl ⟨j, s, by omega, h2, h3⟩)
  · cases h
theorem whole_ne {g : Gr} {K : MkP} {all : List StP} (h : Whole g K all) {k : Nat} (hk : k < all.length) : itI all (k : Int) ≠ [] := by
  have := h.ne k _ (List.getElem?_eq_getElem hk)
  unfold itI atI
  rw [if_pos (by omega), Int.toNat_natCast, List.getElem?_eq_getElem hk]
  exact this
theorem whole_dist {g : Gr} {K : MkP} {all : List StP} (h : Whole g K all) {i j : Nat} (hi : i < all.length) (hj : j < i) : itI all (i : Int) ≠ itI all (j : Int) := by
  have := h.dist i j _ _ hj (List.getElem?_eq_getElem hi) (List.getElem?_eq_getElem (by omega))
  unfold itI atI
  rw [if_pos (by omega), if_pos (by omega), Int.toNat_natCast, Int.toNat_natCast, List.getElem?_eq_getElem hi, List.getElem?_eq_getElem (show j < all.length by omega)]
  exact this
theorem whole_by0 {g : Gr} {K : MkP} {all : List StP} (h : Whole g K all) : byI all 0 = 0 := by
  obtain ⟨o, ho⟩ := h.z
  unfold byI atI
  rw [if_pos (by omega), show (0 : Int).toNat = 0 from rfl, ho]
theorem byI_end (all : List StP) : byI all (all.length : Int) = -1 := by
  unfold byI atI
  rw [if_pos (by omega), Int.toNat_natCast, List.getElem?_eq_none (Nat.le_refl _)]
def HasS (w : World) (MB : Nat) (P : Nat → Prop) : Prop := ∃ S : Int → Prop, SetM w Tryd.prog 3 codeI MB S ∧ ∀ q : Nat, P q → S (q : Int)
theorem HasS.below {w w' : World} {MB : Nat} {P : Nat → Prop} (h : HasS w MB P) (hb : Below w.heap.size w w') : HasS w' MB P := by
  obtain ⟨S, h1, h2⟩ := h
  exact ⟨S, SetM.below h1 hb (SetM.lt h1), h2⟩
theorem HasS.weak {w : World} {MB : Nat} {P P' : Nat → Prop} (h : HasS w MB P) (e : ∀ q, P' q → P q) : HasS w MB P' := by
  obtain ⟨S, h1, h2⟩ := h
  exact ⟨S, h1, fun q hq => h2 q (e q hq)⟩
theorem HasS.look {w : World} {MB : Nat} {P : Nat → Prop} (h : HasS w MB P) {q : Nat} (hq : P q) (hl : q ≤ 1000000) : (Instr.lookup 59 (.map (some MB)) (.int .i64 (q : Int)) false).run Tryd.prog w = .ok (.bool true) w := by
  obtain ⟨S, h1, h2⟩ := h
  obtain ⟨l, hk⟩ := codeI_key (a := (q : Int)) (by omega) (by omega)
  obtain ⟨x, hx, hr⟩ := SetM.look h1 key_int codeI_inj Tryd.underlying59 (zeroBool w) hk
  rw [hx.2 (h2 q hq)] at hr
  exact hr
theorem HasS.store {w : World} {MB : Nat} {P : Nat → Prop} (h : HasS w MB P) {t : Nat} (hl : t ≤ 1000000) : ∃ w', (Instr.mapUpdate 59 (.map (some MB)) (.int .i64 (t : Int)) (.bool true)).run Tryd.prog w = .ok () w' ∧ HasS w' MB (fun q => q = t ∨ P q) ∧ w.grownBy w' (some MB) ∧ ∃ es c, w.heap[MB]? = some (.map es c) := by
  obtain ⟨S, h1, h2⟩ := h
  obtain ⟨l, hk⟩ := codeI_key (a := (t : Int)) (by omega) (by omega)
  obtain ⟨w', hr, h3, h4⟩ := SetM.store h1 key_int codeI_inj Tryd.underlying59 hk
  obtain ⟨es, c, hh, _⟩ := h1
  refine ⟨w', hr, ⟨_, h3, fun q hq => ?_⟩, h4, es, c, hh⟩
  rcases hq with rfl | hq
  · exact .inl rfl
  · exact .inr (h2 q hq)
theorem own_map {w w' : World} {MB : Nat} {es : Array MapEntry} {c : Nat} (hg : w.grownBy w' (some MB)) (hm : w.heap[MB]? = some (.map es c)) {base e size n : Nat} {v : Value} {xs : List Value} (ho : w.ownsRow base e size v n xs) : w'.ownsRow base e size v n xs :=
  own_same ho fun k hk _ => by
    obtain ⟨_, h2, cu, hc⟩ := own_block ho hk
    refine hg.block k h2 fun e2 => ?_
    injection e2 with e2
    rw [e2, hm] at hc
    cases hc
set_option maxRecDepth 100000 in
set_option maxHeartbeats 16000000 in
theorem statesWhole_walk (x : RawX) (w : World) (hx : RawAt w x) (HT : Sl.Tab w) :
    Calls Tryd.prog 8 #[x.v] w fun e w' => e = .returned (.bool true) ∧ Below w.heap.size w w' := by
  have hck : CheckG x.any := anyF_check x.terms x.nons x.plain
  have hAN := Lib.hid (fun W h => any_gram x W h)
  have HCK := Lib.hid hck
  generalize hgg : x.any = g at *
  have HX := Lib.hid hx
  have HTT := Lib.hid HT
  clear hx hck hgg HT
  obtain ⟨xp, xt, xn, xh, rows, xa, xc, word⟩ := x
  unfold RawX.v at *
  simp only at *
  have hb0 : Below w.heap.size w (w.alloc (.cells #[.int .i64 xp, .int .i64 xt, .int .i64 xn, .int .i64 xh, .slice xa rows.length xc, .string word] 24)) := (Below.refl _ _).alloc (Nat.le_refl _) _
  have HA1 := Lib.hid (hAN.out _ (HX.out.below hb0))
  have HB0 := Lib.hid hb0
  clear hAN hb0
  go_enter Tryd.func8, Tryd.ntmps8
  go_upto_region 2 with (go_at_call 23; refine HA1.out.mono ?_; rintro e w1 ⟨hb1, at_, an, ap, ct, cn, cp, ls, rfl, hg1, hls, hc1, hr1⟩)
  have hll : ls.length = g.prods.length := by rw [← hls, List.length_map]
  rw [hll] at hg1 ⊢
  have hbA := (HB0.out.trans (hb1.mono HB0.out.size)).alloc (Nat.le_trans HB0.out.size hb1.size) (.cells #[.slice at_ g.terms.length ct, .slice an g.nons.length cn, .slice ap g.prods.length cp] 29)
  have hbS : Below w1.heap.size w1 (w1.alloc (.cells #[.slice at_ g.terms.length ct, .slice an g.nons.length cn, .slice ap g.prods.length cp] 29)) := (Below.refl _ _).alloc (Nat.le_refl _) _
  have q0 := heap_alloc_new w1 (.cells #[.slice at_ g.terms.length ct, .slice an g.nons.length cn, .slice ap g.prods.length cp] 29)
  have HG := Lib.hid (hg1.below hbS)
  have HBA := Lib.hid hbA
  have HQ0 := Lib.hid q0
  clear hb1 hg1 hls hc1 hr1 hbA hbS q0 HA1 HX HB0 hll
  generalize w1.alloc (.cells #[.slice at_ g.terms.length ct, .slice an g.nons.length cn, .slice ap g.prods.length cp] 29) = S at *
  generalize w1.heap.size = B1 at *
  have hl1 : B1 < S.heap.size := heap_lt HQ0.out
  have HCX := Lib.hid fun (W : World) (hW : Below S.heap.size S W) => (⟨(blk_cell (i := 0) ((hW.block B1 hl1).trans HQ0.out) rfl).1, (blk_cell (i := 1) ((hW.block B1 hl1).trans HQ0.out) rfl).1, (blk_cell (i := 2) ((hW.block B1 hl1).trans HQ0.out) rfl).1, heap_lt ((hW.block B1 hl1).trans HQ0.out)⟩ : W.cell? ⟨B1, 0, none⟩ = some (.slice at_ g.terms.length ct) ∧ W.cell? ⟨B1, 1, none⟩ = some (.slice an g.nons.length cn) ∧ W.cell? ⟨B1, 2, none⟩ = some (.slice ap g.prods.length cp) ∧ B1 < W.heap.size)
  have HGW := Lib.hid fun (W : World) (hW : Below S.heap.size S W) => HG.out.below hW
  have HTW := Lib.hid fun (W : World) (hW : Below S.heap.size S W) => HTT.out.below (HBA.out.trans (hW.mono HBA.out.size))
  have HWK := Lib.hid fun (W : World) (hW : Below S.heap.size S W) => wakes12_any W (HTW.out W hW)
  have HSZ := Lib.hid HBA.out.size
  have hS0 : Below S.heap.size S S := Below.refl _ _
  have HS0 := Lib.hid hS0
  obtain ⟨x0, x1, x2, x3⟩ := HCX.out S hS0
  clear hS0 HQ0 HG HTT
  by_cases hf : Fru g 100
  · cases hM : machS (kOf g) g 600 with
    | none =>
      have HN := Lib.hid (snew_few (b := 600) (HGW.out S HS0.out) HCK.out (HTW.out S HS0.out) hf (by omega) hM)
      unfold NilTo at HN
      go_upto_region 3 with (go_at_call 26; (with_reducible refine HN.out.mono ?_); rintro e w2 ⟨rfl, hb2⟩)
      have HB2 := Lib.hid hb2
      clear hb2 x0 x1 x2 x3
      go_wp2_with (go_at_call 32; (with_reducible refine (HWK.out w2 HB2.out).mono ?_); rintro e w3 ⟨rfl, hb3⟩)
      go_ret
      exact ⟨rfl, HBA.out.trans ((HB2.out.trans (hb3.mono HB2.out.size)).mono HSZ.out)⟩
    | some all =>
      have HN := Lib.hid (snew_ok (b := 600) (HGW.out S HS0.out) HCK.out (HTW.out S HS0.out) hf (by omega) hM)
      unfold OkTo at HN
      have hn1 := mach_len hM
      have hn6 := mach_bound hM (by omega)
      have HFR := Lib.hid hf
      have HMM := Lib.hid hM
      clear hf hM
      go_upto_region 5 with (go_at_call 26; (with_reducible refine HN.out.mono ?_); rintro e w2 ⟨B, G, sa, sc, ss, rfl, hb2, hps, hKO, hm2⟩)
      have HWH := Lib.hid (mach_whole HCK.out hKO HMM.out)
      have hsl : ss.length = all.length := by rw [← hps]; simp [plS]
      have HW2 := Lib.hid hb2
      have HXM := Lib.hid fun (W : World) (hW : Below w2.heap.size w2 W) => (⟨hm2.below hW, HTW.out W (hb2.trans (hW.mono hb2.size)), HCX.out W (hb2.trans (hW.mono hb2.size))⟩ : MacAt W B _ g G sa sc ss ∧ Sl.Tab W ∧ W.cell? ⟨B1, 0, none⟩ = some (.slice at_ g.terms.length ct) ∧ W.cell? ⟨B1, 1, none⟩ = some (.slice an g.nons.length cn) ∧ W.cell? ⟨B1, 2, none⟩ = some (.slice ap g.prods.length cp) ∧ B1 < W.heap.size)
      have HLN := Lib.hid fun (W : World) (hW : Below w2.heap.size w2 W) => mlen_any B _ g G sa sc ss W (HXM.out W hW).1
      rw [hsl] at HLN
      have HIT := Lib.hid fun (i : Int) (W : World) (hW : Below w2.heap.size w2 W) => mitems_any B _ g G sa sc ss i W (HXM.out W hW).1
      rw [hps] at HIT
      have HGO := Lib.hid fun (i s : Int) (h1 : -1000 ≤ s) (h2 : s ≤ 1000) (W : World) (hW : Below w2.heap.size w2 W) => mgo_any B _ g G sa sc ss i s (by omega) (by omega) W (HXM.out W hW).1
      rw [hps] at HGO
      have HBY := Lib.hid fun (i : Int) (W : World) (hW : Below w2.heap.size w2 W) => mby_any B _ g G sa sc ss i W (HXM.out W hW).1
      rw [hps] at HBY
      have HSYM := Lib.hid fun (W : World) => rsyms_any g at_ an ap ct cn cp g.prods.length W (by have := HCK.out.t8; omega) (by have := HCK.out.n8; omega)
      have hmm := @run_makeMap Tryd.prog
      have hma : HasS (w2.alloc (.map #[] 0)) w2.heap.size (fun _ => False) := ⟨_, SetM.made w2 Tryd.prog 3 codeI, fun q h => h.elim⟩
      obtain ⟨w3, hr3, hS3, hg3, _⟩ := hma.store (t := 0) (by omega)
      have HB3 := Lib.hid (show Below w2.heap.size w2 w3 from ((Below.refl _ _).alloc (Nat.le_refl _) _).grown hg3 (by simp) (fun k hk => by cases hk; exact Nat.le_refl _))
      have HS3 := Lib.hid (hS3.weak (P' := Come g all 0 []) fun q hq => by
        rcases hq with h | ⟨_, _, h, _⟩ | ⟨_, h, _⟩
        · exact .inl h
        · omega
        · cases h)
      clear hb2 hps hm2 hsl hma hS3 hg3 HN hKO HMM x0 x1 x2 x3
      rw [show ((0 : Nat) : Int) = 0 from rfl] at hr3
      go_wp2_with fail
      generalize hMB : w2.heap.size = MB at *
      have HZ := Lib.hid fun (W : World) (h : Below MB w2 W) => (by rw [← hMB]; exact h.size : MB ≤ W.heap.size)
      have HZS := Lib.hid (show S.heap.size ≤ MB by rw [← hMB]; exact HW2.out.size)
      clear hr3 hmm hMB
      go_loopw [7] (fun i wr => ∃ k : Nat, k ≤ all.length ∧ i = .int .i64 k ∧ Hid (Below MB w2 wr) ∧ Hid (HasS wr MB (Come g all k []))) (fun i _ => all.length - (intOf i).toNat)
      case atStart => exact ⟨0, Nat.zero_le _, rfl, HB3, HS3⟩
      case round =>
        clear HB3 HS3
        obtain ⟨k, hk, rfl, HB, HS⟩ := hrel
        rename World => w7
        by_cases hlt : k < all.length
        · have hlt' : (k : Int) < all.length := by omega
          have HLT := Lib.hid hlt
          have hn8 := HCK.out.n8
          have ht8 := HCK.out.t8
          have hlk := HS.out.look (come_pre HWH.out hlt) (by omega)
          have hit0 : 0 < (itI all (k : Int)).length := List.length_pos_iff.2 (whole_ne HWH.out hlt)
          have hit1 : (((itI all (k : Int)).length : Int) == 0) = false := by rw [beq_eq_false_iff_ne]; omega
          have HITk := Lib.hid (HIT.out (k : Int) w7 HB.out)
          obtain ⟨y0, y1, y2, y3⟩ := (HXM.out w7 HB.out).2.2
          clear hlt
          generalize (itI all (k : Int)).length = il at *
          go_upto_region 11 with (first
            | (go_at_call 27; (with_reducible refine (HLN.out w7 HB.out).mono ?_); rintro e w8 ⟨rfl, hw⟩; rw [hw]; clear hw)
            | (go_at_call 31; (with_reducible refine HITk.out.mono ?_); rintro e w8 ⟨a8, c8, rfl, _, _, hb8⟩))
          have HB8 := Lib.hid (HB.out.trans (hb8.mono (HZ.out _ HB.out)))
          have HS8 := Lib.hid (HS.out.below hb8)
          clear hb8 HB HS hlk HITk hit0 hit1 y0 y1 y2 y3
          obtain ⟨y0, y1, y2, y3⟩ := (HXM.out w8 HB8.out).2.2
          go_upto_region 12 with (go_at_call 34; (with_reducible refine (HSYM.out w8).mono ?_); rintro e w9 ⟨a9, c9, rfl, ho9, hb9⟩)
          have HB9 := Lib.hid (HB8.out.trans (hb9.mono (HZ.out _ HB8.out)))
          have HS9 := Lib.hid (HS8.out.below hb9)
          have HO9 := Lib.hid ho9
          clear ho9 hb9 HB8 HS8 y0 y1 y2 y3
          go_loopw [48] (fun i wr => ∃ m : Nat, m ≤ (symsG g).length ∧ i = .int .i64 m ∧ Hid (Below MB w2 wr) ∧ Hid (HasS wr MB (Come g all k ((symsG g).take m))) ∧ Hid (wr.ownsRow w8.heap.size 3 1 (.slice a9 (symsG g).length c9) (symsG g).length (nums (symsG g)))) (fun i _ => (symsG g).length - (intOf i).toNat)
          case atStart => exact ⟨0, Nat.zero_le _, rfl, HB9, by rw [List.take_zero]; exact HS9, HO9⟩
          case round =>
            clear HB9 HS9 HO9
            obtain ⟨m, hm, rfl, HB, HS, HO⟩ := hrel
            rename World => wa
            by_cases hml : m < (symsG g).length
            · have hml' : (m : Int) < (symsG g).length := by omega
              obtain ⟨sym, hsym⟩ : ∃ sym, (symsG g)[m]? = some sym := ⟨_, List.getElem?_eq_getElem hml⟩
              have hsm := List.mem_of_getElem? hsym
              have hsr := mem_symsG.1 hsm
              have hn8 := HCK.out.n8
              have ht8 := HCK.out.t8
              have hl16 : (symsG g).length ≤ 16 := by rw [symsG_len]; omega
              obtain ⟨b1, o1, rfl, hb1, hc1⟩ := (own_cells HO.out).1.get (by intro e; unfold nums at e; rw [List.map_eq_nil_iff] at e; rw [e] at hml; simp at hml)
              have c0 := hc1 m _ (nums_at hsym)
              have hgo := HGO.out (k : Int) sym (by omega) (by omega) wa HB.out
              have HTK := Lib.hid (show (symsG g).take (m + 1) = (symsG g).take m ++ [sym] by rw [List.take_add_one, hsym]; rfl)
              clear hc1 hsym hsr hml
              rcases whole_go HWH.out HLT.out hsm with ⟨h1, h2⟩ | ⟨t, h1, h2, h3, h4, h5, h6⟩
              · rw [h1] at hgo
                have HGG := Lib.hid hgo
                have HSN := Lib.hid (show HasS wa MB (Come g all k ((symsG g).take (m + 1))) from HS.out.weak fun q hq => by
                  rcases hq with h | h | ⟨s, h, h0⟩
                  · exact .inl h
                  · exact .inr (.inl h)
                  · rw [HTK.out, List.mem_append, List.mem_singleton] at h
                    rcases h with h | rfl
                    · exact .inr (.inr ⟨s, h, h0⟩)
                    · omega)
                clear h1 h2 hgo hsm
                go_wp2_with (go_at_call 28; (with_reducible refine HGG.out.mono ?_); rintro e wc ⟨rfl, hw⟩; rw [hw]; clear hw)
                go_roundw
                case rel => exact ⟨m + 1, by omega, by go_num, HB, HSN, HO⟩
                case measure => simp [intOf]; omega
              · rw [h1] at hgo
                have HGG := Lib.hid hgo
                have hby := HBY.out (t : Int) wa HB.out
                rw [h6] at hby
                have HBT := Lib.hid hby
                have ht0 : ((t : Int) == 0) = false := by rw [beq_eq_false_iff_ne]; omega
                have htn : ¬ (t : Int) < 0 := by omega
                have htl : ¬ (t : Int) ≥ (all.length : Int) := by omega
                obtain ⟨wd, hr, hSd, hgd, es, cl, hmb⟩ := HS.out.store (t := t) (by omega)
                have hob : Below MB wa wd := (Below.refl _ _).grown hgd (Nat.le_of_lt (heap_lt hmb)) (fun k hk => by cases hk; exact Nat.le_refl _)
                have HBD := Lib.hid (HB.out.trans hob)
                have HOD := Lib.hid (own_map hgd hmb HO.out)
                have HSD := Lib.hid (show HasS wd MB (Come g all k ((symsG g).take (m + 1))) from hSd.weak fun q hq => by
                  rcases hq with h | h | ⟨s, h, h0⟩
                  · exact .inr (.inl h)
                  · exact .inr (.inr (.inl h))
                  · rw [HTK.out, List.mem_append, List.mem_singleton] at h
                    rcases h with h | rfl
                    · exact .inr (.inr (.inr ⟨s, h, h0⟩))
                    · exact .inl (by omega))
                clear h1 h2 h3 h4 h5 h6 hgo hsm hby hSd hgd hmb hob
                go_wp2_with (first
                  | (go_at_call 28; (with_reducible refine HGG.out.mono ?_); rintro e wc ⟨rfl, hw⟩; rw [hw]; clear hw)
                  | (go_at_call 27; (with_reducible refine (HLN.out wa HB.out).mono ?_); rintro e wc ⟨rfl, hw⟩; rw [hw]; clear hw)
                  | (go_at_call 29; (with_reducible refine HBT.out.mono ?_); rintro e wc ⟨rfl, hw⟩; rw [hw]; clear hw))
                go_roundw
                case rel => exact ⟨m + 1, by omega, by go_num, HBD, HSD, HOD⟩
                case measure => simp [intOf]; omega
            · have hge : ¬ (m : Int) < (symsG g).length := by omega
              have HSN := Lib.hid (show HasS wa MB (Come g all (k + 1) []) from HS.out.weak fun q hq => by
                have := come_next hq
                rwa [List.take_of_length_le (by omega)])
              clear HS HO
              go_wp2_with fail
              go_loopw [11] (fun j wr => ∃ jn : Nat, jn ≤ k ∧ j = .int .i64 jn ∧ Hid (Below MB w2 wr) ∧ Hid (HasS wr MB (Come g all (k + 1) []))) (fun j _ => k - (intOf j).toNat)
              case atStart => exact ⟨0, Nat.zero_le _, rfl, HB, HSN⟩
              case round =>
                clear HB HSN
                obtain ⟨jn, hj, rfl, HB, HS⟩ := hrel
                rename World => wb
                by_cases hjl : jn < k
                · have hjl' : (jn : Int) < (k : Int) := by omega
                  have hdi := whole_dist HWH.out HLT.out hjl
                  have HD := Lib.hid hdi
                  clear hdi
                  go_wp2_with (first
                    | (go_at_call 31; (with_reducible refine (HIT.out (k : Int) wb HB.out).mono ?_); rintro e wc ⟨a5, c5, rfl, ho5, hl5, hb5⟩)
                    | (go_at_call 31; (with_reducible refine (HIT.out (jn : Int) wc (HB.out.trans (hb5.mono (HZ.out _ HB.out)))).mono ?_); rintro e wd ⟨a6, c6, rfl, ho6, hl6, hb6⟩
                       have hsm := rsame_any a5 a6 c5 c6 _ _ wd (ho5.below hb6).its ho6.its (by omega) (by omega)
                       rw [decide_eq_false HD.out] at hsm)
                    | (go_at_call 35; (with_reducible refine hsm.mono ?_); rintro e we ⟨rfl, nn, rfl⟩))
                  go_roundw
                  case rel => exact ⟨jn + 1, by omega, by go_num, Lib.hid (below_drews ((HB.out.trans (hb5.mono (HZ.out _ HB.out))).trans (hb6.mono (Nat.le_trans (HZ.out _ HB.out) hb5.size))) nn), Lib.hid (((HS.out.below hb5).below hb6).below (below_drews (Below.refl _ _) nn))⟩
                  case measure => simp [intOf]; omega
                · have hge : ¬ (jn : Int) < (k : Int) := by omega
                  go_wp2
                  go_roundw
                  case rel => exact ⟨k + 1, by omega, by go_num, HB, HS⟩
                  case measure => simp [intOf]; omega
        · have hge : ¬ (k : Int) < all.length := by omega
          obtain rfl : k = all.length := by omega
          have HB0 := Lib.hid (HBY.out 0 w7 HB.out)
          have HBE := Lib.hid (HBY.out (all.length : Int) w7 HB.out)
          rw [whole_by0 HWH.out] at HB0
          rw [byI_end] at HBE
          go_wp2_with (first
            | (go_at_call 27; (with_reducible refine (HLN.out w7 HB.out).mono ?_); rintro e w8 ⟨rfl, hw⟩; rw [hw]; clear hw)
            | (go_at_call 29; (with_reducible refine HB0.out.mono ?_); rintro e w8 ⟨rfl, hw⟩; rw [hw]; clear hw)
            | (go_at_call 29; (with_reducible refine HBE.out.mono ?_); rintro e w8 ⟨rfl, hw⟩; rw [hw]; clear hw)
            | (go_at_call 32; (with_reducible refine (HWK.out w7 (HW2.out.trans (HB.out.mono HZS.out))).mono ?_); rintro e w9 ⟨rfl, hb9⟩))
          go_ret
          have hz : S.heap.size ≤ w7.heap.size := (HW2.out.trans (HB.out.mono HZS.out)).size
          exact ⟨rfl, HBA.out.trans (((HW2.out.trans (HB.out.mono HZS.out)).trans (hb9.mono hz)).mono HSZ.out)⟩
  · have HN := Lib.hid (snew_empty (b := 600) (HGW.out S HS0.out) HCK.out (HTW.out S HS0.out) hf)
    unfold NilTo at HN
    go_upto_region 3 with (go_at_call 26; (with_reducible refine HN.out.mono ?_); rintro e w2 ⟨rfl, hb2⟩)
    have HB2 := Lib.hid hb2
    clear hb2 x0 x1 x2 x3
    go_wp2_with (go_at_call 32; (with_reducible refine (HWK.out w2 HB2.out).mono ?_); rintro e w3 ⟨rfl, hb3⟩)
    go_ret
    exact ⟨rfl, HBA.out.trans ((HB2.out.trans (hb3.mono HB2.out.size)).mono HSZ.out)⟩
end Go.Proofs.YtejjdfmobiegdaaDoor
