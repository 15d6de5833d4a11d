/- WordParts: walked. -/
import Derived.Test.YtcopadchjobnaaaWPartF
import Derived.Test.YtcopadchjobnaaaWordC
import Derived.Test.YtcopadchjobnaaaWake7
import Derived.Test.YtcopadchjobnaaaAppAll
import Derived.Test.YtcopadchjobnaaaRReach
import Derived.Deep.Cut
import Derived.Deep.CutRange
set_option linter.unusedVariables false
namespace Go.Proofs.Ytcopadchjobnaaa
open Go.RowKit
open Doc

theorem any_nons (x : RawX) : x.any.nons.length ≤ 3 := by
  have h := (anyF_ok x.terms x.nons x.plain).1
  show (anyF x.terms x.nons x.plain).nons.length ≤ 3
  rw [h.no, List.length_take]
  simp; omega
theorem BsAt.none {w : World} {b n S : Nat} (h : BsAt w b n S) {i : Nat} (hi : i < n) (hf : S.testBit i = false) : BsAt (w.setCell ⟨b, i, none⟩ (.bool false)) b n S := by
  unfold BsAt
  rw [heap_set w b i _ _ _ h (by simp [bs]; exact hi)]
  simp only [Array.set!_eq_setIfInBounds, List.setIfInBounds_toArray]
  congr 3
  apply List.ext_getElem?
  intro j
  rw [List.getElem?_set]
  by_cases hij : i = j
  · subst hij
    rw [if_pos rfl, if_pos (by simp [bs]; exact hi), bs_at hi, hf]
  · rw [if_neg hij]
theorem dig_in {S i : Nat} (h : S.testBit i = true) : S ||| sdig (i : Int) = S := Nat.eq_of_testBit_eq fun j => by
  rw [Nat.testBit_or, bit_dig]
  by_cases hj : (i : Int) = (j : Int) ∧ j < 64
  · have : i = j := by omega
    subst this; rw [h]; rfl
  · rw [decide_eq_false hj, Bool.or_false]
/-- What is told of a nonterminal's least word as it lies. -/
theorem rs_at {rs : List WL} {L : Wd.Kn} (hk : kn rs = L) (hz : ∀ p ∈ rs, p.known = false → p.word = []) {i : Nat} {p : WL} (hp : rs[i]? = some p) : Wd.known L i = p.opt ∧ (Wd.known L i).getD [] = p.word ∧ (Wd.known L i).isSome = p.known := by
  have h := known_kn hp
  rw [hk] at h
  refine ⟨h, ?_, ?_⟩
  · rw [h]; unfold WL.opt
    cases hpk : p.known with
    | true => rfl
    | false => exact (hz p (List.mem_of_getElem? hp) hpk).symm
  · rw [h]; unfold WL.opt
    cases p.known <;> rfl
theorem rowAll_len {L : Wd.Kn} (h : Wd.Short L 216) : ∀ r : List Int, (Wd.rowAll L r).length ≤ r.length * 216
  | [] => by simp [Wd.rowAll]
  | s :: r => by
    have ih := rowAll_len h r
    have e : Wd.rowAll L (s :: r) = Wd.partW L s ++ Wd.rowAll L r := by simp [Wd.rowAll]
    have hp : (Wd.partW L s).length ≤ 216 := by
      unfold Wd.partW
      split
      · simp
      · cases hk : Wd.known L (s - 100).toNat with
        | none => simp
        | some w => exact h _ w hk
    rw [e, List.length_append, List.length_cons, Nat.add_mul]; omega
theorem short_any {g : Gr} (h : CheckG g) (hn : g.nons.length ≤ 3) : Wd.Short (Wd.leastF g) 216 := fun k w hk => by
  have h1 := Wd.short_iter (lefts_in h) (fun p hp => (h.pv p hp).2.1) g.nons.length k w hk
  have h2 : 6 ^ g.nons.length ≤ 6 ^ 3 := Nat.pow_le_pow_right (by decide) hn
  omega
theorem co_map (L : Wd.Kn) (i : Nat) : Wd.co (L.map (Option.map List.length)) i = (Wd.known L i).map List.length := by
  unfold Wd.co Wd.known
  rw [List.getElem?_map]
  cases L[i]? with
  | none => rfl
  | some x => cases x <;> rfl

set_option maxRecDepth 100000 in
set_option maxHeartbeats 1500000 in
theorem wordParts_walk (x : RawX) (w : World) (hx : RawAt w x) : Calls Try.prog 14 #[x.v] w fun e w' => e = .returned (.bool true) ∧ Below w.heap.size w w' := by
  have hck : CheckG x.any := anyF_check x.terms x.nons x.plain
  have hn3 := any_nons x
  have hAN := Lib.hid (fun W h => any_gram x W h)
  generalize hgg : x.any = g at *
  have HCK := Lib.hid hck
  have HX := Lib.hid hx
  have hn1 := hck.n1
  have HSH := Lib.hid (short_any hck hn3)
  have HLI := Lib.hid (Wd.least_is (lefts_in hck))
  have HSI := Lib.hid (sym_in hck)
  clear hx hck hgg
  obtain ⟨xp, xt, xn, xh, rows, xa, xc, word⟩ := x
  unfold RawX.v at *
  simp only at *
  have hb0 : Below w.heap.size w (w.alloc (.cells #[.int .i64 xp, .int .i64 xt, .int .i64 xn, .int .i64 xh, .slice xa rows.length xc, .string word] 24)) := (Below.refl _ _).alloc (Nat.le_refl _) _
  have HA1 := Lib.hid (hAN.out _ (HX.out.below hb0))
  have HB0 := Lib.hid hb0
  clear hAN hb0
  go_enter Try.func14, Try.ntmps14
  go_upto_region 2 with (go_at_call 43; refine HA1.out.mono ?_; rintro e w1 ⟨hb1, at_, an, ap, ct, cn, cp, qs, rfl, hg1, hls, hc1, hr1⟩)
  have hbA := (HB0.out.trans (hb1.mono HB0.out.size)).alloc (Nat.le_trans HB0.out.size hb1.size) (.cells #[.slice at_ g.terms.length ct, .slice an g.nons.length cn, .slice ap qs.length cp] 28)
  have hbS : Below w1.heap.size w1 (w1.alloc (.cells #[.slice at_ g.terms.length ct, .slice an g.nons.length cn, .slice ap qs.length cp] 28)) := (Below.refl _ _).alloc (Nat.le_refl _) _
  have q0 := heap_alloc_new w1 (.cells #[.slice at_ g.terms.length ct, .slice an g.nons.length cn, .slice ap qs.length cp] 28)
  have HG := Lib.hid (hg1.below hbS)
  have HC := Lib.hid (hc1.below hbS)
  have HR := Lib.hid (fun p hp => (hr1 p hp).below hbS)
  have HLS := Lib.hid hls
  have HBA := Lib.hid hbA
  have HQ0 := Lib.hid q0
  have hq24 : qs.length ≤ 24 := by have := HCK.out.p24; have : qs.length = g.prods.length := by rw [← hls, List.length_map]
                                   omega
  clear hb1 hg1 hls hc1 hr1 hbA hbS q0 HA1 HX HB0
  generalize w1.alloc (.cells #[.slice at_ g.terms.length ct, .slice an g.nons.length cn, .slice ap qs.length cp] 28) = S at *
  generalize w1.heap.size = B1 at *
  have HD : Hid (∀ W, Below S.heap.size S W → (W.cell? ⟨B1, 0, none⟩ = some (.slice at_ g.terms.length ct) ∧ W.cell? ⟨B1, 1, none⟩ = some (.slice an g.nons.length cn) ∧ W.cell? ⟨B1, 2, none⟩ = some (.slice ap qs.length cp)) ∧ B1 < W.heap.size) := Lib.hid fun W hW =>
    have h := (hW.block B1 (heap_lt HQ0.out)).trans HQ0.out
    ⟨⟨(blk_cell (i := 0) (u := .slice at_ g.terms.length ct) h rfl).1, (blk_cell (i := 1) (u := .slice an g.nons.length cn) h rfl).1, (blk_cell (i := 2) (u := .slice ap qs.length cp) h rfl).1⟩, heap_lt h⟩
  have HLE := Lib.hid (least_any _ g S HG.out HCK.out)
  have HCO := Lib.hid fun W (hW : Below S.heap.size S W) => costs_any _ g W (HG.out.below hW) HCK.out
  obtain ⟨⟨d0, d1, d2⟩, d3⟩ := HD.out S (Below.refl _ _)
  go_upto_region 3 with (go_at_call 59; refine HLE.out.mono ?_; rintro e w3 ⟨hb3, b, rs, rfl, hkn, hrl, hout, hbb⟩)
  clear d0 d1 d2 d3 HLE
  obtain ⟨⟨d0, d1, d2⟩, d3⟩ := HD.out w3 hb3
  have HCO3 := Lib.hid (HCO.out w3 hb3)
  clear HCO
  go_upto_region 4 with (go_at_call 60; refine HCO3.out.mono ?_; rintro e w4 ⟨hb4, Cb, rfl, hfat, hCb⟩)
  clear d0 d1 d2 d3 HCO3
  have hb34 := hb3.trans (hb4.mono hb3.size)
  obtain ⟨⟨d0, d1, d2⟩, d3⟩ := HD.out w4 hb34
  have HOUT := Lib.hid (hout.below hb4)
  have HFAT := Lib.hid hfat
  have HKN := Lib.hid hkn
  have HBW := Lib.hid (HBA.out.trans (hb34.mono HBA.out.size))
  have HC4 := Lib.hid (HC.out.below hb34)
  have HR4 := Lib.hid (fun p hp => (HR.out p hp).below hb34)
  have HQ4 := Lib.hid ((hb34.block B1 (heap_lt HQ0.out)).trans HQ0.out)
  clear hout hfat hkn hb3 hb4 hb34 HC HR HQ0 HD HG HBA hbb hCb
  generalize Wd.leastF g = L at *
  have hmk := fun W => make_bools g.nons.length (by omega) W
  go_upto_region 7 with fail
  clear hmk
  have HM0 : Hid (BsAt (w4.alloc (.cells (bs g.nons.length 0).toArray 4)) w4.heap.size g.nons.length (Wd.metF L ((qs.map Lay.plain).take 0))) := Lib.hid (heap_alloc_new _ _)
  have HB50 := Lib.hid ((Below.refl w4.heap.size w4).alloc (Nat.le_refl _) (.cells (bs g.nons.length 0).toArray 4))
  have e0 := (HB50.out.cell (p := ⟨B1, 2, none⟩) d3).trans d2
  have e3 := Nat.lt_of_lt_of_le d3 HB50.out.size
  generalize w4.alloc (.cells (bs g.nons.length 0).toArray 4) = S5 at *
  go_wp2
  clear e0 e3 d0 d1 d2 d3
  go_loopw [58] (fun i wr => ∃ k : Nat, k ≤ qs.length ∧ i = .int .i64 k ∧ Hid (BsAt wr w4.heap.size g.nons.length (Wd.metF L ((qs.map Lay.plain).take k))) ∧ Hid (Below w4.heap.size w4 wr)) (fun i _ => qs.length - (intOf i).toNat)
  case atStart => exact ⟨0, by omega, rfl, HM0, HB50⟩
  case round =>
    obtain ⟨k, hk, rfl, HM, HB⟩ := hrel
    by_cases hlt : k < qs.length
    · obtain ⟨q, hqk⟩ : ∃ q, qs[k]? = some q := ⟨_, List.getElem?_eq_getElem hlt⟩
      have hqm := List.mem_of_getElem? hqk
      have hqp : q.plain ∈ g.prods := by rw [← HLS.out]; exact List.mem_map_of_mem hqm
      obtain ⟨b1, o1, rfl, hb1, hc1⟩ := (HC4.out.below HB.out).get (by intro e; have := (lays_at qs k q hqk).1; rw [e] at this; simp at this)
      have c0 := hc1 _ _ (lays_at qs k q hqk).1
      have c1 := hc1 _ _ (lays_at qs k q hqk).2
      rw [← Nat.add_assoc] at c1
      have e1 : (k : Int) < qs.length := by omega
      obtain ⟨⟨hl1, hl2⟩, hsy⟩ := HSI.out q.plain hqp
      have hl1 : 100 ≤ q.left := hl1
      have hl2 : q.left < 100 + (g.nons.length : Int) := hl2
      have hr6 : q.right.length ≤ 6 := (HCK.out.pv q.plain hqp).2.1
      obtain ⟨i, hi⟩ := Int.eq_ofNat_of_zero_le (show 0 ≤ q.left - 100 by omega)
      have hin : i < g.nons.length := by omega
      have hki : (q.left - 100).toNat = i := by rw [hi]; rfl
      have HSY := Lib.hid hsy
      have hbA := (Below.refl wr.heap.size wr).alloc (Nat.le_refl _) (.cells #[.int .i64 q.left, .slice q.addr q.right.length q.cap] 79)
      have qA := heap_alloc_new wr (.cells #[.int .i64 q.left, .slice q.addr q.right.length q.cap] 79)
      have HRR := Lib.hid ((HR4.out q hqm).below (HB.out.trans (hbA.mono HB.out.size)))
      have HMM : Hid (BsAt (wr.alloc (.cells #[.int .i64 q.left, .slice q.addr q.right.length q.cap] 79)) w4.heap.size g.nons.length (Wd.metF L ((qs.map Lay.plain).take k))) := Lib.hid ((hbA.block _ (heap_lt HM.out)).trans HM.out)
      have HST := Lib.hid (Wd.met_snoc (L := L) (show (qs.map Lay.plain)[k]? = some (q.left, q.right) by rw [List.getElem?_map, hqk]; rfl))
      have HOK := Lib.hid fun h => Wd.ok_left HLI.out hqp hl1 h
      have z0 := (blk_cell (i := 0) (u := .int .i64 q.left) qA rfl).1
      have z1 := (blk_cell (i := 1) (u := .slice q.addr q.right.length q.cap) qA rfl).1
      have z2 := heap_lt qA
      have HBX := Lib.hid (HB.out.trans (hbA.mono HB.out.size))
      obtain ⟨p, hp⟩ : ∃ p, rs[i]? = some p := ⟨_, List.getElem?_eq_getElem (by omega)⟩
      have hpi := rs_at HKN.out HOUT.out.z hp
      clear hc1 hqk hqm hqp hbA qA hsy HM HB
      obtain ⟨ql, qr, qa, qc⟩ := q
      simp only [Lay.plain] at c0 c1 z0 z1 HRR HMM HST HOK hi hki hl1 hl2 hr6 HBX z2 HSY
      rw [hki] at HOK
      have HPI := Lib.hid hpi
      have HP := Lib.hid hp
      clear hpi hp
      generalize hX2 : wr.alloc (.cells #[.int .i64 ql, .slice qa qr.length qc] 79) = X2 at *
      go_wp2
      clear c0 c1 hX2
      go_loopw [12, 13, 68] (fun v ok j wy => ∃ (m : Nat) (u : List Int) (a : Option Addr) (c : Nat) (o : Bool), m ≤ qr.length ∧ j = .int .i64 m ∧ v = .slice a u.length c ∧ ok = .bool o ∧ Hid (u = Wd.rowAll L (qr.take m)) ∧ Hid (o = Wd.okF L (qr.take m)) ∧ Hid (wy.ownsRow X2.heap.size 3 1 (.slice a u.length c) u.length (nums u)) ∧ Hid (Below X2.heap.size X2 wy)) (fun _ _ j _ => qr.length - (intOf j).toNat)
      case atStart => exact ⟨0, [], none, 0, true, by omega, rfl, rfl, rfl, Lib.hid rfl, Lib.hid rfl, Lib.hid (World.ownsRow_nil _ _ _ _), Lib.hid (Below.refl _ _)⟩
      case round =>
        rename World => wy
        obtain ⟨m, u, a, c, o, hm, rfl, rfl, rfl, HU, HO, HOW, HBY⟩ := hrel
        have hul : u.length ≤ 1296 := by
          rw [HU.out]
          have := rowAll_len HSH.out (qr.take m)
          have h2 : (qr.take m).length ≤ 6 := by rw [List.length_take]; omega
          have h3 : (qr.take m).length * 216 ≤ 6 * 216 := Nat.mul_le_mul_right _ h2
          omega
        have hsz := HBY.out.size
        have hsX := HBX.out.size
        by_cases hml : m < qr.length
        · obtain ⟨s, hs⟩ : ∃ s, qr[m]? = some s := ⟨_, List.getElem?_eq_getElem hml⟩
          obtain ⟨b2, o2, rfl, hb2, hc2⟩ := (HRR.out.below HBY.out).get (by unfold nums; intro e; rw [List.map_eq_nil_iff] at e; rw [e] at hml; simp at hml)
          have u0 := hc2 m _ (nums_at hs)
          have e4 : (m : Int) < qr.length := by omega
          have HRS := Lib.hid (Wd.rowAll_snoc (L := L) hs)
          have HOS := Lib.hid (Wd.okF_snoc (L := L) hs)
          obtain ⟨hs1, hs2⟩ := HSY.out s (List.mem_of_getElem? hs)
          clear hc2 hs
          by_cases ht : s < 100
          · have HU2 : Hid (u ++ [s] = Wd.rowAll L (qr.take (m + 1))) := Lib.hid (by rw [HRS.out, ← HU.out]; unfold Wd.partW; rw [if_pos ht])
            have HO2 : Hid (o = Wd.okF L (qr.take (m + 1))) := Lib.hid (by rw [HOS.out, ← HO.out]; simp [Wd.okS, ht])
            go_wp2_with (at_builtin; refine wpList_app rfl (.tmp 74) (.tmp 76) rfl X2.heap.size a u.length c u rfl (HOW.out.alloc _) (by simp; omega) (some ⟨wy.heap.size, 0, none⟩) [s] 1 rfl (cells_new wy _ _) (by simp; omega) ?_; intro va vc w9 ho9 hg9)
            have HB9 := Lib.hid ((HBY.out.alloc hsz (.cells #[.int .i64 s] 3)).grown hg9 (by simp; omega) (fun k hk => (own_block HOW.out hk).1))
            exact ⟨⟨m + 1, u ++ [s], va, vc, o, by omega, by go_num, by simp, rfl, HU2, HO2, Lib.hid (by rw [List.length_append]; exact ho9), HB9⟩, by simp [intOf]; omega⟩
          · obtain ⟨i2, hi2⟩ := Int.eq_ofNat_of_zero_le (show 0 ≤ s - 100 by omega)
            have hin2 : i2 < g.nons.length := by omega
            obtain ⟨p2, hp2⟩ : ∃ p, rs[i2]? = some p := ⟨_, List.getElem?_eq_getElem (by omega)⟩
            obtain ⟨g1, g2, g3⟩ := rs_at HKN.out HOUT.out.z hp2
            have hp2m := List.mem_of_getElem? hp2
            have hoy := HOUT.out.below (HBX.out.trans (HBY.out.mono hsX))
            have x0 := (blk_cell (i := i2) (u := .slice p2.addr p2.word.length p2.cap) hoy.q (by rw [List.getElem?_toArray, List.getElem?_map, hp2]; rfl)).1
            have x2 := heap_lt hoy.q
            have HPC := Lib.hid (hoy.r p2 hp2m)
            have hfy : FAt wy Cb (L.map (Option.map List.length)) := ((HBX.out.trans (HBY.out.mono hsX)).block Cb (heap_lt HFAT.out)).trans HFAT.out
            have hLn : i2 < (L.map (Option.map List.length)).length := by rw [List.length_map, HLI.out.len]; exact hin2
            have y0 := (blk_cell (i := i2) (u := .float .f64 (Wd.fc (Wd.co (L.map (Option.map List.length)) i2))) hfy (by rw [List.getElem?_toArray]; exact flC_at hLn)).1
            have y2 := heap_lt hfy
            have hcs := (Wd.cost_side (x := Wd.co (L.map (Option.map List.length)) i2) (fun v hv => by
              rw [co_map] at hv
              cases hk2 : Wd.known L i2 with
              | none => rw [hk2] at hv; cases hv
              | some w2 => rw [hk2] at hv; cases hv; have := HSH.out i2 w2 hk2; omega)).1
            have hcoS : (Wd.co (L.map (Option.map List.length)) i2).isSome = p2.known := by rw [co_map, Option.isSome_map]; exact g3
            rw [hcoS] at hcs
            have hcs : (FloatKind.f64.format.order (Wd.fc (Wd.co (L.map (Option.map List.length)) i2)) 9094988921128908188 == some .lt) = p2.known := hcs
            have hpl : p2.word.length ≤ 216 := by
              rw [← g2]
              cases hk2 : Wd.known L i2 with
              | none => simp
              | some w2 => exact HSH.out i2 w2 hk2
            have hs100 : (s - 100).toNat = i2 := by rw [hi2]; rfl
            have HU2 : Hid (u ++ p2.word = Wd.rowAll L (qr.take (m + 1))) := Lib.hid (by rw [HRS.out, ← HU.out]; unfold Wd.partW; rw [if_neg ht, hs100, g2])
            have HO2 : Hid ((o && p2.known) = Wd.okF L (qr.take (m + 1))) := Lib.hid (by rw [HOS.out, ← HO.out]; unfold Wd.okS; rw [hs100, g3, decide_eq_false ht, Bool.false_or])
            have e5 : (i2 : Int) < g.nons.length := by omega
            obtain ⟨pw, pk, pa, pc⟩ := p2
            simp only at x0 HPC hcs hpl HU2 HO2
            generalize Wd.fc (Wd.co (L.map (Option.map List.length)) i2) = zc at *
            clear hoy hfy hLn g1 g2 g3 hp2 hp2m hcoS
            cases o <;> cases pk
            all_goals
              go_wp2_with (at_builtin; refine wpList_app rfl (.tmp 87) (.tmp 92) rfl X2.heap.size a u.length c u rfl HOW.out hsz pa pw pc rfl HPC.out (by omega) ?_; intro va vc w9 ho9 hg9)
              have HB9 := Lib.hid (HBY.out.grown hg9 hsz (fun k hk => (own_block HOW.out hk).1))
              exact ⟨⟨m + 1, u ++ pw, va, vc, _, by omega, by go_num, by simp, rfl, HU2, HO2, Lib.hid (by rw [List.length_append]; exact ho9), HB9⟩, by simp [intOf]; omega⟩
        · have e4 : ¬ (m : Int) < qr.length := by omega
          have hUF : u = Wd.rowAll L qr := by have := HU.out; rwa [List.take_of_length_le (by omega)] at this
          have hOF : o = Wd.okF L qr := by have := HO.out; rwa [List.take_of_length_le (by omega)] at this
          have HMY : Hid (BsAt wy w4.heap.size g.nons.length (Wd.metF L ((qs.map Lay.plain).take k))) := Lib.hid ((HBY.out.block _ (heap_lt HMM.out)).trans HMM.out)
          have HBN := Lib.hid (HBX.out.trans (HBY.out.mono hsX))
          generalize Wd.metF L ((qs.map Lay.plain).take k) = S0 at *
          cases o with
          | false =>
            have HMN : Hid (BsAt wy w4.heap.size g.nons.length (Wd.metF L ((qs.map Lay.plain).take (k + 1)))) := Lib.hid (by
              rw [HST.out]; unfold Wd.hitF; simp only []; rw [← hOF, Bool.false_and, if_neg (by decide)]; exact HMY.out)
            clear hUF hOF
            go_wp2
            exact ⟨⟨k + 1, by omega, by go_num, HMN, HBN⟩, by simp [intOf]; omega⟩
          | true =>
            obtain ⟨wd, hwd, hless⟩ := HOK.out hOF.symm
            obtain ⟨g1, g2, g3⟩ := HPI.out
            have hpk : p.known = true := by rw [← g3, hwd]; rfl
            have hpw : wd = p.word := by rw [← g2, hwd]; rfl
            have hpm := List.mem_of_getElem? HP.out
            have hoy := HOUT.out.below HBN.out
            have x0 := (blk_cell (i := i) (u := .slice p.addr p.word.length p.cap) hoy.q (by rw [List.getElem?_toArray, List.getElem?_map, HP.out]; rfl)).1
            have x2 := heap_lt hoy.q
            have hpc := hoy.r p hpm
            have hfy : FAt wy Cb (L.map (Option.map List.length)) := (HBN.out.block Cb (heap_lt HFAT.out)).trans HFAT.out
            have hLn : i < (L.map (Option.map List.length)).length := by rw [List.length_map, HLI.out.len]; exact hin
            have y0 := (blk_cell (i := i) (u := .float .f64 (Wd.fc (Wd.co (L.map (Option.map List.length)) i))) hfy (by rw [List.getElem?_toArray]; exact flC_at hLn)).1
            have y2 := heap_lt hfy
            have hwl : wd.length ≤ 216 := HSH.out i wd hwd
            have hcs := (Wd.cost_side (x := Wd.co (L.map (Option.map List.length)) i) (fun v hv => by
              rw [co_map, hwd] at hv; cases hv; omega)).2
            have hcoS : (Wd.co (L.map (Option.map List.length)) i).isSome = true := by rw [co_map, Option.isSome_map, hwd]; rfl
            rw [hcoS] at hcs
            have hcs : (FloatKind.f64.format.order (Wd.fc (Wd.co (L.map (Option.map List.length)) i)) 9094988921128908188 == some .gt) = false := hcs
            have hhit : Wd.hitF L (ql, qr) = decide (u = p.word) := by
              unfold Wd.hitF; simp only []; rw [← hOF, Bool.true_and, hki, g2, hUF]
            rw [hhit, hi] at HST
            rw [← hUF, hpw] at hless
            rw [hpw] at hwl
            have e5 : (i : Int) < g.nons.length := by omega
            obtain ⟨m0, mf⟩ := HMY.out.cell hin
            have m2 := heap_lt HMY.out
            obtain ⟨pw, pk, pa, pc⟩ := p
            simp only at x0 hpc hwl hless HST hhit
            have HLL := Lib.hid ((wless_any a pa c pc u pw wy (own_cells HOW.out).1 hpc (by omega) (by omega)).mono fun e w' ⟨he, hw⟩ => (⟨he.trans (by rw [hless]), hw⟩ : e = Ending.returned (.bool false) ∧ w' = wy))
            have HSR := Lib.hid (sameRow_any a pa c pc u pw wy (own_cells HOW.out).1 hpc (by omega) (by omega))
            generalize Wd.fc (Wd.co (L.map (Option.map List.length)) i) = zc at *
            clear hoy hfy hLn g1 g2 g3 hpm hcoS hUF hOF hwd hpw hhit HOK HPI HP
            cases hb : S0.testBit i with
            | true =>
              rw [hb] at m0
              have HMN : Hid (BsAt (wy.setCell ⟨w4.heap.size, i, none⟩ (.bool true)) w4.heap.size g.nons.length (Wd.metF L ((qs.map Lay.plain).take (k + 1)))) := Lib.hid (by
                have h1 := HMY.out.set hin (by omega)
                rw [HST.out]
                split
                · exact h1
                · rw [dig_in hb] at h1; exact h1)
              clear hb
              go_wp2_with (go_at_call 61; refine HLL.out.mono ?_; rintro e w9 ⟨rfl, hw9⟩; obtain rfl := hw9.symm)
              exact ⟨⟨k + 1, by omega, by go_num, HMN, Lib.hid (HBN.out.setCell (p := ⟨w4.heap.size, i, none⟩) (Nat.le_refl _) _)⟩, by simp [intOf]; omega⟩
            | false =>
              rw [hb] at m0
              cases hd : decide (u = pw) with
              | true =>
                rw [hd] at HST HSR
                rw [if_pos rfl] at HST
                have HMN : Hid (∀ n, BsAt ((wy.drewN n).setCell ⟨w4.heap.size, i, none⟩ (.bool true)) w4.heap.size g.nons.length (Wd.metF L ((qs.map Lay.plain).take (k + 1)))) := Lib.hid fun n => by
                  have h1 : BsAt (wy.drewN n) w4.heap.size g.nons.length S0 := HMY.out
                  have h1 := h1.set hin (by omega)
                  rw [HST.out]; exact h1
                clear hb hd
                go_wp2_with (first
                  | (go_at_call 61; refine HLL.out.mono ?_; rintro e w9 ⟨rfl, hw9⟩; obtain rfl := hw9.symm)
                  | (go_at_call 65; refine HSR.out.mono ?_; rintro e w9 ⟨rfl, n9, rfl⟩))
                exact ⟨⟨k + 1, by omega, by go_num, Lib.hid (HMN.out n9), Lib.hid ((below_drews HBN.out n9).setCell (p := ⟨w4.heap.size, i, none⟩) (Nat.le_refl _) _)⟩, by simp [intOf]; omega⟩
              | false =>
                rw [hd] at HST HSR
                rw [if_neg (by decide)] at HST
                have HMN : Hid (∀ n, BsAt ((wy.drewN n).setCell ⟨w4.heap.size, i, none⟩ (.bool false)) w4.heap.size g.nons.length (Wd.metF L ((qs.map Lay.plain).take (k + 1)))) := Lib.hid fun n => by
                  have h1 : BsAt (wy.drewN n) w4.heap.size g.nons.length S0 := HMY.out
                  have h1 := h1.none hin hb
                  rw [HST.out]; exact h1
                clear hb hd
                go_wp2_with (first
                  | (go_at_call 61; refine HLL.out.mono ?_; rintro e w9 ⟨rfl, hw9⟩; obtain rfl := hw9.symm)
                  | (go_at_call 65; refine HSR.out.mono ?_; rintro e w9 ⟨rfl, n9, rfl⟩))
                exact ⟨⟨k + 1, by omega, by go_num, Lib.hid (HMN.out n9), Lib.hid ((below_drews HBN.out n9).setCell (p := ⟨w4.heap.size, i, none⟩) (Nat.le_refl _) _)⟩, by simp [intOf]; omega⟩
    · have e1 : ¬ (k : Int) < qs.length := by omega
      have hfull : (qs.map Lay.plain).take k = g.prods := by rw [List.take_of_length_le (by simp; omega)]; exact HLS.out
      rw [hfull] at HM
      have HMET := Lib.hid fun i (hi : i < g.nons.length) => Wd.met_is (by omega) HLI.out (lefts_in HCK.out) hi
      generalize Wd.metF L g.prods = S0 at *
      clear hfull
      go_wp2
      go_loopw [128] (fun i wy => ∃ j n : Nat, j ≤ g.nons.length ∧ i = .int .i64 j ∧ wy = wr.drewN n) (fun i _ => g.nons.length - (intOf i).toNat)
      case atStart => exact ⟨0, 0, by omega, rfl, rfl⟩
      case round =>
        rename World => wy
        obtain ⟨j, n, hj, rfl, rfl⟩ := hrel
        by_cases hjl : j < g.nons.length
        · have e5 : (j : Int) < g.nons.length := by omega
          have m0 := (HM.out.cell hjl).1
          have m2 := heap_lt HM.out
          have hmet := HMET.out j hjl
          have hfy : FAt wr Cb (L.map (Option.map List.length)) := (HB.out.block Cb (heap_lt HFAT.out)).trans HFAT.out
          have hLn : j < (L.map (Option.map List.length)).length := by rw [List.length_map, HLI.out.len]; exact hjl
          have y0 := (blk_cell (i := j) (u := .float .f64 (Wd.fc (Wd.co (L.map (Option.map List.length)) j))) hfy (by rw [List.getElem?_toArray]; exact flC_at hLn)).1
          have y2 := heap_lt hfy
          have hcs := (Wd.cost_side (x := Wd.co (L.map (Option.map List.length)) j) (fun v hv => by
            rw [co_map] at hv
            cases hk2 : Wd.known L j with
            | none => rw [hk2] at hv; cases hv
            | some w2 => rw [hk2] at hv; cases hv; have := HSH.out j w2 hk2; omega)).1
          have hcoS : (Wd.co (L.map (Option.map List.length)) j).isSome = S0.testBit j := by rw [co_map, Option.isSome_map, hmet]
          rw [hcoS] at hcs
          have hcs : (FloatKind.f64.format.order (Wd.fc (Wd.co (L.map (Option.map List.length)) j)) 9094988921128908188 == some .lt) = S0.testBit j := hcs
          generalize Wd.fc (Wd.co (L.map (Option.map List.length)) j) = zc at *
          clear hmet hfy hLn hcoS
          generalize S0.testBit j = bj at *
          cases bj
          all_goals
            go_upto_region 29 with fail
            go_region
            all_goals
              go_wp2
              exact ⟨⟨j + 1, n + 1, by omega, by go_num, by first | rfl | simp⟩, by simp [intOf]; omega⟩
        · have e5 : ¬ (j : Int) < g.nons.length := by omega
          have HWK := Lib.hid (wakes7_any (wr.drewN n))
          go_wp2_with (go_at_call 62; refine HWK.out.mono ?_; rintro e w9 ⟨rfl, hb9⟩)
          go_ret
          have hs1 := HBW.out.size
          have hx := below_drews (HBW.out.trans (HB.out.mono hs1)) n
          exact ⟨rfl, hx.trans (hb9.mono hx.size)⟩

end Go.Proofs.Ytcopadchjobnaaa
